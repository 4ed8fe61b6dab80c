/-
  Contracts of the document's own Tuple and Key, of pack.Counted and of the document's Counted.
-/
import Derived.Test.YthnpiafpkllbpaaPkQ
namespace Go.Proofs.Ythnpiafpkllbpaa
open Go Go.RowKit

theorem tupL_room {T : List V3} {n : Int} (h : OkT T) (hI : AllI T) (hx : -9223372036854775808 ≤ n ∧ n ≤ 9223372036854775807) : (tupL T).length + (intL n).length ≤ 100000000000000 := by
  have h1 := flat_len (f := oneL) (T := T) fun x hx => oneL_len (h.2 x hx) (hI x hx)
  have h2 := numL_len10 (zigN_lt hx)
  have h3 := h.1
  unfold tupL intL
  rw [List.length_cons]
  omega

set_option maxHeartbeats 2000000 in
set_option maxRecDepth 100000 in
theorem counted_any (v : Value) (T : List V3) (n : Int) (n₀ : Nat) (w : World) (h : TupIn n₀ w v T) (hn : n₀ ≤ w.heap.size) (hI : AllI T) (hx : -9223372036854775808 ≤ n ∧ n ≤ 9223372036854775807) :
    Calls Try.prog 22 #[.agg #[v, .int .i64 n]] w (EndT (fun T => tupL T ++ intL n) T w) := by
  have HT := Lib.hid h
  have HI := Lib.hid hI
  have HX := Lib.hid hx
  clear hI hx
  obtain ⟨p, cap, rfl, l1, q1⟩ := h
  clear q1
  have HB0 := Lib.hid (below_box w (.cells #[.slice p T.length cap, .int .i64 n] 46))
  have HT0 := Lib.hid (HT.out.below (HB0.out.mono hn))
  have HZ0 := Lib.hid (Nat.le_trans hn HB0.out.size)
  have HC0 : Hid ((w.alloc (.cells #[.slice p T.length cap, .int .i64 n] 46)).cell? ⟨w.heap.size, 1, none⟩ = some (.int .i64 n)) := Lib.hid (by rw [cell_of_row _ w.heap.size _ _ _ (0, 0) (heap_alloc_new w _)]; rfl)
  have HL0 : Hid (w.heap.size < (w.alloc (.cells #[.slice p T.length cap, .int .i64 n] 46)).heap.size) := Lib.hid (by simp)
  go_enter Try.func22, Try.ntmps22
  go_wp2_with fail
  refine (tuple_any _ T n₀ _ HT0.out HZ0.out HI.out).mono ?_
  rintro e w1 ⟨hb1, ⟨hok, v1, rfl, ho1⟩ | ⟨hok, rfl⟩⟩
  case inr =>
    have HK := Lib.hid hok
    have HB1 := Lib.hid (below_2 HB0.out hb1)
    clear hok hb1
    go_wp2_with fail
    go_ret2
    exact ⟨HB1.out, .inr ⟨HK.out, rfl⟩⟩
  have HK := Lib.hid hok
  have HB1 := Lib.hid (below_2 HB0.out hb1)
  have HO1 := Lib.hid ho1
  have hc1 : w1.cell? ⟨w.heap.size, 1, none⟩ = some (.int .i64 n) := (hb1.cell (p := ⟨w.heap.size, 1, none⟩) HL0.out).trans HC0.out
  have HL := Lib.hid (tupL_room HK.out HI.out HX.out)
  clear hok hb1 ho1
  go_wp2_with fail
  refine (int_any _ _ HX.out).mono ?_
  rintro e w2 ⟨v2, rfl, ho2, hb2⟩
  have HO2 := Lib.hid ho2
  have HB2 := Lib.hid (below_2 HB1.out hb2)
  have HO12 := Lib.hid ((HO1.out.below hb2).mono HB0.out.size)
  clear ho2 hb2 hc1
  go_wp2_with (at_builtin; refine wpList_app rfl (.tmp 15) (.tmp 18) rfl w.heap.size w2.heap.size w _ _ (tupL T) (intL n) rfl rfl HO12.out HO2.out.in_ HL.out HB2.out (Nat.le_refl _) ?_; intro v3 w3 ho hb3)
  go_ret2
  exact ⟨hb3, .inl ⟨HK.out, _, rfl, ho⟩⟩

end Go.Proofs.Ythnpiafpkllbpaa
