/-
  Contracts of the document's own Tuple and Key, of pack.Counted and of the document's Counted.
-/
import Derived.Test.YtlebhceejidjiaaPkQ
namespace Go.Proofs.Ytlebhceejidjiaa
open Go Go.RowKit

set_option maxHeartbeats 2000000 in
set_option maxRecDepth 100000 in
theorem rtuple_any (v : Value) (T : List V3) (n₀ : Nat) (w : World) (h : TupIn n₀ w v T) (hn : n₀ ≤ w.heap.size) (hI : AllI T) :
    Calls Try.prog 13 #[v] w (EndT tupL T w) := by
  have HT := Lib.hid h
  have HI := Lib.hid hI
  clear hI
  obtain ⟨p, cap, rfl, l1, q1⟩ := h
  clear q1
  go_enter Try.func13, Try.ntmps13
  go_wp2_with fail
  refine (ris_any _ T n₀ w HT.out hn).mono ?_
  rintro e w1 ⟨⟨hok, rfl⟩ | ⟨hok, rfl⟩, hb1⟩
  case inr =>
    have HK := Lib.hid hok
    clear hok
    go_wp2_with fail
    go_ret2
    exact ⟨hb1, .inr ⟨HK.out, rfl⟩⟩
  have HK := Lib.hid hok
  have h8 : (T.length : Int) ≤ 8 := by have := hok.1; omega
  have h08 : (0 : Int) ≤ (T.length : Int) := by omega
  have HH := Lib.hid (head_of w w1 _ _ (len_byte hok.1) hb1)
  have HF : Hid (∀ x ∈ T, (oneL x).length ≤ 600) := Lib.hid fun x hx => oneL_len (HK.out.2 x hx) (HI.out x hx)
  clear hok hb1
  go_wp2_with fail
  go_loopw [4, 5] (fun b i wr => ∃ k : Nat, k ≤ T.length ∧ i = .int .i64 k ∧ Hid (OwnB w.heap.size wr b (UInt8.ofNat T.length :: (T.take k).flatMap oneL) ∧ Below w.heap.size w wr)) (fun _ i _ => T.length - (intOf i).toNat)
  case atStart => exact ⟨0, Nat.zero_le _, rfl, Lib.hid HH.out⟩
  case round =>
    obtain ⟨k, hk, rfl, H⟩ := hrel
    have h0 : (0 : Int) ≤ (k : Int) := by omega
    by_cases hlt : k < T.length
    · have hlt' : (k : Int) < (T.length : Int) := by omega
      obtain ⟨b, off, cap', hv, hb, hc⟩ := (HT.out.below (H.out.2.mono hn)).some hlt
      injection hv with hp _ hcap
      subst hp hcap
      have hbs := H.out.2.size
      have hb' : b < wr.heap.size := by omega
      obtain ⟨x0, x1, x2⟩ := hc k hlt
      clear hc
      have HS := Lib.hid (flat_take (f := oneL) hlt)
      have HR := Lib.hid (flat_room HF.out HK.out.1 hlt)
      have HZ := Lib.hid (isV_size (HK.out.2 _ (List.getElem_mem hlt)))
      go_wp2_with fail
      refine (rone_any _ _ _ _ (HI.out _ (List.getElem_mem hlt)) (by have := HZ.out; omega)).mono ?_
      rintro e w2 ⟨vk, rfl, ho, hb2⟩
      have HO := Lib.hid ho
      have HB2 := Lib.hid hb2
      clear ho hb2
      go_wp2_with (at_builtin; refine wpList_app rfl (.tmp 19) (.tmp 24) rfl w.heap.size w2.heap.size w _ _ (UInt8.ofNat T.length :: (T.take k).flatMap oneL) (oneL T[k]) rfl rfl (H.out.1.below HB2.out) HO.out.in_ (by have := HR.out; rw [List.length_cons]; omega) (below_2 H.out.2 HB2.out) (Nat.le_refl _) ?_; intro v3 w3 ho hb3)
      go_roundw
      case rel => exact ⟨k + 1, by omega, by go_num, Lib.hid ⟨by rw [HS.out]; exact ho, hb3⟩⟩
      case measure => simp [intOf]; omega
    · have hlt' : (T.length : Int) ≤ (k : Int) := by omega
      obtain rfl : k = T.length := by omega
      have HE : Hid (UInt8.ofNat T.length :: (T.take T.length).flatMap oneL = tupL T) := Lib.hid (by rw [List.take_length]; rfl)
      go_wp2_with fail
      go_ret2
      exact ⟨H.out.2, .inl ⟨HK.out, _, rfl, by rw [← HE.out]; exact H.out.1⟩⟩

theorem tupL_room {T : List V3} {n : Int} (h : OkT T) (hI : AllI T) (hx : -9223372036854775808 ≤ n ∧ n ≤ 9223372036854775807) : (tupL T).length + (intL n).length ≤ 100000000000000 := by
  have h1 := flat_len (f := oneL) (T := T) fun x hx => oneL_len (h.2 x hx) (hI x hx)
  have h2 := numL_len10 (zigN_lt hx)
  have h3 := h.1
  unfold tupL intL
  rw [List.length_cons]
  omega

set_option maxHeartbeats 2000000 in
set_option maxRecDepth 100000 in
theorem counted_any (v : Value) (T : List V3) (n : Int) (n₀ : Nat) (w : World) (h : TupIn n₀ w v T) (hn : n₀ ≤ w.heap.size) (hI : AllI T) (hx : -9223372036854775808 ≤ n ∧ n ≤ 9223372036854775807) :
    Calls Try.prog 14 #[.agg #[v, .int .i64 n]] w (EndT (fun T => tupL T ++ intL n) T w) := by
  have HT := Lib.hid h
  have HI := Lib.hid hI
  have HX := Lib.hid hx
  clear hI hx
  obtain ⟨p, cap, rfl, l1, q1⟩ := h
  clear q1
  have HB0 := Lib.hid (below_box w (.cells #[.slice p T.length cap, .int .i64 n] 35))
  have HT0 := Lib.hid (HT.out.below (HB0.out.mono hn))
  have HZ0 := Lib.hid (Nat.le_trans hn HB0.out.size)
  have HC0 : Hid ((w.alloc (.cells #[.slice p T.length cap, .int .i64 n] 35)).cell? ⟨w.heap.size, 1, none⟩ = some (.int .i64 n)) := Lib.hid (by rw [cell_of_row _ w.heap.size _ _ _ (0, 0) (heap_alloc_new w _)]; rfl)
  have HL0 : Hid (w.heap.size < (w.alloc (.cells #[.slice p T.length cap, .int .i64 n] 35)).heap.size) := Lib.hid (by simp)
  go_enter Try.func14, Try.ntmps14
  go_wp2_with fail
  refine (tuple_any _ T n₀ _ HT0.out HZ0.out HI.out).mono ?_
  rintro e w1 ⟨hb1, ⟨hok, v1, rfl, ho1⟩ | ⟨hok, rfl⟩⟩
  case inr =>
    have HK := Lib.hid hok
    have HB1 := Lib.hid (below_2 HB0.out hb1)
    clear hok hb1
    go_wp2_with fail
    go_ret2
    exact ⟨HB1.out, .inr ⟨HK.out, rfl⟩⟩
  have HK := Lib.hid hok
  have HB1 := Lib.hid (below_2 HB0.out hb1)
  have HO1 := Lib.hid ho1
  have hc1 : w1.cell? ⟨w.heap.size, 1, none⟩ = some (.int .i64 n) := (hb1.cell (p := ⟨w.heap.size, 1, none⟩) HL0.out).trans HC0.out
  have HL := Lib.hid (tupL_room HK.out HI.out HX.out)
  clear hok hb1 ho1
  go_wp2_with fail
  refine (int_any _ _ HX.out).mono ?_
  rintro e w2 ⟨v2, rfl, ho2, hb2⟩
  have HO2 := Lib.hid ho2
  have HB2 := Lib.hid (below_2 HB1.out hb2)
  have HO12 := Lib.hid ((HO1.out.below hb2).mono HB0.out.size)
  clear ho2 hb2 hc1
  go_wp2_with (at_builtin; refine wpList_app rfl (.tmp 15) (.tmp 18) rfl w.heap.size w2.heap.size w _ _ (tupL T) (intL n) rfl rfl HO12.out HO2.out.in_ HL.out HB2.out (Nat.le_refl _) ?_; intro v3 w3 ho hb3)
  go_ret2
  exact ⟨hb3, .inl ⟨HK.out, _, rfl, ho⟩⟩

set_option maxHeartbeats 2000000 in
set_option maxRecDepth 100000 in
theorem rcounted_any (v : Value) (T : List V3) (n : Int) (n₀ : Nat) (w : World) (h : TupIn n₀ w v T) (hn : n₀ ≤ w.heap.size) (hI : AllI T) (hx : -9223372036854775808 ≤ n ∧ n ≤ 9223372036854775807) :
    Calls Try.prog 15 #[.agg #[v, .int .i64 n]] w (EndT (fun T => tupL T ++ intL n) T w) := by
  have HT := Lib.hid h
  have HI := Lib.hid hI
  have HX := Lib.hid hx
  clear hI hx
  obtain ⟨p, cap, rfl, l1, q1⟩ := h
  clear q1
  have HB0 := Lib.hid (below_box w (.cells #[.slice p T.length cap, .int .i64 n] 35))
  have HT0 := Lib.hid (HT.out.below (HB0.out.mono hn))
  have HZ0 := Lib.hid (Nat.le_trans hn HB0.out.size)
  have HC0 : Hid ((w.alloc (.cells #[.slice p T.length cap, .int .i64 n] 35)).cell? ⟨w.heap.size, 1, none⟩ = some (.int .i64 n)) := Lib.hid (by rw [cell_of_row _ w.heap.size _ _ _ (0, 0) (heap_alloc_new w _)]; rfl)
  have HL0 : Hid (w.heap.size < (w.alloc (.cells #[.slice p T.length cap, .int .i64 n] 35)).heap.size) := Lib.hid (by simp)
  go_enter Try.func15, Try.ntmps15
  go_wp2_with fail
  refine (rtuple_any _ T n₀ _ HT0.out HZ0.out HI.out).mono ?_
  rintro e w1 ⟨hb1, ⟨hok, v1, rfl, ho1⟩ | ⟨hok, rfl⟩⟩
  case inr =>
    have HK := Lib.hid hok
    have HB1 := Lib.hid (below_2 HB0.out hb1)
    clear hok hb1
    go_wp2_with fail
    go_ret2
    exact ⟨HB1.out, .inr ⟨HK.out, rfl⟩⟩
  have HK := Lib.hid hok
  have HB1 := Lib.hid (below_2 HB0.out hb1)
  have HO1 := Lib.hid ho1
  have hc1 : w1.cell? ⟨w.heap.size, 1, none⟩ = some (.int .i64 n) := (hb1.cell (p := ⟨w.heap.size, 1, none⟩) HL0.out).trans HC0.out
  have HL := Lib.hid (tupL_room HK.out HI.out HX.out)
  clear hok hb1 ho1
  go_wp2_with fail
  refine (rint_any _ _ HX.out).mono ?_
  rintro e w2 ⟨v2, rfl, ho2, hb2⟩
  have HO2 := Lib.hid ho2
  have HB2 := Lib.hid (below_2 HB1.out hb2)
  have HO12 := Lib.hid ((HO1.out.below hb2).mono HB0.out.size)
  clear ho2 hb2 hc1
  go_wp2_with (at_builtin; refine wpList_app rfl (.tmp 15) (.tmp 18) rfl w.heap.size w2.heap.size w _ _ (tupL T) (intL n) rfl rfl HO12.out HO2.out.in_ HL.out HB2.out (Nat.le_refl _) ?_; intro v3 w3 ho hb3)
  go_ret2
  exact ⟨hb3, .inl ⟨HK.out, _, rfl, ho⟩⟩
end Go.Proofs.Ytlebhceejidjiaa
