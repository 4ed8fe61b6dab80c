/-
  Contracts of pack.encoded and of the document's own one.
-/
import Derived.Test.YthnpiafpkllbpaaPkN
import Derived.Test.YthnpiafpkllbpaaVal
namespace Go.Proofs.Ythnpiafpkllbpaa
open Go Go.RowKit

/-- A text's bytes in a new row. -/
theorem run_bytes (w : World) (s : ByteArray) : ∃ h c W, (convert 9 22 (.string s)).run Try.prog w = .ok (.slice (some ⟨h, 0, none⟩) s.size c) W ∧ BytIn (w.heap.size + 1) W (.slice (some ⟨h, 0, none⟩) s.size c) s.data.toList ∧ Below w.heap.size w W ∧ w.heap.size + 1 ≤ W.heap.size := by
  refine ⟨w.heap.size, _, _, run_bytes_of_string (P := Try.prog) w 9 22 5 s Try.underlying9 Try.underlying22 Try.underlying5, ?_, (Below.refl _ _).drew.alloc (Nat.le_refl _) _, by simp⟩
  refine .inr ⟨_, _, by rw [← Lib.size_eq], fun j hj => ⟨by simp, ?_⟩⟩
  have hadd : (⟨w.heap.size, 0, none⟩ : Addr).add j = ⟨w.heap.size, j, none⟩ := by unfold Addr.add; split <;> simp_all
  rw [hadd]
  have h := World.cell?_alloc_mark w.drew (bytesRow s (grownCap w s.size 0 5)) 5 ((bytesRow s (grownCap w s.size 0 5)).size, (bytesRow s (grownCap w s.size 0 5)).size + 1) j
  refine h.trans ?_
  have hj' : j < s.data.size := by simpa using hj
  rw [bytesRow_at s _ j hj']
  simp
theorem below_2 {w w1 w2 : World} (h : Below w.heap.size w w1) (h2 : Below w1.heap.size w1 w2) : Below w.heap.size w w2 := h.trans (h2.mono h.size)

theorem tag_of (w : World) (o : Obj) (n : Int) (c : UInt8) (h : (c.toNat : Int) = n) :
    OwnB w.heap.size ((w.alloc o).alloc (.cells #[.int .u8 n] 5)) (.slice (some ⟨w.heap.size + 1, 0, none⟩) 1 1) [c] ∧ Below w.heap.size w ((w.alloc o).alloc (.cells #[.int .u8 n] 5)) := by
  have e : (w.alloc o).heap.size = w.heap.size + 1 := by simp
  have h1 := OwnB.lit w.heap.size (w.alloc o) #[.int .u8 n] [c] 1 (by simp) rfl (by simp) (bytesV_single h)
  rw [e] at h1
  exact ⟨h1, below_box2 _ _ _⟩
theorem intL_room {n : Int} (h : -9223372036854775808 ≤ n ∧ n ≤ 9223372036854775807) : [(0 : UInt8)].length + (intL n).length ≤ 100000000000000 := by
  have := numL_len10 (zigN_lt h)
  simp only [List.length_singleton]
  unfold intL
  omega
theorem textL_room2 {s : ByteArray} (h : s.size ≤ 1000000) : [(0 : UInt8)].length + (textL s.data.toList).length ≤ 100000000000000 := by
  rw [Lib.size_eq] at h
  have := numL_len10 (x := s.data.toList.length) (by omega)
  simp only [List.length_singleton]
  unfold textL
  rw [List.length_append]
  omega

set_option maxHeartbeats 1000000 in
set_option maxRecDepth 100000 in
theorem enc_any (k n : Int) (s : ByteArray) (w : World) (hx : -9223372036854775808 ≤ n ∧ n ≤ 9223372036854775807) (hm : s.size ≤ 1000000) :
    Calls Try.prog 55 #[.agg #[.int .i64 k, .int .i64 n, .string s]] w (EndB (oneL ⟨k, n, s⟩) w) := by
  have HX := Lib.hid hx
  have HM := Lib.hid hm
  clear hx hm
  by_cases hk : k = 1
  · subst hk
    have HO : Hid (oneL ⟨1, n, s⟩ = [1] ++ intL n) := Lib.hid rfl
    have HL := Lib.hid (intL_room HX.out)
    have HT := Lib.hid (tag_of w (.cells #[.int .i64 1, .int .i64 n, .string s] 78) 1 1 rfl)
    go_enter Try.func55, Try.ntmps55
    go_wp2_with fail
    refine (int_any _ _ HX.out).mono ?_
    rintro e w1 ⟨v, rfl, ho, hb⟩
    have HV := Lib.hid ho
    have HB := Lib.hid (below_2 HT.out.2 hb)
    have HT1 := Lib.hid (HT.out.1.below hb)
    clear ho hb
    go_wp2_with (at_builtin; refine wpList_app rfl (.tmp 6) (.tmp 9) rfl w.heap.size w1.heap.size w _ _ [1] (intL n) rfl rfl HT1.out HV.out.in_ HL.out HB.out (Nat.le_refl _) ?_; intro v1 w2 ho hb)
    go_ret
    exact ⟨_, rfl, by rw [HO.out]; exact ho, hb⟩
  · have hk' : (k == 1) = false := by simpa using hk
    have HO : Hid (oneL ⟨k, n, s⟩ = [2] ++ textL s.data.toList) := Lib.hid (by unfold oneL; rw [if_neg hk]; rfl)
    have HL := Lib.hid (textL_room2 HM.out)
    have HT := Lib.hid (tag_of w (.cells #[.int .i64 k, .int .i64 n, .string s] 78) 2 2 rfl)
    obtain ⟨h, c, W, hcv, hin⟩ := run_bytes ((w.alloc (.cells #[.int .i64 k, .int .i64 n, .string s] 78)).alloc (.cells #[.int .u8 2] 5)) s
    have HI := Lib.hid hin
    clear hin
    go_enter Try.func55, Try.ntmps55
    go_wp2_with fail
    refine (text_any _ s.data.toList _ W HI.out.1 HI.out.2.2 (by rw [← Lib.size_eq]; exact HM.out)).mono ?_
    rintro e w1 ⟨v, rfl, ho, hb⟩
    have HV := Lib.hid ho
    have HB := Lib.hid (below_2 (below_2 HT.out.2 HI.out.2.1) hb)
    have HT1 := Lib.hid ((HT.out.1.below HI.out.2.1).below hb)
    clear ho hb
    go_wp2_with (at_builtin; refine wpList_app rfl (.tmp 11) (.tmp 15) rfl w.heap.size w1.heap.size w _ _ [2] (textL s.data.toList) rfl rfl HT1.out HV.out.in_ HL.out HB.out (Nat.le_refl _) ?_; intro v1 w2 ho hb)
    go_ret
    exact ⟨_, rfl, by rw [HO.out]; exact ho, hb⟩
end Go.Proofs.Ythnpiafpkllbpaa
