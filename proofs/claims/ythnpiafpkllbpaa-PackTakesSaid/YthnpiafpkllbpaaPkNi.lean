/-
  Contracts of pack's reading of an int, of a byte string, and of a value.
-/
import Derived.Test.YthnpiafpkllbpaaPkNm
import Derived.Test.YthnpiafpkllbpaaPkNQ
import Derived.Laws.DeepNot64
namespace Go.Proofs.Ythnpiafpkllbpaa
open Go Go.RowKit

theorem and_one (y : Nat) (h : y < 18446744073709551616) : bits .and .u64 (y : Int) 1 = ((y % 2 : Nat) : Int) := by
  rw [show (1 : Int) = ((1 : Nat) : Int) from rfl, u64_and_nat _ _ h (by decide), Nat.and_one_is_mod]
set_option maxHeartbeats 2000000 in
set_option maxRecDepth 100000 in
theorem rdI_any (n₀ R : Nat) (l : List UInt8) (w : World) (h : RestAt n₀ w R l) : Calls Try.prog 29 #[.pointer (some ⟨R, 0, none⟩)] w (ReadEnd (fun x _ v => v = .int .i64 x) n₀ R (intQ l) w) := by
  have H := Lib.hid h
  clear h
  go_enter Try.func29, Try.ntmps29
  go_wp2_with fail
  refine (rdNum_any n₀ R l w H.out).mono ?_
  rintro e w1 ⟨hk, ⟨y, r, v, ho, rfl, rfl, hr⟩ | ⟨ho, rfl⟩⟩
  · have hy := (numP_all ho).2
    have HK := Lib.hid hk
    have HR := Lib.hid hr
    have HO : Hid (intQ l = some (unzig y, r)) := Lib.hid (by unfold intQ; rw [ho]; rfl)
    clear hk hr ho
    have ha := and_one y hy
    have hd : (y : Int) / 2 = ((y / 2 : Nat) : Int) := by omega
    have hx := i64_not (y / 2) (by omega)
    have hw : wrap64 ((y / 2 : Nat) : Int) = ((y / 2 : Nat) : Int) := by unfold wrap64; omega
    have HU := Lib.hid (show unzig y = if y % 2 = 1 then -1 - ((y / 2 : Nat) : Int) else ((y / 2 : Nat) : Int) from rfl)
    obtain ⟨q, hq⟩ : ∃ q, q = y / 2 := ⟨_, rfl⟩
    rw [← hq] at hd hx hw HU
    have HW := Lib.hid hw
    rcases Nat.mod_two_eq_zero_or_one y with h2 | h2
    · rw [h2] at ha HU
      clear hq h2 hy
      go_wp2_with fail
      go_ret
      exact ⟨HK.out, .inl ⟨_, _, _, HO.out, rfl, by rw [HU.out]; exact congrArg (Value.int .i64) HW.out, HR.out⟩⟩
    · rw [h2] at ha HU
      clear hq h2 hy
      go_wp2_with fail
      go_ret
      exact ⟨HK.out, .inl ⟨_, _, _, HO.out, rfl, by rw [HU.out]; rfl, HR.out⟩⟩
  · have HK := Lib.hid hk
    have HO : Hid (intQ l = none) := Lib.hid (by unfold intQ; rw [ho]; rfl)
    clear hk ho
    go_wp2_with fail
    exact ⟨rfl, HK.out, .inr ⟨HO.out, rfl⟩⟩

/-- Nothing is taken. -/
theorem slice_zero {n₀ : Nat} {w : World} {p : Option Addr} {cap : Nat} {l : List UInt8} (h : BytIn n₀ w (.slice p l.length cap) l) : BytIn n₀ w (.slice p 0 cap) [] := by
  rcases h with ⟨e, rfl⟩ | ⟨a, c, e, -⟩
  · exact .inl ⟨e, rfl⟩
  · injection e with e1 _ e3
    subst e1 e3
    exact .inr ⟨a, cap, rfl, fun j hj => by simp at hj⟩
set_option maxHeartbeats 1000000 in
set_option maxRecDepth 100000 in
theorem take_zero (n₀ R : Nat) (l : List UInt8) (w : World) (h : RestAt n₀ w R l) :
    Calls Try.prog 50 #[.pointer (some ⟨R, 0, none⟩), .int .u64 0] w (TakeEnd n₀ R l 0 w) := by
  obtain ⟨hR, p, cap, hb, hc, hm, hi⟩ := h
  unfold maxLen at hm
  have c0 : w.cell? ⟨R, 0, none⟩ = some (.slice p l.length cap) := cell_of_row w R 0 _ _ (0, 0) hb
  have f0 : w.frozen? ⟨R, 0, none⟩ = false := frozen_of_row w R 0 _ _ hb
  have hi1 : (l.length : Int) ≤ (cap : Int) := by omega
  have hi2 : (cap : Int) ≤ 9223372036854775807 := by omega
  have hi3 : (0 : Int) ≤ (l.length : Int) := by omega
  have hi5 : (0 : Int) ≤ (cap : Int) := by omega
  have HE : Hid (TakeEnd n₀ R l 0 w (.returned (.slice p 0 cap)) (w.setCell ⟨R, 0, none⟩ (.slice p l.length cap))) := Lib.hid
    ⟨p, cap, rfl, (slice_zero hi).set hR _, ⟨hR, p, cap, set_row hb, hc, by unfold maxLen; exact hm, hi.set hR _⟩, keep_set _ _ _ _⟩
  rcases hi with ⟨e, rfl⟩ | ⟨a, c', e, -⟩
  · injection e with e1 e2 e3
    subst e1 e3
    clear e2 hb
    go_enter Try.func50, Try.ntmps50
    go_wp2_with fail
    go_ret
    exact HE.out
  · injection e with e1 _ e3
    subst e1 e3
    clear hb
    go_enter Try.func50, Try.ntmps50
    go_wp2_with fail
    go_ret
    exact HE.out
theorem take_any (n₀ R : Nat) (l : List UInt8) (n : Nat) (w : World) (h : RestAt n₀ w R l) :
    Calls Try.prog 50 #[.pointer (some ⟨R, 0, none⟩), .int .u64 n] w fun e w' => (n ≤ l.length ∧ TakeEnd n₀ R l n w e w') ∨ (l.length < n ∧ e = .panicked badP ∧ w = w') := by
  rcases Nat.lt_or_ge l.length n with hn | hn
  · exact (take_no n₀ R l n w h hn).mono fun e w' he => .inr ⟨hn, he⟩
  · rcases Nat.eq_zero_or_pos n with rfl | h0
    · exact (take_zero n₀ R l w h).mono fun e w' he => .inl ⟨hn, he⟩
    · exact (take_yes n₀ R l n w h hn h0).mono fun e w' he => .inl ⟨hn, he⟩
end Go.Proofs.Ythnpiafpkllbpaa
