/-
  The law PackOrder's own walk.
  The pack laws' own short, and the law PackWrites' own walk.
  Contracts of pack's reader: take and one; where the bytes are too few, they panic.
-/
import Derived.Test.YtdjhfcopnhcljaaGreatDoorW12
import Derived.Test.YtdjhfcopnhcljaaGreatDoorW11
import Derived.Test.YtdjhfcopnhcljaaGreatDoorW02
namespace Go.Proofs.YtdjhfcopnhcljaaGreatDoor
section
open Go Go.RowKit

theorem fit_I {T : List V3} {w : World} {v : Value} (h : ArgT w v T) : AllI (cutT T) := by
  obtain ⟨_, _, -, -, -, -, h⟩ := h
  exact cutT_I fun x hx => (h x hx).1
theorem ok_all {T : List V3} (h : OkT T) (hi : AllI T) : ∀ x ∈ T, OkV x := fun x hx => isV_ok (h.2 x hx) (hi x hx)
/-- The two keys as texts stand as the tuples stand. -/
theorem key_str {A B : List V3} (ha : OkT A) (hai : AllI A) (hb : OkT B) (hbi : AllI B) {x y : ByteArray} (hx : x = ⟨(keyT A).toArray⟩) (hy : y = ⟨(keyT B).toArray⟩) :
    (cmpT A B = -1 ∧ Op.bytesLess x.toList y.toList = true ∧ (x.toList == y.toList) = false) ∨ (cmpT A B = 0 ∧ Op.bytesLess x.toList y.toList = false ∧ (x.toList == y.toList) = true) ∨ (cmpT A B = 1 ∧ Op.bytesLess x.toList y.toList = false ∧ (x.toList == y.toList) = false) := by
  obtain ⟨h1, h2⟩ := keyT_order A B (ok_all ha hai) (ok_all hb hbi)
  have h3 : (keyT A == keyT B) = decide (keyT A = keyT B) := by rw [Bool.eq_iff_iff]; simp
  rw [← h3] at h2
  rw [hx, hy, Lib.toList_data, Lib.toList_data, h1]
  show _ ∧ _ ∧ (keyT A == keyT B) = _ ∨ _ ∧ _ ∧ (keyT A == keyT B) = _ ∨ _ ∧ _ ∧ (keyT A == keyT B) = _
  rw [h2]
  rcases cmpT_cases A B with h | h | h <;> rw [h] <;> simp
theorem cutT_small (T : List V3) : (cutT T).length ≤ 1000000 := Nat.le_trans (cutT_len T) (by decide)

end
section
open Go Go.RowKit

theorem BytIn.take {n₀ : Nat} {w : World} {p : Option Addr} {cap : Nat} {l : List UInt8} (h : BytIn n₀ w (.slice p l.length cap) l) (n : Nat) (hn : n ≤ l.length) (h0 : 0 < n) : BytIn n₀ w (.slice p n cap) (l.take n) := by
  have hl : (l.take n).length = n := by rw [List.length_take]; omega
  rcases h with ⟨e, rfl⟩ | ⟨a, c, e, h⟩
  · simp at hn; omega
  · injection e with e1 e2 e3
    subst e1 e3
    refine .inr ⟨a, cap, by rw [hl], fun j hj => ?_⟩
    have hj' : j < l.length := by omega
    have := h j hj'
    rw [List.getElem_take]
    exact this
/-- What short answers: the first 3000 bytes. -/
def shortL (l : List UInt8) : List UInt8 := if l.length ≤ 3000 then l else l.take 3000
theorem shortL_len (l : List UInt8) : (shortL l).length ≤ 3000 := by
  unfold shortL
  split
  · assumption
  · rw [List.length_take]; omega
end
section
open Go Go.RowKit

/-- The panic of a reading. -/
def badP : List PanicEntry := [{ v := .iface 25 (.int .i64 30), recovered := false }]
/-- Block R holds the bytes that are still to be read; they lie below n₀. -/
def RestAt (n₀ : Nat) (w : World) (R : Nat) (l : List UInt8) : Prop :=
  n₀ ≤ R ∧ ∃ p cap, w.heap[R]? = some (.cells #[.slice p l.length cap] 263 (0, 0)) ∧ l.length ≤ cap ∧ cap ≤ maxLen ∧ BytIn n₀ w (.slice p l.length cap) l
/-- Nothing that was there has turned but block R. -/
def KeepR (R : Nat) (w w' : World) : Prop := w.grownBy w' (some R)
theorem RestAt.lt {n₀ : Nat} {w : World} {R : Nat} {l : List UInt8} (h : RestAt n₀ w R l) : R < w.heap.size := by
  obtain ⟨-, p, cap, hb, -⟩ := h
  exact (Array.getElem?_eq_some_iff.1 hb).1
theorem BytIn.drop {n₀ : Nat} {w : World} {a : Addr} {cap : Nat} {l : List UInt8} (h : BytIn n₀ w (.slice (some a) l.length cap) l) (n : Nat) (hn : n ≤ l.length) : BytIn n₀ w (.slice (some (a.add n)) (l.length - n) (cap - n)) (l.drop n) := by
  rcases h with ⟨e, -⟩ | ⟨a', c', e, h⟩
  · simp at e
  · injection e with e1 _ e3
    injection e1 with e1
    subst e1 e3
    refine .inr ⟨_, _, by rw [List.length_drop], fun j hj => ?_⟩
    have hj' : n + j < l.length := by rw [List.length_drop] at hj; omega
    obtain ⟨h1, h2⟩ := h (n + j) hj'
    refine ⟨by rw [add_block]; exact h1, ?_⟩
    have hadd : (a.add n).add j = a.add (n + j) := by
      unfold Addr.add
      by_cases hi : n = 0 <;> by_cases hj : j = 0 <;> simp [hi, hj, Nat.add_assoc]
    rw [hadd, List.getElem_drop]
    exact h2
theorem BytIn.set {n₀ : Nat} {w : World} {v : Value} {l : List UInt8} (h : BytIn n₀ w v l) {R j : Nat} (hR : n₀ ≤ R) (u : Value) : BytIn n₀ (w.setCell ⟨R, j, none⟩ u) v l := by
  rcases h with h | ⟨a, cap, rfl, h⟩
  · exact .inl h
  · exact .inr ⟨a, cap, rfl, fun i hi => ⟨(h i hi).1, (World.cell?_setCell_other w _ _ u (fun e => by have h1 := (h i hi).1; have h2 := congrArg Addr.block e; rw [add_block] at h2; simp at h2; omega)).trans (h i hi).2⟩⟩
theorem keep_set (w : World) (R j : Nat) (u : Value) : KeepR R w (w.setCell ⟨R, j, none⟩ u) :=
  ⟨rfl, rfl, rfl, by simp, fun k _ hk => heap_setCell_other w ⟨R, j, none⟩ k u (fun e => hk (by simp [e]))⟩
theorem set_row {w : World} {R : Nat} {v u : Value} (h : w.heap[R]? = some (.cells #[v] 263 (0, 0))) : (w.setCell ⟨R, 0, none⟩ u).heap[R]? = some (.cells #[u] 263 (0, 0)) :=
  heap_setCell_same w R 0 #[v] _ u h

/-- What take answers. -/
def TakeEnd (n₀ R : Nat) (l : List UInt8) (n : Nat) (w : World) (e : Ending) (w' : World) : Prop :=
  ∃ p cap, e = .returned (.slice p n cap) ∧ BytIn n₀ w' (.slice p n cap) (l.take n) ∧ RestAt n₀ w' R (l.drop n) ∧ KeepR R w w'
set_option maxHeartbeats 1000000 in
set_option maxRecDepth 100000 in
theorem take_yes (n₀ R : Nat) (l : List UInt8) (n : Nat) (w : World) (h : RestAt n₀ w R l) (hn : n ≤ l.length) (hn0 : 0 < n) :
    Calls Tryz.prog 207 #[.pointer (some ⟨R, 0, none⟩), .int .u64 n] w (TakeEnd n₀ R l n w) := by
  obtain ⟨hR, p, cap, hb, hc, hm, hi⟩ := h
  unfold maxLen at hm
  have HI := Lib.hid hi
  have HB := Lib.hid hb
  have c0 : w.cell? ⟨R, 0, none⟩ = some (.slice p l.length cap) := cell_of_row w R 0 _ _ (0, 0) hb
  have f0 : w.frozen? ⟨R, 0, none⟩ = false := frozen_of_row w R 0 _ _ hb
  rcases p with _ | a
  · exfalso
    rcases hi with ⟨e, rfl⟩ | ⟨a', c', e, -⟩
    · simp at hn; omega
    · simp at e
  have hi1 : (l.length : Int) ≤ (cap : Int) := by omega
  have hi2 : (cap : Int) ≤ 9223372036854775807 := by omega
  have hi3 : (n : Int) ≤ (l.length : Int) := by omega
  have hi4 : (0 : Int) ≤ (n : Int) := by omega
  have hi5 : (n : Int) ≤ (cap : Int) := by omega
  clear hb hi
  by_cases hcn : cap = n
  · have hl : l.length = n := by omega
    have HE : Hid (TakeEnd n₀ R l n w (.returned (.slice (some a) n n)) (w.setCell ⟨R, 0, none⟩ (.slice (some a) 0 0))) := Lib.hid (by
      subst hcn
      refine ⟨some a, _, rfl, ?_, ⟨hR, some a, 0, ?_, ?_, by unfold maxLen; omega, ?_⟩, keep_set _ _ _ _⟩
      · exact (HI.out.take _ hn hn0).set hR _
      · rw [List.drop_of_length_le (by omega)]; exact set_row HB.out
      · rw [List.drop_of_length_le (by omega)]; exact Nat.le_refl _
      · rw [List.drop_of_length_le (by omega)]; exact .inr ⟨a, 0, rfl, fun j hj => by simp at hj⟩)
    go_enter Tryz.func207, Tryz.ntmps207
    go_wp2_with fail
    go_ret
    exact HE.out
  · have HE : Hid (TakeEnd n₀ R l n w (.returned (.slice (some a) n cap)) (w.setCell ⟨R, 0, none⟩ (.slice (some (a.add n)) (l.length - n) (cap - n)))) := Lib.hid (by
      refine ⟨some a, _, rfl, (HI.out.take _ hn hn0).set hR _, ⟨hR, some (a.add n), cap - n, ?_, ?_, by unfold maxLen; omega, ?_⟩, keep_set _ _ _ _⟩
      · rw [List.length_drop]; exact set_row HB.out
      · rw [List.length_drop]; omega
      · rw [List.length_drop]; exact (HI.out.drop n hn).set hR _)
    go_enter Tryz.func207, Tryz.ntmps207
    go_wp2_with fail
    go_ret
    exact HE.out
set_option maxHeartbeats 1000000 in
set_option maxRecDepth 100000 in
theorem take_no (n₀ R : Nat) (l : List UInt8) (n : Nat) (w : World) (h : RestAt n₀ w R l) (hn : l.length < n) :
    Calls Tryz.prog 207 #[.pointer (some ⟨R, 0, none⟩), .int .u64 n] w fun e w' => e = .panicked badP ∧ w = w' := by
  obtain ⟨hR, p, cap, hb, hc, hm, hi⟩ := h
  unfold maxLen at hm
  have c0 : w.cell? ⟨R, 0, none⟩ = some (.slice p l.length cap) := cell_of_row w R 0 _ _ (0, 0) hb
  have f0 : w.frozen? ⟨R, 0, none⟩ = false := frozen_of_row w R 0 _ _ hb
  have hi1 : (l.length : Int) ≤ (cap : Int) := by omega
  have hi2 : (cap : Int) ≤ 9223372036854775807 := by omega
  have hi3 : (l.length : Int) < (n : Int) := by omega
  clear hb hi
  go_enter Tryz.func207, Tryz.ntmps207
  go_wp2_with fail
  exact ⟨rfl, rfl, rfl⟩

theorem byt_one {n₀ : Nat} {w : World} {p : Option Addr} {cap : Nat} {c : UInt8} (h : BytIn n₀ w (.slice p 1 cap) [c]) : ∃ a, p = some a ∧ w.cell? a = some (.int .u8 (c.toNat : Int)) := by
  rcases h with ⟨-, e⟩ | ⟨a, c', e, h⟩
  · cases e
  · injection e with e1
    subst e1
    have h1 := (h 0 (by simp)).2
    have e0 : a.add 0 = a := by unfold Addr.add; simp
    rw [e0] at h1
    exact ⟨a, rfl, h1⟩
theorem keep_refl (R : Nat) (w : World) : KeepR R w w := ⟨rfl, rfl, rfl, Nat.le_refl _, fun _ _ _ => rfl⟩
/-- What one answers. -/
def OneEnd (n₀ R : Nat) (l : List UInt8) (w : World) (e : Ending) (w' : World) : Prop :=
  (∃ c r, l = c :: r ∧ e = .returned (.int .u8 (c.toNat : Int)) ∧ RestAt n₀ w' R r ∧ KeepR R w w') ∨ (l = [] ∧ e = .panicked badP ∧ KeepR R w w')
set_option maxHeartbeats 1000000 in
set_option maxRecDepth 100000 in
theorem one_any (n₀ R : Nat) (l : List UInt8) (w : World) (h : RestAt n₀ w R l) : Calls Tryz.prog 192 #[.pointer (some ⟨R, 0, none⟩)] w (OneEnd n₀ R l w) := by
  have H := Lib.hid h
  clear h
  match l, H with
  | [], H =>
    go_enter Tryz.func192, Tryz.ntmps192
    go_wp2_with fail
    refine (take_no n₀ R [] 1 w H.out (by simp)).mono ?_
    rintro e w1 ⟨rfl, rfl⟩
    go_wp2_with fail
    exact ⟨rfl, .inr ⟨rfl, rfl, keep_refl _ _⟩⟩
  | c :: r, H =>
    go_enter Tryz.func192, Tryz.ntmps192
    go_wp2_with fail
    refine (take_yes n₀ R (c :: r) 1 w H.out (by simp) (by decide)).mono ?_
    rintro e w1 ⟨p, cap, rfl, hb, hr, hk⟩
    obtain ⟨a, rfl, ha⟩ := byt_one hb
    have HR := Lib.hid hr
    have HK := Lib.hid hk
    clear hb hr hk
    go_wp2_with fail
    go_ret
    exact .inl ⟨c, r, rfl, rfl, HR.out, HK.out⟩
end
end Go.Proofs.YtdjhfcopnhcljaaGreatDoor
