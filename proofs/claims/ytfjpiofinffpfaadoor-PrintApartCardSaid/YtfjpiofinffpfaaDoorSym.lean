/-
  Contract of the document's own symbol: the bytes between the quotes, read loosely.
-/
import Derived.Test.YtfjpiofinffpfaaDoorWhole
import Derived.Test.YtfjpiofinffpfaaDoorUnq
import Derived.Deep.RegionWith
namespace Go.Proofs.YtfjpiofinffpfaaDoor
open Go Go.RowKit

theorem drop_at (s : ByteArray) (i : Nat) (h : i < s.size) : s.data.toList.drop i = s[i] :: s.data.toList.drop (i + 1) := by
  have hl : i < s.data.toList.length := by rw [← Lib.size_eq]; exact h
  rw [List.drop_eq_getElem_cons hl]
  rfl
theorem u8_ne_of {c d : UInt8} {n : Int} (hd : (d.toNat : Int) = n) (g : ((c.toNat : Int) != n) = true) : c ≠ d := by
  rintro rfl
  rw [hd] at g
  simp at g
theorem u8_is_of {c d : UInt8} {n : Int} (hd : (d.toNat : Int) = n) (g : ((c.toNat : Int) != n) = false) : c = d := by
  have g' : (c.toNat : Int) = n := by simpa using g
  apply UInt8.toNat_inj.1
  omega
theorem u8_off {c d : UInt8} {n : Int} (hd : (d.toNat : Int) = n) (g : ((c.toNat : Int) == n) = false) : c ≠ d := by
  rintro rfl
  rw [hd] at g
  simp at g
theorem one_plain (s : ByteArray) (i : Nat) (h : i < s.size) (g : ((s[i].toNat : Int) != 92) = true) : symOne (s.data.toList.drop i) = some (s[i], 1) := by
  rw [drop_at s i h]
  have hne := u8_ne_of (d := 92) rfl g
  simp [symOne, hne]
theorem one_none (s : ByteArray) (i : Nat) (h : i < s.size) (g : ((s[i].toNat : Int) != 92) = false) (h1 : ¬ i + 1 < s.size) : symOne (s.data.toList.drop i) = none := by
  rw [drop_at s i h, u8_is_of (d := 92) rfl g, List.drop_of_length_le (by rw [← Lib.size_eq]; omega)]
  rfl
theorem one_n (s : ByteArray) (i : Nat) (h : i + 1 < s.size) (g : ((s[i].toNat : Int) != 92) = false) (g1 : ((s[i + 1].toNat : Int) == 110) = true) : symOne (s.data.toList.drop i) = some (10, 2) := by
  rw [drop_at s i (by omega), u8_is_of (d := 92) rfl g, drop_at s (i + 1) h, u8_eq_of (d := 110) rfl g1]
  rfl
theorem one_t (s : ByteArray) (i : Nat) (h : i + 1 < s.size) (g : ((s[i].toNat : Int) != 92) = false) (g1 : ((s[i + 1].toNat : Int) == 116) = true) : symOne (s.data.toList.drop i) = some (9, 2) := by
  rw [drop_at s i (by omega), u8_is_of (d := 92) rfl g, drop_at s (i + 1) h, u8_eq_of (d := 116) rfl g1]
  rfl
theorem one_x (s : ByteArray) (i : Nat) (h : i + 3 < s.size) (g : ((s[i].toNat : Int) != 92) = false) (g1 : ((s[i + 1].toNat : Int) == 120) = true) (h2 : 0 ≤ hexR s[i + 2]) (h3 : 0 ≤ hexR s[i + 3]) : symOne (s.data.toList.drop i) = some (UInt8.ofNat (hexR s[i + 2] * 16 + hexR s[i + 3]).toNat, 4) := by
  rw [drop_at s i (by omega), u8_is_of (d := 92) rfl g, drop_at s (i + 1) (by omega), u8_eq_of (d := 120) rfl g1, drop_at s (i + 1 + 1) (by omega), drop_at s (i + 1 + 1 + 1) h]
  have e : (0 ≤ hexR (s[i + 1 + 1]'(by omega)) ∧ 0 ≤ hexR (s[i + 1 + 1 + 1]'h)) := ⟨h2, h3⟩
  simp only [symOne, ne_eq, not_true_eq_false, if_false, if_pos e]
  rfl
theorem one_d (s : ByteArray) (i : Nat) (h : i + 1 < s.size) (g : ((s[i].toNat : Int) != 92) = false) (g1 : ((s[i + 1].toNat : Int) == 110) = false) (g2 : ((s[i + 1].toNat : Int) == 116) = false)
    (hd : ((s[i + 1].toNat : Int) == 120) = false ∨ ¬ i + 3 < s.size ∨ ∃ h3 : i + 3 < s.size, ¬ 0 ≤ hexR (s[i + 2]'(by omega)) ∨ ¬ 0 ≤ hexR (s[i + 3]'h3)) : symOne (s.data.toList.drop i) = some (s[i + 1], 2) := by
  rw [drop_at s i (by omega), u8_is_of (d := 92) rfl g, drop_at s (i + 1) h]
  simp only [symOne, ne_eq, not_true_eq_false, if_false, if_neg (u8_off (d := 110) rfl g1), if_neg (u8_off (d := 116) rfl g2)]
  split
  · rename_i hx
    rcases hd with hd | hd | ⟨h3, hd⟩
    · exact absurd hx (u8_off (d := 120) rfl hd)
    · have hl : (s.data.toList.drop (i + 1 + 1)).length < 2 := by rw [List.length_drop, ← Lib.size_eq]; omega
      match hq : s.data.toList.drop (i + 1 + 1), hl with
      | [], _ => rfl
      | [_], _ => rfl
    · rw [drop_at s (i + 1 + 1) (by omega), drop_at s (i + 1 + 1 + 1) h3]
      have e : ¬ (0 ≤ hexR (s[i + 1 + 1]'(by omega)) ∧ 0 ≤ hexR (s[i + 1 + 1 + 1]'h3)) := fun ⟨a, b⟩ => hd.elim (fun x => x a) (fun x => x b)
      simp only [if_neg e]
  · rfl

/-- Behind the first i bytes, which spell acc. -/
def SymAt (s : ByteArray) (i : Nat) (acc : List UInt8) : Prop := ∃ f, (s.data.toList.drop i).length ≤ f ∧ symL s.data.toList = symGo f acc (s.data.toList.drop i)
theorem SymAt.start {s : ByteArray} (h : 2 ≤ s.size) (g : ((s[0].toNat : Int) != 34) = false) : SymAt s 1 [] := by
  refine ⟨s.data.toList.length, by simp, ?_⟩
  unfold symL
  rw [if_neg, List.drop_one]
  rintro (e | e)
  · rw [← Lib.size_eq] at e
    omega
  · rw [head_at (s := s) (by omega), u8_is_of (d := 34) rfl g] at e
    exact e rfl
theorem sym_no {s : ByteArray} (h : s.size < 2 ∨ ∃ h0 : 0 < s.size, ((s[0].toNat : Int) != 34) = true) : symL s.data.toList = ([], false) := by
  unfold symL
  rw [if_pos]
  rcases h with h | ⟨h0, h⟩
  · left
    rw [← Lib.size_eq]; exact h
  · right
    rw [head_at h0]
    intro e
    exact u8_ne_of (d := 34) rfl h (by simpa using e)
theorem SymAt.bad {s : ByteArray} {i : Nat} {acc : List UInt8} (h : SymAt s i acc) (hi : i < s.size) (g : ((s[i].toNat : Int) != 34) = true) (hn : symOne (s.data.toList.drop i) = none) : symL s.data.toList = ([], false) := by
  obtain ⟨f, hf, e⟩ := h
  rw [drop_at s i hi] at hf e hn
  cases f with
  | zero => simp at hf
  | succ f =>
    rw [e]
    unfold symGo
    rw [if_neg (u8_ne_of (d := 34) rfl g), hn]
theorem SymAt.quote {s : ByteArray} {i : Nat} {acc : List UInt8} (h : SymAt s i acc) (hi : i < s.size) (g : ((s[i].toNat : Int) != 34) = false) : symL s.data.toList = (acc, decide (i + 1 = s.size)) := by
  obtain ⟨f, hf, e⟩ := h
  rw [drop_at s i hi] at hf e
  cases f with
  | zero => simp at hf
  | succ f =>
    rw [e]
    unfold symGo
    rw [if_pos (u8_is_of (d := 34) rfl g)]
    congr 1
    rw [Bool.eq_iff_iff]
    simp only [List.isEmpty_iff, List.drop_eq_nil_iff, decide_eq_true_eq, ← Lib.size_eq]
    omega
theorem SymAt.end_ {s : ByteArray} {i : Nat} {acc : List UInt8} (h : SymAt s i acc) (hi : i = s.size) : symL s.data.toList = (acc, false) := by
  obtain ⟨f, hf, e⟩ := h
  rw [List.drop_of_length_le (by rw [← Lib.size_eq]; omega)] at e
  rw [e]
  cases f <;> rfl
theorem SymAt.step {s : ByteArray} {i n : Nat} {acc : List UInt8} {x : UInt8} (h : SymAt s i acc) (hi : i < s.size) (g : ((s[i].toNat : Int) != 34) = true) (hn : symOne (s.data.toList.drop i) = some (x, n)) (h1 : 1 ≤ n) : SymAt s (i + n) (acc ++ [x]) := by
  obtain ⟨f, hf, e⟩ := h
  have hdd : (s.data.toList.drop i).drop n = s.data.toList.drop (i + n) := List.drop_drop
  rw [drop_at s i hi] at hf e hn hdd
  cases f with
  | zero => simp at hf
  | succ f =>
    refine ⟨f, ?_, ?_⟩
    · rw [← hdd, List.length_drop]
      simp at hf ⊢
      omega
    · rw [e, ← hdd]
      conv => lhs; unfold symGo
      rw [if_neg (u8_ne_of (d := 34) rfl g), hn]

/-- What holds at the head of a round. -/
def SymRel (s : ByteArray) (w : World) (v y : Value) (wr : World) : Prop :=
  ∃ (i : Nat) (acc : List UInt8), 1 ≤ i ∧ i ≤ s.size ∧ y = .int .i64 i ∧ wr.ownsRow w.heap.size 5 1 v acc.length (Lib.byteCells acc) ∧ SymAt s i acc ∧ acc.length ≤ i ∧ Below w.heap.size w wr
theorem SymRel.on {s : ByteArray} {w wr w3 : World} {v : Value} {i n : Nat} {acc : List UInt8} {x : UInt8} {z : Int} {y : Value} (hn : i + n ≤ s.size) (h1 : 1 ≤ n) (hy : y = .int .i64 ((i : Int) + n)) (hz : z = (x.toNat : Int)) (hal : acc.length ≤ i)
    (hown : w3.ownsRow w.heap.size 5 1 v (acc.length + 1) (Lib.byteCells acc ++ [.int .u8 z])) (hs : SymAt s (i + n) (acc ++ [x])) (hb : Below w.heap.size w w3) (_ : Below w.heap.size w wr) : SymRel s w v y w3 := by
  refine ⟨i + n, acc ++ [x], by omega, hn, ?_, ?_, hs, ?_, hb⟩
  · rw [hy]; go_num
  · subst hz
    exact own_step hown rfl (by simp) (by simp [Lib.byteCells])
  · simp; omega
/-- What the document's symbol answers. -/
def SymEnd (s : ByteArray) (w : World) (e : Ending) (w' : World) : Prop := e = .returned (.tuple #[.string ⟨(symL s.data.toList).1.toArray⟩, .bool (symL s.data.toList).2]) ∧ Below w.heap.size w w'
theorem SymEnd.mk_ {s : ByteArray} {w w' : World} {l : List UInt8} {b b' : Bool} (h : symL s.data.toList = (l, b)) (hbb : b' = b) (hb : Below w.heap.size w w') : SymEnd s w (.returned (.tuple #[.string ⟨l.toArray⟩, .bool b'])) w' := by
  unfold SymEnd
  rw [h, hbb]
  exact ⟨rfl, hb⟩
theorem last_is (i n : Nat) : ((i : Int) == (n : Int) - 1) = decide (i + 1 = n) := by
  rw [Bool.eq_iff_iff]
  simp
  omega
theorem last_not (n : Nat) : ((n : Int) == (n : Int) - 1) = false := by
  rw [beq_eq_false_iff_ne]
  omega

end Go.Proofs.YtfjpiofinffpfaaDoor
