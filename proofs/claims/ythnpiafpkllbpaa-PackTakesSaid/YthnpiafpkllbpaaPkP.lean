/-
  Plain facts on bytes: numbers by seven bits, keys of values; keys stand in the order of their tuples. No program is named here.
-/
import Derived.Test.YthnpiafpkllbpaaTupP
namespace Go.Proofs.Ythnpiafpkllbpaa
open Go

/-- The bytes of a number: seven bits each, the lowest first. -/
def numL (x : Nat) : List UInt8 := if x < 128 then [UInt8.ofNat x] else UInt8.ofNat (x % 128 + 128) :: numL (x / 128)
termination_by x
decreasing_by omega
theorem numL_lt {x : Nat} (h : x < 128) : numL x = [UInt8.ofNat x] := by rw [numL, if_pos h]
theorem numL_ge {x : Nat} (h : 128 ≤ x) : numL x = UInt8.ofNat (x % 128 + 128) :: numL (x / 128) := by rw [numL, if_neg (by omega)]
theorem numL_len (k : Nat) : ∀ x, x < 128 ^ (k + 1) → (numL x).length ≤ k + 1 := by
  induction k with
  | zero => intro x h; rw [numL_lt (by simpa using h)]; simp
  | succ k ih =>
    intro x h
    rcases Nat.lt_or_ge x 128 with h1 | h1
    · rw [numL_lt h1]; simp
    · rw [numL_ge h1]
      have := ih (x / 128) (by rw [Nat.div_lt_iff_lt_mul (by decide)]; simpa [Nat.pow_succ] using h)
      simp only [List.length_cons]; omega
theorem numL_len10 {x : Nat} (h : x < 18446744073709551616) : (numL x).length ≤ 10 := numL_len 9 x (by omega)
/-- The number under which an int is kept. -/
def zigN (x : Int) : Nat := if x < 0 then (-2 * x - 1).toNat else (2 * x).toNat
def intL (x : Int) : List UInt8 := numL (zigN x)
def textL (l : List UInt8) : List UInt8 := numL l.length ++ l
def oneL (v : V3) : List UInt8 := if v.k = 1 then 1 :: intL v.n else 2 :: textL v.s.data.toList
def tupL (T : List V3) : List UInt8 := UInt8.ofNat T.length :: T.flatMap oneL

/-- The lowest k bytes of a number, the highest first. -/
def beL : Nat → Nat → List UInt8
  | 0, _ => []
  | k + 1, x => UInt8.ofNat (x / 256 ^ k % 256) :: beL k x
def keyI (n : Int) : List UInt8 := 1 :: beL 8 (n + 9223372036854775808).toNat
/-- A symbol's bytes in a key. -/
def escB (c : UInt8) : List UInt8 := if c = 0 then [0, 255] else [c]
def keyS (l : List UInt8) : List UInt8 := 2 :: (l.flatMap escB ++ [0, 1])
def keyV (v : V3) : List UInt8 := if v.k = 1 then keyI v.n else keyS v.s.data.toList
def keyT (T : List V3) : List UInt8 := T.flatMap keyV
theorem keyT_cons (a : V3) (x : List V3) : keyT (a :: x) = keyV a ++ keyT x := rfl
theorem beL_len (k x : Nat) : (beL k x).length = k := by induction k with | zero => rfl | succ k ih => simp [beL, ih]

theorem bl_append (c x y : List UInt8) : Op.bytesLess (c ++ x) (c ++ y) = Op.bytesLess x y := by
  induction c with
  | nil => rfl
  | cons a c ih => rw [List.cons_append, List.cons_append, bl_cons, ih]; simp [u8_irr a]
where u8_irr (a : UInt8) : ¬ a < a := fun h => u8_asymm h h
theorem beL_mod (k x : Nat) : beL k x = beL k (x % 256 ^ k) := by
  suffices h : ∀ m, k ≤ m → beL k x = beL k (x % 256 ^ m) from h k (Nat.le_refl _)
  induction k with
  | zero => intro m _; rfl
  | succ k ih =>
    intro m hm
    rw [beL, beL, ih m (by omega)]
    congr 2
    have e : 256 ^ m = 256 ^ k * (256 * 256 ^ (m - k - 1)) := by rw [← Nat.pow_succ', ← Nat.pow_add]; congr 1; omega
    rw [e, Nat.mod_mul_right_div_self, Nat.mod_mul_right_mod]
/-- Two numbers of k bytes stand as their bytes stand, whatever follows. -/
theorem be_less (k : Nat) : ∀ (x y : Nat) (p q : List UInt8), x < 256 ^ k → y < 256 ^ k → x < y → Op.bytesLess (beL k x ++ p) (beL k y ++ q) = true := by
  induction k with
  | zero => intro x y p q hx hy h; simp at hx hy; omega
  | succ k ih =>
    intro x y p q hx hy h
    have hp : 0 < 256 ^ k := Nat.pow_pos (by decide)
    have hx' : x / 256 ^ k < 256 := by rw [Nat.div_lt_iff_lt_mul hp, ← Nat.pow_succ']; exact hx
    have hy' : y / 256 ^ k < 256 := by rw [Nat.div_lt_iff_lt_mul hp, ← Nat.pow_succ']; exact hy
    rw [beL, beL, List.cons_append, List.cons_append, bl_cons, Nat.mod_eq_of_lt hx', Nat.mod_eq_of_lt hy']
    have hle : x / 256 ^ k ≤ y / 256 ^ k := Nat.div_le_div_right (Nat.le_of_lt h)
    have hlt : ∀ a b : Nat, a < 256 → b < 256 → a < b → UInt8.ofNat a < UInt8.ofNat b := fun a b ha hb hab => by
      rw [UInt8.lt_iff_toNat_lt, UInt8.toNat_ofNat', UInt8.toNat_ofNat', Nat.mod_eq_of_lt (by simpa using ha), Nat.mod_eq_of_lt (by simpa using hb)]
      exact hab
    rcases Nat.lt_or_eq_of_le hle with hl | he
    · simp [hlt _ _ hx' hy' hl]
    · rw [he, beL_mod k x, beL_mod k y]
      have hmx := Nat.mod_lt x hp
      have hmy := Nat.mod_lt y hp
      have hm : x % 256 ^ k < y % 256 ^ k := by
        have e1 := Nat.div_add_mod x (256 ^ k)
        have e2 := Nat.div_add_mod y (256 ^ k)
        rw [he] at e1
        omega
      simp [ih _ _ p q hmx hmy hm]
theorem keyI_less {n m : Int} (hn : -9223372036854775808 ≤ n ∧ n ≤ 9223372036854775807) (hm : -9223372036854775808 ≤ m ∧ m ≤ 9223372036854775807) (p q : List UInt8) (h : n < m) : Op.bytesLess (keyI n ++ p) (keyI m ++ q) = true := by
  unfold keyI
  rw [List.cons_append, List.cons_append, bl_cons, be_less 8 _ _ p q (by omega) (by omega) (by omega)]
  simp
/-- A symbol's bytes, ended: ahead of another's, whatever follows. -/
theorem esc_less : ∀ (l m p q : List UInt8), Op.bytesLess l m = true → Op.bytesLess (l.flatMap escB ++ [0, 1] ++ p) (m.flatMap escB ++ [0, 1] ++ q) = true
  | _, [], _, _ => fun h => by rw [bl_nil_right] at h; cases h
  | [], b :: m, p, q => fun _ => by
    by_cases hb : b = 0
    · subst hb; simp [escB, bl_cons]
    · have : (0 : UInt8) < b := by
        rw [UInt8.lt_iff_toNat_lt]
        have : b.toNat ≠ 0 := fun e => hb (UInt8.toNat_inj.1 e)
        show 0 < b.toNat
        omega
      simp [escB, hb, bl_cons, this]
  | a :: l, b :: m, p, q => fun h => by
    rw [bl_cons] at h
    simp only [Bool.or_eq_true, decide_eq_true_eq, Bool.and_eq_true, beq_iff_eq] at h
    rcases h with h | ⟨rfl, h⟩
    · have hb : b ≠ 0 := by
        rintro rfl
        rw [UInt8.lt_iff_toNat_lt] at h
        have : (0 : UInt8).toNat = 0 := rfl
        omega
      by_cases ha : a = 0
      · subst ha; simp [escB, hb, bl_cons, h]
      · simp [escB, ha, hb, bl_cons, h]
    · have := esc_less l m p q h
      simp only [List.flatMap_cons, List.append_assoc] at this ⊢
      rw [bl_append]
      exact this
theorem keyS_less (l m p q : List UInt8) (h : Op.bytesLess l m = true) : Op.bytesLess (keyS l ++ p) (keyS m ++ q) = true := by
  unfold keyS
  rw [List.cons_append, List.cons_append, bl_cons, esc_less l m p q h]
  simp
/-- A value that may be. -/
def OkV (v : V3) : Prop := v.k = 1 ∧ v.s.toList = [] ∧ (-9223372036854775808 ≤ v.n ∧ v.n ≤ 9223372036854775807) ∨ v.k = 2 ∧ v.n = 0
theorem keyV_less {a b : V3} (ha : OkV a) (hb : OkV b) (p q : List UInt8) (h : cmp3 a b = -1) : Op.bytesLess (keyV a ++ p) (keyV b ++ q) = true := by
  have h' := (cmpV_lt _ _ _ _ _ _).1 h
  unfold LtV at h'
  unfold keyV
  rcases ha with ⟨ka, sa, na⟩ | ⟨ka, na⟩ <;> rcases hb with ⟨kb, sb, nb⟩ | ⟨kb, nb⟩
  · rw [if_pos ka, if_pos kb]
    rcases h' with h' | ⟨_, h' | ⟨_, h'⟩⟩
    · omega
    · exact keyI_less na nb p q h'
    · rw [sa, sb] at h'; simp [Op.bytesLess] at h'
  · rw [if_pos ka, if_neg (by omega)]
    unfold keyI keyS
    rw [List.cons_append, List.cons_append, bl_cons]
    simp
  · omega
  · rw [if_neg (by omega), if_neg (by omega)]
    rcases h' with h' | ⟨_, h' | ⟨_, h'⟩⟩
    · omega
    · omega
    · rw [Lib.toList_data, Lib.toList_data] at h'
      exact keyS_less _ _ p q h'
theorem keyV_ne (v : V3) : keyV v ≠ [] := by unfold keyV keyI keyS; split <;> simp
/-- The keys of two tuples stand as the tuples stand. -/
theorem keyT_less : ∀ (A B : List V3), (∀ x ∈ A, OkV x) → (∀ x ∈ B, OkV x) → cmpT A B = -1 → Op.bytesLess (keyT A) (keyT B) = true
  | [], [] => fun _ _ h => by simp [cmpT] at h
  | _ :: _, [] => fun _ _ h => by simp [cmpT] at h
  | [], b :: y => fun _ _ _ => by
    rw [keyT_cons]
    have := keyV_ne b
    cases hk : keyV b with
    | nil => exact absurd hk this
    | cons c r => rfl
  | a :: x, b :: y => fun ha hb h => by
    rw [cmpT_cons] at h
    rw [keyT_cons, keyT_cons]
    split at h
    · rename_i h0
      obtain rfl := cmp3_zero.1 h0
      rw [bl_append]
      exact keyT_less x y (fun v hv => ha v (List.mem_cons_of_mem _ hv)) (fun v hv => hb v (List.mem_cons_of_mem _ hv)) h
    · exact keyV_less (ha a List.mem_cons_self) (hb b List.mem_cons_self) _ _ h
theorem keyT_order (A B : List V3) (ha : ∀ x ∈ A, OkV x) (hb : ∀ x ∈ B, OkV x) :
    Op.bytesLess (keyT A) (keyT B) = decide (cmpT A B < 0) ∧ (decide (keyT A = keyT B)) = decide (cmpT A B = 0) := by
  rcases cmpT_cases A B with h | h | h
  · have := keyT_less A B ha hb h
    refine ⟨by rw [this, decide_eq_true (by omega)], ?_⟩
    rw [decide_eq_false (fun e => by rw [e, bl_irrefl] at this; cases this), decide_eq_false (by omega)]
  · obtain rfl := (cmpT_zero A B).1 h
    exact ⟨by rw [bl_irrefl, decide_eq_false (by omega)], by simp [h]⟩
  · have := keyT_less B A hb ha (by rw [cmpT_neg]; omega)
    refine ⟨by rw [bl_asymm _ _ this, decide_eq_false (by omega)], ?_⟩
    rw [decide_eq_false (fun e => by rw [e, bl_irrefl] at this; cases this), decide_eq_false (by omega)]
end Go.Proofs.Ythnpiafpkllbpaa
