/-
  Plain facts: what was written is read, whatever stands behind it. No program is named here.
-/
import Derived.Test.YthnpiafpkllbpaaPkNQ
import Derived.Test.YthnpiafpkllbpaaPkKB
namespace Go.Proofs.Ythnpiafpkllbpaa
open Go

theorem numP_go : ∀ (f z j x : Nat) (r : List UInt8), z ≤ f → x < 2 ^ (7 * j) → j < 10 → (0 < j → 0 < z) → x + z * 2 ^ (7 * j) < 18446744073709551616 → numP (numL z ++ r) j x = some (x + z * 2 ^ (7 * j), r) := by
  intro f
  induction f with
  | zero =>
    intro z j x r hz hx hj h0 hlt
    obtain rfl : z = 0 := by omega
    have hj0 : j = 0 := by
      rcases Nat.eq_zero_or_pos j with h | h
      · exact h
      · exact absurd (h0 h) (by omega)
    subst hj0
    rw [numL_lt (by decide)]
    rfl
  | succ f ih =>
    intro z j x r hz hx hj h0 hlt
    rcases Nat.lt_or_ge z 128 with h | h
    · have hc : (UInt8.ofNat z).toNat = z := by rw [UInt8.toNat_ofNat', Nat.mod_eq_of_lt (by omega)]
      have hm : z % 128 = z := Nat.mod_eq_of_lt h
      rw [numL_lt h, List.singleton_append, numP, if_neg (by omega), hc, hm, if_neg, if_pos h]
      rintro (h1 | ⟨h1, h2⟩)
      · omega
      · have := congrArg UInt8.toNat h1
        rw [hc] at this
        have h3 := h0 h2
        have h4 : (0 : UInt8).toNat = 0 := rfl
        omega
    · have hc : (UInt8.ofNat (z % 128 + 128)).toNat = z % 128 + 128 := by rw [UInt8.toNat_ofNat', Nat.mod_eq_of_lt (by omega)]
      have hm : (z % 128 + 128) % 128 = z % 128 := by omega
      have hle : z % 128 * 2 ^ (7 * j) ≤ z * 2 ^ (7 * j) := Nat.mul_le_mul_right _ (Nat.mod_le _ _)
      have hsum : z % 128 * 2 ^ (7 * j) + z / 128 * 2 ^ (7 * (j + 1)) = z * 2 ^ (7 * j) := by
        rw [show 7 * (j + 1) = 7 + 7 * j by omega, Nat.pow_add, show (2 : Nat) ^ 7 = 128 from rfl, ← Nat.mul_assoc, ← Nat.add_mul]
        congr 1
        omega
      have hj9 : j + 1 < 10 := by
        rcases Nat.lt_or_ge (j + 1) 10 with h1 | h1
        · exact h1
        · exfalso
          obtain rfl : j = 9 := by omega
          have h128 : 128 * 2 ^ (7 * 9) ≤ z * 2 ^ (7 * 9) := Nat.mul_le_mul_right _ h
          have e : 128 * 2 ^ (7 * 9) = 1180591620717411303424 := by decide
          omega
      rw [numL_ge h, List.cons_append, numP, if_neg (by omega), hc, hm, if_neg, if_neg (by omega), ih (z / 128) (j + 1) _ r (by omega) (group_next hx (Nat.mod_lt _ (by decide))) hj9 (fun _ => by omega) (by omega), Nat.add_assoc, hsum]
      rintro (h1 | ⟨h1, h2⟩)
      · omega
      · have := congrArg UInt8.toNat h1
        rw [hc] at this
        have h4 : (0 : UInt8).toNat = 0 := rfl
        omega
theorem numP_back {z : Nat} (r : List UInt8) (h : z < 18446744073709551616) : numP (numL z ++ r) 0 0 = some (z, r) := by
  have := numP_go z z 0 0 r (Nat.le_refl _) (by decide) (by decide) (fun h => absurd h (by decide)) (by simpa using h)
  simpa using this
theorem zigN_fits {x : Int} (h : -9223372036854775808 ≤ x ∧ x ≤ 9223372036854775807) : zigN x < 18446744073709551616 := by unfold zigN; split <;> omega
theorem intQ_back {x : Int} (r : List UInt8) (h : -9223372036854775808 ≤ x ∧ x ≤ 9223372036854775807) : intQ (intL x ++ r) = some (x, r) := by
  unfold intQ intL
  rw [numP_back r (zigN_fits h)]
  show some (unzig (zigN x), r) = some (x, r)
  rw [unzig_zigN]
theorem textQ_back (s r : List UInt8) {m : Nat} (h : s.length ≤ m) (hs : s.length < 18446744073709551616) : textQ (textL s ++ r) m = some (s, r) := by
  unfold textQ textL
  rw [List.append_assoc, numP_back _ hs]
  simp [h]
theorem noBytes {s : ByteArray} (h : s.toList = []) : s = ⟨#[]⟩ := by
  rw [Lib.toList_data] at h
  cases s with
  | mk a => cases a with
    | mk l => cases h; rfl
theorem symV_of {x : V3} (hk : x.k = 2) (hn : x.n = 0) : symV x.s.data.toList = x := by
  obtain ⟨k, n, s⟩ := x
  simp only at hk hn
  subst hk hn
  rfl
theorem valQ_back {x : V3} (r : List UInt8) (hx : MayV x) (hn : -9223372036854775808 ≤ x.n ∧ x.n ≤ 9223372036854775807) : valQ (oneL x ++ r) = some (x, r) := by
  unfold oneL
  rcases hx with ⟨hk, hs⟩ | ⟨hk, h0, hs⟩
  · rw [if_pos hk, List.cons_append, valQ_int, intQ_back r hn]
    have := noBytes hs
    obtain ⟨k, n, s⟩ := x
    simp only at hk this
    subst hk this
    rfl
  · have hl : x.s.data.toList.length ≤ 256 := hs
    rw [if_neg (by omega), List.cons_append, valQ_sym, textQ_back _ r hl (by omega)]
    show some (symV x.s.data.toList, r) = some (x, r)
    rw [symV_of hk h0]
theorem valsQ_back : ∀ (T : List V3) (r : List UInt8), (∀ x ∈ T, MayV x ∧ (-9223372036854775808 ≤ x.n ∧ x.n ≤ 9223372036854775807)) → valsQ T.length (T.flatMap oneL ++ r) = some (T, r)
  | [], r => fun _ => rfl
  | x :: T, r => fun h => by
    obtain ⟨h1, h2⟩ := h x List.mem_cons_self
    rw [List.flatMap_cons, List.append_assoc, List.length_cons, valsQ, valQ_back _ h1 h2]
    simp only
    rw [valsQ_back T r (fun y hy => h y (List.mem_cons_of_mem _ hy))]
    rfl
theorem tupQ_back {T : List V3} (r : List UInt8) (h : MayT T) (hn : ∀ x ∈ T, -9223372036854775808 ≤ x.n ∧ x.n ≤ 9223372036854775807) : tupQ (tupL T ++ r) = some (T, r) := by
  have h8 := h.1
  unfold tupL
  have hc : (UInt8.ofNat T.length).toNat = T.length := by rw [UInt8.toNat_ofNat', Nat.mod_eq_of_lt (by omega)]
  rw [List.cons_append, tupQ, hc, if_neg (by omega), valsQ_back T r (fun x hx => ⟨h.2 x hx, hn x hx⟩)]
theorem cntQ_back {T : List V3} {n : Int} (r : List UInt8) (h : MayT T) (hT : ∀ x ∈ T, -9223372036854775808 ≤ x.n ∧ x.n ≤ 9223372036854775807) (hn : -9223372036854775808 ≤ n ∧ n ≤ 9223372036854775807) : cntQ ((tupL T ++ intL n) ++ r) = some ((T, n), r) := by
  unfold cntQ
  rw [List.append_assoc, tupQ_back _ h hT]
  simp only
  rw [intQ_back r hn]
  rfl

theorem beN_beL (k x : Nat) (h : x < 256 ^ k) : beN (beL k x) = x := by
  have hg : ∀ (k x a : Nat), x < 256 ^ k → (beL k x).foldl (fun x c => x * 256 + c.toNat) a = a * 256 ^ k + x := by
    intro k
    induction k with
    | zero => intro x a h; simp at h; subst h; simp [beL]
    | succ k ih =>
      intro x a h
      have hp : 0 < 256 ^ k := Nat.pow_pos (by decide)
      have hx : x / 256 ^ k < 256 := by rw [Nat.div_lt_iff_lt_mul hp, ← Nat.pow_succ']; exact h
      rw [beL, List.foldl_cons, beL_mod k x, ih _ _ (Nat.mod_lt _ hp), UInt8.toNat_ofNat', Nat.mod_eq_of_lt (show x / 256 ^ k % 256 < 2 ^ 8 by omega), Nat.mod_eq_of_lt hx]
      have e := Nat.div_add_mod x (256 ^ k)
      rw [Nat.pow_succ', Nat.add_mul, Nat.mul_assoc, Nat.add_assoc, Nat.mul_comm (x / 256 ^ k)]
      omega
  have := hg k x 0 h
  simpa [beN] using this
theorem symP_next {c : UInt8} {l acc : List UInt8} (hc : c ≠ 0) (ha : acc.length ≠ 256) (hl : l ≠ []) : symP (c :: l) acc = symP l (acc ++ [c]) := by
  cases l with
  | nil => exact absurd rfl hl
  | cons d l => rw [symP, if_neg hc, if_neg ha]
theorem symP_back : ∀ (l acc r : List UInt8), acc.length + l.length ≤ 256 → symP (l.flatMap escB ++ [0, 1] ++ r) acc = some (acc ++ l, r)
  | [], acc, r => fun _ => by simp [symP]
  | c :: l, acc, r => fun h => by
    rw [List.length_cons] at h
    by_cases hc : c = 0
    · subst hc
      rw [List.flatMap_cons, show escB 0 = [0, 255] from rfl]
      simp only [List.cons_append, List.nil_append]
      rw [symP, if_pos rfl, if_neg (by decide), if_pos rfl, if_neg (by omega)]
      have := symP_back l (acc ++ [0]) r (by simp; omega)
      simp only [List.append_assoc, List.cons_append, List.nil_append] at this ⊢
      exact this
    · rw [List.flatMap_cons, show escB c = [c] from if_neg hc]
      simp only [List.cons_append, List.nil_append]
      rw [symP_next hc (by omega) (by simp)]
      have := symP_back l (acc ++ [c]) r (by simp; omega)
      simp only [List.append_assoc, List.cons_append, List.nil_append] at this ⊢
      exact this
theorem keyP_back {x : V3} (r : List UInt8) (hx : MayV x) (hn : -9223372036854775808 ≤ x.n ∧ x.n ≤ 9223372036854775807) : keyP (keyV x ++ r) = some (x, r) := by
  unfold keyV
  rcases hx with ⟨hk, hs⟩ | ⟨hk, h0, hs⟩
  · have hl := beL_len 8 (x.n + 9223372036854775808).toNat
    have h256 : (256 : Nat) ^ 8 = 18446744073709551616 := by decide
    have hb := beN_beL 8 (x.n + 9223372036854775808).toNat (by omega)
    rw [if_pos hk]
    unfold keyI
    rw [List.cons_append, keyP, if_pos rfl, if_pos (by simp [hl])]
    have ht : (beL 8 (x.n + 9223372036854775808).toNat ++ r).take 8 = beL 8 (x.n + 9223372036854775808).toNat := by rw [List.take_append_of_le_length (by omega), List.take_of_length_le (by omega)]
    have hd : (beL 8 (x.n + 9223372036854775808).toNat ++ r).drop 8 = r := by rw [List.drop_append_of_le_length (by omega), List.drop_of_length_le (by omega), List.nil_append]
    unfold intV
    rw [ht, hd, hb, show (((x.n + 9223372036854775808).toNat : Nat) : Int) - 9223372036854775808 = x.n by omega]
    have := noBytes hs
    obtain ⟨k, n, s⟩ := x
    simp only at hk this
    subst hk this
    rfl
  · have hl : x.s.data.toList.length ≤ 256 := hs
    rw [if_neg (by omega)]
    unfold keyS
    rw [List.cons_append, keyP, if_neg (by decide), if_pos rfl, symP_back _ [] r (by simpa using hl)]
    show some (symV ([] ++ x.s.data.toList), r) = some (x, r)
    rw [List.nil_append, symV_of hk h0]
theorem keysP_go : ∀ (U : List V3) (f : Nat) (acc : List V3), U.length ≤ f → acc.length + U.length ≤ 8 → (∀ x ∈ U, MayV x ∧ (-9223372036854775808 ≤ x.n ∧ x.n ≤ 9223372036854775807)) → keysP f (keyT U) acc = some (acc ++ U)
  | [], f, acc => fun _ _ _ => by
    have e : keysP f [] acc = some acc := by cases f <;> rfl
    rw [List.append_nil]
    exact e
  | x :: U, 0, acc => fun h _ _ => by simp at h
  | x :: U, f + 1, acc => fun h h8 hm => by
    rw [List.length_cons] at h h8
    obtain ⟨h1, h2⟩ := hm x List.mem_cons_self
    have hb := keyP_back (keyT U) h1 h2
    rw [keyT_cons]
    cases e : keyV x ++ keyT U with
    | nil => exact absurd (List.append_eq_nil_iff.1 e).1 (keyV_ne x)
    | cons c r =>
      rw [e] at hb
      rw [keysP, if_neg (by omega), hb]
      simp only
      rw [keysP_go U f (acc ++ [x]) (by omega) (by simp; omega) (fun y hy => hm y (List.mem_cons_of_mem _ hy))]
      simp
theorem keyT_len (U : List V3) : U.length ≤ (keyT U).length := by
  induction U with
  | nil => simp
  | cons x U ih =>
    have := List.length_pos_iff.2 (keyV_ne x)
    rw [keyT_cons, List.length_append, List.length_cons]
    omega
/-- FromKey answers the tuple whose key it is given. -/
theorem keysP_back {T : List V3} (h : MayT T) (hn : ∀ x ∈ T, -9223372036854775808 ≤ x.n ∧ x.n ≤ 9223372036854775807) : keysP (keyT T).length (keyT T) [] = some T := by
  have := keysP_go T (keyT T).length [] (keyT_len T) (by simpa using h.1) (fun x hx => ⟨h.2 x hx, hn x hx⟩)
  simpa using this
end Go.Proofs.Ythnpiafpkllbpaa
