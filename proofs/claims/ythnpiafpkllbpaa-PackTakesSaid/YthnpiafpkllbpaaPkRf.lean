/-
  Contract of the document's FromKey.
-/
import Derived.Test.YthnpiafpkllbpaaPkSy
namespace Go.Proofs.Ythnpiafpkllbpaa
open Go Go.RowKit

theorem may_ok {T : List V3} : MayT T ↔ OkT T := by
  unfold MayT OkT MayV
  exact Iff.rfl
theorem okO_yes {T : List V3} (h : OkT T) : okO (some T) = some T := by
  unfold okO
  simp only
  rw [if_pos (may_ok.2 h)]
theorem okO_no {T : List V3} (h : ¬ OkT T) : okO (some T) = none := by
  unfold okO
  simp only
  rw [if_neg (fun g => h (may_ok.1 g))]
theorem okO_none : okO none = none := rfl
theorem rkeysP_nil (f : Nat) (acc : List V3) : rkeysP f [] acc = some acc := by cases f <;> rfl
theorem rkeysP_at {l : List UInt8} {acc : List V3} {k f : Nat} (h : k < l.length) (hf : (l.drop k).length ≤ f) : ∃ g, (l.drop (k + 1)).length ≤ g ∧
    rkeysP f (l.drop k) acc = match (if l[k] = 1 ∧ 8 ≤ (l.drop (k + 1)).length then some (intV (l.drop (k + 1)), l.drop (k + 9)) else if l[k] = 2 then (match symR (l.drop (k + 1)) [] with | some (s, r') => some (symV s, r') | none => none) else none) with
      | some (v, r') => rkeysP g r' (acc ++ [v]) | none => none := by
  have e := List.drop_eq_getElem_cons h
  rw [e] at hf ⊢
  cases f with
  | zero => simp at hf; omega
  | succ g =>
    refine ⟨g, by simp only [List.length_cons] at hf; omega, ?_⟩
    rw [rkeysP, rkeyP, List.drop_drop]
    rfl
theorem ArgB.drop {w : World} {a : Addr} {cap : Nat} {l : List UInt8} (h : ArgB w (.slice (some a) l.length cap) l) (n : Nat) (hn : n ≤ l.length) : ArgB w (.slice (some (a.add n)) (l.length - n) (cap - n)) (l.drop n) := by
  obtain ⟨hb, p, c, e, h1, h2⟩ := h
  injection e with e1 e2 e3
  subst e3
  exact ⟨hb.drop n hn, _, _, by rw [List.length_drop], by rw [List.length_drop]; omega, by omega⟩

theorem be_step {l : List UInt8} {k m : Nat} (h : k + (m + 1) < l.length) : beN ((l.drop (k + 1)).take (m + 1)) = beN ((l.drop (k + 1)).take m) * 256 + l[k + (m + 1)].toNat := by
  have hm : m < (l.drop (k + 1)).length := by rw [List.length_drop]; omega
  rw [List.take_succ_eq_append_getElem hm, beN_snoc, List.getElem_drop]
  have e : k + 1 + m = k + (m + 1) := by omega
  simp only [e]
theorem be_room (l : List UInt8) {m : Nat} (h : m < 8) : beN (l.take m) * 256 < 18446744073709551616 - 255 := by
  have h1 := beN_lt (l.take m)
  have h2 : (l.take m).length ≤ m := List.length_take_le _ _
  have h3 : 256 ^ (l.take m).length ≤ 256 ^ 7 := Nat.pow_le_pow_right (by decide) (by omega)
  have h4 : (256 : Nat) ^ 7 = 72057594037927936 := by decide
  omega
theorem be_all (l : List UInt8) : beN (l.take 8) < 18446744073709551616 := by
  have h1 := beN_lt (l.take 8)
  have h2 : (l.take 8).length ≤ 8 := List.length_take_le _ _
  have h3 : 256 ^ (l.take 8).length ≤ 256 ^ 8 := Nat.pow_le_pow_right (by decide) h2
  have h4 : (256 : Nat) ^ 8 = 18446744073709551616 := by decide
  omega
theorem symR_suf : ∀ (l acc s r : List UInt8), symR l acc = some (s, r) → r <:+ l
  | [], _, _, _ => fun h => by simp [symR] at h
  | [_], _, _, _ => fun h => by simp [symR] at h
  | c :: d :: l, acc, s, r => fun h => by
    rw [symR] at h
    split at h
    · split at h
      · simp at h; obtain ⟨rfl, rfl⟩ := h; exact ⟨[c, d], rfl⟩
      · split at h
        · exact (symR_suf l _ s r h).trans ⟨[c, d], rfl⟩
        · cases h
    · exact (symR_suf (d :: l) _ s r h).trans ⟨[c], rfl⟩
theorem sym_step {l r s r' : List UInt8} {k : Nat} (h : k < l.length) (hr : l.drop k = 2 :: r) (hs : symR r [] = some (s, r')) :
    l[k] = 2 ∧ symR (l.drop (k + 1)) [] = some (s, r') ∧ r'.length ≤ l.length - (k + 1) ∧ r' = l.drop (l.length - r'.length) := by
  have e := List.drop_eq_getElem_cons h
  rw [hr] at e
  injection e with e1 e2
  have h1 := symR_suf _ _ _ _ hs
  refine ⟨e1.symm, by rw [← e2]; exact hs, ?_, ?_⟩
  · have := h1.length_le
    rw [e2, List.length_drop] at this
    exact this
  · refine List.suffix_iff_eq_drop.1 (h1.trans ?_)
    rw [e2]
    exact List.drop_suffix _ _
end Go.Proofs.Ythnpiafpkllbpaa
