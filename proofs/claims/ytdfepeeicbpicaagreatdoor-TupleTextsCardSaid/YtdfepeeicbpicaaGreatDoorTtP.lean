/-
  Plain facts: the text of a tuple; how far its first value reaches.
-/
import Derived.Test.YtdfepeeicbpicaaGreatDoorRead
import Derived.Test.YtdfepeeicbpicaaGreatDoorPure
import Derived.Test.YtdfepeeicbpicaaGreatDoorTupP
namespace Go.Proofs.YtdfepeeicbpicaaGreatDoor
open Go

/-- How many bytes lie ahead of the first comma that stands in no symbol. -/
def extL : Bool → List UInt8 → Nat
  | _, [] => 0
  | q, [c] => if c = 92 then 1 else if c = 34 then 1 else if c = 44 ∧ q = false then 0 else 1
  | q, c :: d :: r => if c = 92 then 2 + extL q r else if c = 34 then 1 + extL (!q) (d :: r) else if c = 44 ∧ q = false then 0 else 1 + extL q (d :: r)
theorem ext_nil (q : Bool) : extL q [] = 0 := by unfold extL; rfl
theorem ext_esc (q : Bool) (d : UInt8) (r : List UInt8) : extL q (92 :: d :: r) = 2 + extL q r := by conv => lhs; unfold extL; rw [if_pos rfl]
theorem ext_esc1 (q : Bool) : extL q [92] = 1 := by unfold extL; rw [if_pos rfl]
theorem ext_quote (q : Bool) (r : List UInt8) : extL q (34 :: r) = 1 + extL (!q) r := by
  cases r with
  | nil => unfold extL; rw [if_neg (by decide), if_pos rfl]
  | cons d r => conv => lhs; unfold extL; rw [if_neg (by decide), if_pos rfl]
theorem ext_comma (r : List UInt8) : extL false (44 :: r) = 0 := by
  cases r with
  | nil => unfold extL; rw [if_neg (by decide), if_neg (by decide), if_pos ⟨rfl, rfl⟩]
  | cons d r => unfold extL; rw [if_neg (by decide), if_neg (by decide), if_pos ⟨rfl, rfl⟩]
theorem ext_other {q : Bool} {c : UInt8} (r : List UInt8) (h1 : c ≠ 92) (h2 : c ≠ 34) (h3 : c ≠ 44 ∨ q = true) : extL q (c :: r) = 1 + extL q r := by
  have h4 : ¬ (c = 44 ∧ q = false) := by
    rintro ⟨a, b⟩
    rcases h3 with h | h
    · exact h a
    · rw [b] at h; cases h
  cases r with
  | nil => rw [ext_nil]; unfold extL; rw [if_neg h1, if_neg h2, if_neg h4]
  | cons d r => conv => lhs; unfold extL; rw [if_neg h1, if_neg h2, if_neg h4]
theorem ext_le : ∀ (n : Nat) (q : Bool) (l : List UInt8), l.length ≤ n → extL q l ≤ l.length
  | 0, q, l, h => by
    obtain rfl := List.length_eq_zero_iff.1 (Nat.le_zero.1 h)
    rw [ext_nil]; exact Nat.le_refl _
  | n + 1, q, [], _ => by rw [ext_nil]; exact Nat.le_refl _
  | n + 1, q, c :: r, h => by
    rw [List.length_cons] at h ⊢
    by_cases h1 : c = 92
    · subst h1
      cases r with
      | nil => rw [ext_esc1]; simp
      | cons d r' =>
        rw [ext_esc]
        have := ext_le n q r' (by simp at h; omega)
        simp
        omega
    · by_cases h2 : c = 34
      · subst h2
        rw [ext_quote]
        have := ext_le n (!q) r (by omega)
        omega
      · by_cases h3 : c = 44 ∧ q = false
        · obtain ⟨rfl, rfl⟩ := h3
          rw [ext_comma]
          omega
        · rw [ext_other r h1 h2 (by
            by_cases a : c = 44
            · right
              cases q with
              | false => exact absurd ⟨a, rfl⟩ h3
              | true => rfl
            · exact .inl a)]
          have := ext_le n q r (by omega)
          omega
theorem hexD_ne (n : Nat) (h : n < 16) : hexD n ≠ 92 ∧ hexD n ≠ 34 := by
  have : ∀ m : Fin 16, hexD m.val ≠ 92 ∧ hexD m.val ≠ 34 := by decide
  exact this ⟨n, h⟩
theorem ext_byte (c : UInt8) (r : List UInt8) : extL true (oneB c ++ r) = (oneB c).length + extL true r := by
  have hb := c.toNat_lt
  unfold oneB
  split
  · rw [List.cons_append, List.cons_append, List.nil_append, ext_esc]; rfl
  · rename_i h
    split
    · rw [List.cons_append, List.cons_append, List.nil_append, ext_esc]; rfl
    · split
      · rw [List.cons_append, List.cons_append, List.nil_append, ext_esc]; rfl
      · split
        · rw [List.cons_append, List.nil_append, ext_other r (fun e => h (.inr e)) (fun e => h (.inl e)) (.inr rfl)]; rfl
        · have a := hexD_ne (c.toNat / 16) (by omega)
          have b := hexD_ne (c.toNat % 16) (by omega)
          simp only [List.cons_append, List.nil_append]
          rw [ext_esc, ext_other _ a.1 a.2 (.inr rfl), ext_other _ b.1 b.2 (.inr rfl)]
          simp only [List.length_cons, List.length_nil]
          omega
theorem ext_body : ∀ (l r : List UInt8), extL true (l.flatMap oneB ++ r) = (l.flatMap oneB).length + extL true r
  | [], r => by simp
  | c :: l, r => by
    rw [List.flatMap_cons, List.append_assoc, ext_byte, ext_body l r, List.length_append]
    omega
theorem ext_sym (l r : List UInt8) : extL false (quoteL l ++ r) = (quoteL l).length + extL false r := by
  unfold quoteL quoteTo
  rw [List.cons_append, List.cons_append, ext_quote, List.append_assoc, Bool.not_false, ext_body, List.cons_append, List.nil_append, ext_quote, Bool.not_true]
  simp only [List.length_cons, List.length_append, List.length_nil]
  omega
theorem dd_all : ∀ (n : Nat), ∀ c ∈ Lib.decDigits n, 48 ≤ c.toNat ∧ c.toNat ≤ 57 := by
  intro n
  induction n using Nat.strongRecOn with
  | _ n ih =>
    intro c hc
    by_cases h : n < 10
    · rw [dd_small h] at hc
      obtain rfl := List.mem_singleton.1 hc
      rw [UInt8.toNat_ofNat']
      omega
    · rw [dd_big h] at hc
      rcases List.mem_append.1 hc with hc | hc
      · exact ih (n / 10) (by omega) c hc
      · obtain rfl := List.mem_singleton.1 hc
        rw [UInt8.toNat_ofNat']
        omega
theorem itoa_all (n : Int) : ∀ c ∈ Lib.itoa n, c ≠ 92 ∧ c ≠ 34 ∧ c ≠ 44 := by
  have d : ∀ m, ∀ c ∈ Lib.decDigits m, c ≠ 92 ∧ c ≠ 34 ∧ c ≠ 44 := fun m c hc => by
    have := dd_all m c hc
    refine ⟨?_, ?_, ?_⟩ <;> (rintro rfl; revert this; decide)
  intro c hc
  unfold Lib.itoa at hc
  split at hc
  · rcases List.mem_cons.1 hc with rfl | hc
    · decide
    · exact d _ c hc
  · exact d _ c hc
theorem ext_plain : ∀ (l r : List UInt8), (∀ c ∈ l, c ≠ 92 ∧ c ≠ 34 ∧ c ≠ 44) → extL false (l ++ r) = l.length + extL false r
  | [], r, _ => by simp
  | c :: l, r, h => by
    obtain ⟨a, b, d⟩ := h c List.mem_cons_self
    rw [List.cons_append, ext_other _ a b (.inl d), ext_plain l r fun x hx => h x (List.mem_cons_of_mem _ hx), List.length_cons]
    omega
/-- A value's text. -/
def textV (v : V3) : List UInt8 := textL v.k v.n v.s
theorem ext_val (v : V3) (r : List UInt8) : extL false (textV v ++ r) = (textV v).length + extL false r := by
  unfold textV textL
  split
  · exact ext_plain _ _ (itoa_all v.n)
  · exact ext_sym _ _
/-- The texts of values, a comma and a blank between. -/
def joinT : List V3 → List UInt8
  | [] => []
  | [v] => textV v
  | v :: w :: r => textV v ++ 44 :: 32 :: joinT (w :: r)
theorem joinT_cons (v : V3) (r : List V3) : joinT (v :: r) = textV v ++ (if r = [] then [] else 44 :: 32 :: joinT r) := by
  cases r with
  | nil => simp [joinT]
  | cons w r => simp [joinT]
theorem ext_join (v : V3) (r : List V3) : extL false (joinT (v :: r)) = (textV v).length := by
  rw [joinT_cons, ext_val]
  split
  · rw [ext_nil]
    rfl
  · rw [ext_comma]
    rfl
/-- A tuple's text. -/
def textT (T : List V3) : List UInt8 := 40 :: joinT T ++ [41]
theorem lib_join : ∀ T : List V3, Lib.join (T.map textV) [44, 32] = joinT T
  | [] => rfl
  | [v] => by simp [Lib.join, joinT, List.intercalate]
  | v :: w :: r => by
    have ih := lib_join (w :: r)
    simp only [Lib.join, List.map_cons, joinT] at ih ⊢
    rw [← ih]
    simp [List.intercalate]
theorem textV_pos {v : V3} : 1 ≤ (textV v).length := by
  unfold textV textL
  split
  · obtain ⟨c, r, e, -⟩ := itoa_head v.n
    rw [e]
    simp
  · simp [quoteL, quoteTo]
/-- A value that may be. -/
def ValV (v : V3) : Prop := IsV v.k v.n v.s ∧ I64 v.n
theorem textV_inj {v u : V3} (h : ValV v) (h' : ValV u) (e : textV v = textV u) : v = u := by
  obtain ⟨a, b, c⟩ := textS_inj h.1 h.2 h'.1 h'.2 (show textS v.k v.n v.s = textS u.k u.n u.s by unfold textS; unfold textV at e; rw [e])
  cases v; cases u
  simp at a b c
  rw [a, b, c]
theorem joinT_inj : ∀ A B : List V3, (∀ v ∈ A, ValV v) → (∀ v ∈ B, ValV v) → joinT A = joinT B → A = B
  | [], [], _, _, _ => rfl
  | [], v :: B, _, _, e => by
    have := congrArg List.length e
    rw [joinT_cons, List.length_append] at this
    have h := textV_pos (v := v)
    rw [show joinT [] = [] from rfl, List.length_nil] at this
    omega
  | v :: A, [], _, _, e => by
    have := congrArg List.length e
    rw [joinT_cons, List.length_append] at this
    have h := textV_pos (v := v)
    rw [show joinT [] = [] from rfl, List.length_nil] at this
    omega
  | v :: A, u :: B, hA, hB, e => by
    have hl : (textV v).length = (textV u).length := by rw [← ext_join v A, ← ext_join u B, e]
    rw [joinT_cons, joinT_cons] at e
    obtain ⟨e1, e2⟩ := List.append_inj e hl
    have hv := textV_inj (hA v List.mem_cons_self) (hB u List.mem_cons_self) e1
    subst hv
    by_cases ha : A = []
    · by_cases hb : B = []
      · rw [ha, hb]
      · rw [if_pos ha, if_neg hb] at e2
        cases e2
    · by_cases hb : B = []
      · rw [if_neg ha, if_pos hb] at e2
        cases e2
      · rw [if_neg ha, if_neg hb] at e2
        injection e2 with _ e2
        injection e2 with _ e2
        rw [joinT_inj A B (fun x hx => hA x (List.mem_cons_of_mem _ hx)) (fun x hx => hB x (List.mem_cons_of_mem _ hx)) e2]
theorem textT_inj {A B : List V3} (hA : ∀ v ∈ A, ValV v) (hB : ∀ v ∈ B, ValV v) (e : textT A = textT B) : A = B := by
  unfold textT at e
  rw [List.cons_append, List.cons_append] at e
  injection e with _ e
  exact joinT_inj A B hA hB (List.append_cancel_right e)
end Go.Proofs.YtdfepeeicbpicaaGreatDoor
