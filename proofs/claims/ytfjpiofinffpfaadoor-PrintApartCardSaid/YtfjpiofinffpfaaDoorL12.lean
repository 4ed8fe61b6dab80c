/-
  The laws' copies of a size: programs.
  The laws' copies are of a size.
  The words of what print writes: each part's text adds its tokens ahead of whatever follows. No function is named here.
  The words of what print writes: values, marks, parts, programs. No function is named here.
  What print writes is read and gives what it was: the grammar's readers at the tokens of each part. No function is named here.
  The words of a printed program.
-/
import Derived.Test.YtfjpiofinffpfaaDoorL10
import Derived.Test.YtfjpiofinffpfaaDoorL11
import Derived.Test.YtfjpiofinffpfaaDoorL03
import Derived.Test.YtfjpiofinffpfaaDoorL06
namespace Go.Proofs.YtfjpiofinffpfaaDoor
section
open Go Go.RowKit Go.Shelf

def cutP (p : PrL) : PrL := ⟨(p.decls.take 12).map cutD, (p.ons.take 8).map cutO, (p.rules.take 12).map cutR⟩
end
section
open Go Go.RowKit Go.Shelf

theorem cutA_sm {a : AtL} (h : OkA a) : SmA (cutA a) := ⟨by simp only [cutA, List.length_take]; omega, by simp only [cutA, List.length_map, List.length_take]; omega, fun t ht => by
  simp only [cutA] at ht
  obtain ⟨x, hx, rfl⟩ := List.mem_map.1 ht
  exact cutT_sm (h x (List.mem_of_mem_take hx))⟩
theorem cutLi_sm {l : LiL} (h : OkLi l) : SmLi (cutLi l) := ⟨cutA_sm h.1, cutT_sm h.2.1, cutT_sm h.2.2⟩
theorem cutR_sm {r : RuL} (h : OkR r) : SmR (cutR r) := ⟨cutA_sm h.1, by simp only [cutR, List.length_map, List.length_take]; omega, fun l hl => by
  simp only [cutR] at hl
  obtain ⟨x, hx, rfl⟩ := List.mem_map.1 hl
  exact cutLi_sm (h.2 x (List.mem_of_mem_take hx))⟩
theorem cutD_sm (d : DeL) : SmD (cutD d) := ⟨by simp only [cutD, List.length_take]; omega, by simp only [cutD, List.length_take]; omega⟩
theorem cutO_sm {o : OnL} (h : OkO o) : SmO (cutO o) := ⟨by simp only [cutO, List.length_take]; omega, by simp only [cutO, List.length_map, List.length_take]; omega, fun p hp => by
  simp only [cutO] at hp
  obtain ⟨x, -, rfl⟩ := List.mem_map.1 hp
  simp only [cutPa, List.length_take]; omega, by simp only [cutO, List.length_map, List.length_take]; omega, fun a ha => by
  simp only [cutO] at ha
  obtain ⟨x, hx, rfl⟩ := List.mem_map.1 ha
  exact cutA_sm (h x (List.mem_of_mem_take hx))⟩
theorem cutP_sm {p : PrL} (h : OkP p) : SmP (cutP p) := ⟨by simp only [cutP, List.length_map, List.length_take]; omega, fun X hX => by
  simp only [cutP] at hX
  obtain ⟨x, -, rfl⟩ := List.mem_map.1 hX
  exact cutD_sm x, by simp only [cutP, List.length_map, List.length_take]; omega, fun X hX => by
  simp only [cutP] at hX
  obtain ⟨x, hx, rfl⟩ := List.mem_map.1 hX
  exact cutO_sm (h.1 x (List.mem_of_mem_take hx)), by simp only [cutP, List.length_map, List.length_take]; omega, fun X hX => by
  simp only [cutP] at hX
  obtain ⟨x, hx, rfl⟩ := List.mem_map.1 hX
  exact cutR_sm (h.2 x (List.mem_of_mem_take hx))⟩
theorem cutP_few (p : PrL) : (cutP p).decls.length ≤ 12 := by simp only [cutP, List.length_map, List.length_take]; omega
end
section
open Go Go.RowKit

/-- The tokens of a text, without their places. -/
def KyIs (s : List UInt8) (K : List Kt) : Prop := (lexS valL s 0).2 = none ∧ (lexS valL s 0).1.map Wd.key = K
theorem KyIs.one {s : List UInt8} {K K' : List Kt} (h : KyIs s K) (h' : KyIs s K') : K = K' := h.2.symm.trans h'.2
theorem KyIs.nil : KyIs [] [] := by
  unfold KyIs
  rw [lexS_end (by rfl)]
  exact ⟨rfl, rfl⟩
theorem KyIs.at_ {s : List UInt8} {K : List Kt} (h : KyIs s K) (p : Nat) : (lexS valL s p).2 = none ∧ (lexS valL s p).1.map Wd.key = K := by
  obtain ⟨a, b⟩ := lexS_shift s.length s 0 p (Nat.le_refl _) h.1
  exact ⟨a, b.trans h.2⟩
/-- Ahead of any text that C allows, a text adds these tokens. -/
def Lx (s : List UInt8) (T : List Kt) (C : List UInt8 → Prop) : Prop := ∀ t K, C t → KyIs t K → KyIs (s ++ t) (T ++ K)
def anyT (_ : List UInt8) : Prop := True
/-- No byte of a name stands next. -/
def nbT (t : List UInt8) : Prop := ∀ c, t.head? = some c → inB c = false
section
variable {s s' : List UInt8} {T T' : List Kt} {C C' : List UInt8 → Prop}
theorem Lx.nil : Lx [] [] C := fun _ _ _ h => h
theorem Lx.app (h : Lx s T C) (h' : Lx s' T' C') (hc : ∀ t, C' t → C (s' ++ t)) : Lx (s ++ s') (T ++ T') C' := fun t K hC hK => by
  rw [List.append_assoc, List.append_assoc]
  exact h _ _ (hc t hC) (h' t K hC hK)
theorem Lx.mono (h : Lx s T C) (hc : ∀ t, C' t → C t) : Lx s T C' := fun t K hC hK => h t K (hc t hC) hK
theorem Lx.all (h : Lx s T C) (hc : C []) : KyIs s T := by
  have := h [] [] hc KyIs.nil
  rwa [List.append_nil, List.append_nil] at this
theorem Lx.gap {c : UInt8} (hc : isBlank c = true) (hn : c ≠ 37) : Lx [c] [] anyT := fun t K _ hK => by
  have h1 : skC false [c] = [c].length := by
    rw [skC, if_neg hn]
    by_cases h10 : c = 10
    · rw [if_pos h10]; rfl
    · rw [if_neg h10, if_pos (by simp [hc])]; rfl
  have h2 : stC false [c] = false := by
    rw [stC, if_neg hn]
    split <;> rfl
  have e : lexS valL ([c] ++ t) 0 = lexS valL t (0 + [c].length) := by
    unfold lexS
    rw [skC_full_append _ _ _ h1, h2, List.drop_append, List.drop_eq_nil_of_le (by omega), Nat.add_sub_cancel_left]
    simp
  unfold KyIs
  rw [e]
  exact hK.at_ _
theorem Lx.tok {c : UInt8} {r : List UInt8} {k : Int} {v : VL} (hs : solid c) (ht : ∀ t, C t → tokL valL (c :: (r ++ t)) = some (k, r.length + 1, v)) : Lx (c :: r) [(k, c :: r, v)] C := fun t K hC hK => by
  have e := lexG_tok (ht t hC) 0
  have htk : (c :: (r ++ t)).take (r.length + 1) = c :: r := by rw [List.take_succ_cons, List.take_left' rfl]
  have hdr : (c :: (r ++ t)).drop (r.length + 1) = t := by rw [List.drop_succ_cons, List.drop_left' rfl]
  rw [htk, hdr] at e
  obtain ⟨a, b⟩ := hK.at_ (0 + (r.length + 1))
  unfold KyIs
  rw [List.cons_append, lexS_solid hs, e]
  exact ⟨a, by rw [List.map_cons, b]; rfl⟩
end
theorem nb_any {s : List UInt8} (h : ∀ t, nbT (s ++ t)) : ∀ t, anyT t → nbT (s ++ t) := fun t _ => h t
theorem nb_cons {c : UInt8} (h : inB c = false) (r : List UInt8) : nbT (c :: r) := fun d e => by
  simp only [List.head?_cons, Option.some.injEq] at e
  rw [← e]; exact h
theorem nb_nil : nbT [] := fun d e => by cases e
theorem tw_all {p : UInt8 → Bool} : ∀ {r : List UInt8}, (r.takeWhile p).length = r.length → r.takeWhile p = r
  | [], _ => rfl
  | c :: r, h => by
    by_cases hc : p c = true
    · rw [List.takeWhile_cons_of_pos hc] at h ⊢
      rw [tw_all (by simpa using h)]
    · rw [List.takeWhile_cons_of_neg hc] at h
      simp at h
theorem tw_more {p : UInt8 → Bool} {r t : List UInt8} (hr : r.takeWhile p = r) (ht : ∀ c, t.head? = some c → p c = false) : (r ++ t).takeWhile p = r := by
  have := tw_append (p := p) r t ht
  rwa [hr] at this
theorem nb_dig {t : List UInt8} (h : nbT t) : ∀ c, t.head? = some c → isDig c = false := fun c e => by
  have := h c e
  unfold inB at this
  unfold isDig
  have h0 : cls c = 0 := by simpa using this
  rw [h0]; rfl
theorem tok_eq {V : List UInt8 → Option VL} (c : UInt8) (r : List UInt8) : tokL V (c :: r) = (meanL V (shapeL c r).1 ((c :: r).take (shapeL c r).2)).map fun v => ((shapeL c r).1, (shapeL c r).2, v) := rfl
/-- Names, variables. -/
theorem Lx.word {c : UInt8} {r : List UInt8} {k : Int} (hk : (cls c = 1 ∧ k = 1) ∨ (cls c = 2 ∧ k = 2)) (hr : r.takeWhile inB = r) (hl : r.length + 1 ≤ 64) (hs : solid c) : Lx (c :: r) [(k, c :: r, zeroL)] nbT :=
  Lx.tok hs fun t ht => by
    have hsh : shapeL c (r ++ t) = (k, r.length + 1) := by
      unfold shapeL
      rw [tw_more hr ht]
      rcases hk with ⟨h1, rfl⟩ | ⟨h1, rfl⟩
      · rw [if_pos h1]
      · rw [if_neg (by omega), if_pos h1]
    rw [tok_eq, hsh]
    have htk : (c :: (r ++ t)).take (r.length + 1) = c :: r := by rw [List.take_succ_cons, List.take_left' rfl]
    show (meanL valL k ((c :: (r ++ t)).take (r.length + 1))).map _ = _
    rw [htk]
    unfold meanL
    rw [if_pos (by rcases hk with ⟨-, rfl⟩ | ⟨-, rfl⟩ <;> simp), if_pos (by simpa using hl)]
    rfl
theorem solid_of {c : UInt8} (h : cls c ≠ 0) : solid c := by
  refine ⟨fun e => h (by rw [e]; rfl), ?_⟩
  cases hb : isBlank c with
  | false => rfl
  | true =>
    exfalso
    unfold isBlank at hb
    simp only [Bool.or_eq_true, beq_iff_eq] at hb
    rcases hb with ((rfl | rfl) | rfl) | rfl <;> exact h rfl
theorem lexS_word {s : List UInt8} {k : Int} (h : kindL s = k) (hk : k ≠ 0) : ∃ c r v, s = c :: r ∧ solid c ∧ tokL valL (c :: r) = some (k, r.length + 1, v) := by
  unfold kindL at h
  split at h
  · rename_i w e
    split at h
    · rename_i hw
      rcases lexS_cases (V := valL) (l := s) (p := 0) (by rw [e]) with ⟨-, e1⟩ | ⟨c, r, k', n, v, e1, hs, ht, h1, h2, h3, e2, h4⟩
      · rw [e1] at e; cases e
      · rw [e] at e2
        injection e2 with e3 e4
        injection e3 with e5 e6
        have hl : w.text.length = n := by rw [e5]; simp; omega
        rw [hw] at hl
        have h0 : skC false s = 0 := by omega
        rw [h0] at e1
        have hn : n = r.length + 1 := by omega
        subst hn
        refine ⟨c, r, v, e1, hs, ?_⟩
        rw [ht]
        rw [e5] at h
        rw [← h]
    · exact absurd h.symm hk
  · exact absurd h.symm hk
theorem shape_word {c : UInt8} {r : List UInt8} {k : Int} (hk : k = 1 ∨ k = 2) (h : shapeL c r = (k, r.length + 1)) : ((cls c = 1 ∧ k = 1) ∨ (cls c = 2 ∧ k = 2)) ∧ r.takeWhile inB = r := by
  unfold shapeL at h
  split at h
  · rename_i h1
    injection h with e1 e2
    exact ⟨.inl ⟨h1, e1.symm⟩, tw_all (by omega)⟩
  · split at h
    · rename_i h1
      injection h with e1 e2
      exact ⟨.inr ⟨h1, e1.symm⟩, tw_all (by omega)⟩
    · exfalso
      have hb : ∀ x : Int × Nat, x = (k, r.length + 1) → x.1 = 1 ∨ x.1 = 2 := fun x e => by rw [e]; exact hk
      have := hb _ h
      revert this
      repeat' split
      all_goals simp
/-- What is a name or a variable alone is one ahead of what does not go on. -/
theorem Lx.kind {s : List UInt8} {k : Int} (h : kindL s = k) (hk : k = 1 ∨ k = 2) : Lx s [(k, s, zeroL)] nbT := by
  obtain ⟨c, r, v, rfl, hs, ht⟩ := lexS_word h (by omega)
  have htk : (c :: r).take (r.length + 1) = c :: r := List.take_of_length_le (by simp)
  have hsh : shapeL c r = (k, r.length + 1) := by
    rw [tok_eq] at ht
    cases hm : meanL valL (shapeL c r).1 ((c :: r).take (shapeL c r).2) with
    | none => rw [hm] at ht; cases ht
    | some x =>
      rw [hm] at ht
      simp only [Option.map_some, Option.some.injEq, Prod.mk.injEq] at ht
      exact Prod.ext ht.1 ht.2.1
  obtain ⟨h1, h2⟩ := shape_word hk hsh
  have hl : r.length + 1 ≤ 64 := by
    rw [tok_eq, hsh] at ht
    show r.length + 1 ≤ 64
    have ht' : (meanL valL k ((c :: r).take (r.length + 1))).map (fun v => (k, r.length + 1, v)) = some (k, r.length + 1, v) := ht
    rw [htk] at ht'
    unfold meanL at ht'
    rw [if_pos hk] at ht'
    by_cases h64 : (c :: r).length ≤ 64
    · simpa using h64
    · rw [if_neg h64] at ht'; cases ht'
  exact Lx.word h1 h2 hl hs
end
section
open Go Go.RowKit

theorem take_own {c : UInt8} {r t : List UInt8} : (c :: (r ++ t)).take (r.length + 1) = c :: r := by rw [List.take_succ_cons, List.take_left' rfl]
/-- Any token whose shape and meaning are told. -/
theorem Lx.shaped {c : UInt8} {r : List UInt8} {k : Int} {v : VL} {C : List UInt8 → Prop} (hs : solid c) (hsh : ∀ t, C t → shapeL c (r ++ t) = (k, r.length + 1)) (hm : meanL valL k (c :: r) = some v) : Lx (c :: r) [(k, c :: r, v)] C :=
  Lx.tok hs fun t ht => by
    rw [tok_eq, hsh t ht]
    show (meanL valL k ((c :: (r ++ t)).take (r.length + 1))).map _ = _
    rw [take_own, hm]
    rfl
/-- Marks that go on with nothing. -/
theorem Lx.mark {c : UInt8} (h : c = 40 ∨ c = 41 ∨ c = 44 ∨ c = 46 ∨ c = 43 ∨ c = 61) : Lx [c] [(6, [c], zeroL)] anyT := by
  refine Lx.shaped (r := []) ?_ (fun t _ => ?_) rfl
  · rcases h with rfl | rfl | rfl | rfl | rfl | rfl <;> exact ⟨by decide, by decide⟩
  · rcases h with rfl | rfl | rfl | rfl | rfl | rfl <;> rfl
theorem Lx.ne : Lx [33, 61] [(6, [33, 61], zeroL)] anyT := Lx.shaped (r := [61]) ⟨by decide, by decide⟩ (fun _ _ => rfl) rfl
theorem Lx.le : Lx [60, 61] [(6, [60, 61], zeroL)] anyT := Lx.shaped (r := [61]) ⟨by decide, by decide⟩ (fun _ _ => rfl) rfl
theorem Lx.ge : Lx [62, 61] [(6, [62, 61], zeroL)] anyT := Lx.shaped (r := [61]) ⟨by decide, by decide⟩ (fun _ _ => rfl) rfl
theorem Lx.if_ : Lx [58, 45] [(6, [58, 45], zeroL)] anyT := Lx.shaped (r := [45]) ⟨by decide, by decide⟩ (fun _ _ => rfl) rfl
/-- A blank stands next. -/
def blT (t : List UInt8) : Prop := t.head? = some 32
theorem Lx.lt : Lx [60] [(6, [60], zeroL)] blT := Lx.shaped (r := []) ⟨by decide, by decide⟩ (fun t ht => by
  have h : t.head? = some 32 := ht
  show shapeL 60 t = (6, 1)
  unfold shapeL
  rw [h]
  rfl) rfl
theorem Lx.gt : Lx [62] [(6, [62], zeroL)] blT := Lx.shaped (r := []) ⟨by decide, by decide⟩ (fun t ht => by
  have h : t.head? = some 32 := ht
  show shapeL 62 t = (6, 1)
  unfold shapeL
  rw [h]
  rfl) rfl
theorem Lx.colon : Lx [58] [(6, [58], zeroL)] blT := Lx.shaped (r := []) ⟨by decide, by decide⟩ (fun t ht => by
  have h : t.head? = some 32 := ht
  show shapeL 58 t = (6, 1)
  unfold shapeL
  rw [h]
  rfl) rfl
/-- No digit stands next. -/
def ndT (t : List UInt8) : Prop := ∀ c, t.head? = some c → isDig c = false
theorem Lx.minus : Lx [45] [(6, [45], zeroL)] ndT := Lx.shaped (r := []) ⟨by decide, by decide⟩ (fun t ht => by
  show shapeL 45 t = (6, 1)
  have h : t.takeWhile isDig = [] := tw_more (r := []) rfl ht
  unfold shapeL
  rw [h]
  rfl) rfl
theorem Lx.any_ : Lx [95] [(3, [95], zeroL)] nbT := Lx.shaped (r := []) ⟨by decide, by decide⟩ (fun t ht => by
  show shapeL 95 t = (3, 1)
  have h : t.takeWhile inB = [] := tw_more (r := []) rfl ht
  unfold shapeL
  rw [h]
  rfl) rfl

/-! Values -/
theorem dig_cls {c : UInt8} (h : 48 ≤ c.toNat ∧ c.toNat ≤ 57) : cls c = 4 := by unfold cls; rw [if_pos h]
theorem tw_every {p : UInt8 → Bool} : ∀ {r : List UInt8}, (∀ c ∈ r, p c = true) → r.takeWhile p = r
  | [], _ => rfl
  | c :: r, h => by
    rw [List.takeWhile_cons_of_pos (h c List.mem_cons_self), tw_every fun d hd => h d (List.mem_cons_of_mem _ hd)]
theorem dig_of {m : Nat} (h : m < 10) : isDig (UInt8.ofNat (48 + m)) = true := by
  have e : (UInt8.ofNat (48 + m)).toNat = 48 + m := by simp; omega
  unfold isDig
  rw [dig_cls (by rw [e]; omega)]
  rfl
theorem dec_dig (u : Nat) : ∀ c ∈ Lib.decDigits u, isDig c = true := by
  induction u using Nat.strongRecOn with
  | ind u ih =>
    intro c hc
    rw [Lib.decDigits] at hc
    split at hc
    · rename_i h
      rw [List.mem_singleton.1 hc]
      exact dig_of h
    · rename_i h
      rcases List.mem_append.1 hc with hc | hc
      · exact ih (u / 10) (by omega) c hc
      · rw [List.mem_singleton.1 hc]
        exact dig_of (by omega)
theorem dec_cons (u : Nat) : ∃ c r, Lib.decDigits u = c :: r ∧ isDig c = true ∧ r.takeWhile isDig = r := by
  have h := dec_dig u
  cases e : Lib.decDigits u with
  | nil =>
    exfalso
    rw [Lib.decDigits] at e
    split at e
    · cases e
    · simp at e
  | cons c r =>
    rw [e] at h
    exact ⟨c, r, rfl, h c List.mem_cons_self, tw_every fun d hd => h d (List.mem_cons_of_mem _ hd)⟩
theorem dig_four {c : UInt8} (h : isDig c = true) : cls c = 4 := by simpa [isDig] using h
theorem Lx.int {n : Int} {v : VL} (hv : valL (Lib.itoa n) = some v) : Lx (Lib.itoa n) [(4, Lib.itoa n, v)] nbT := by
  unfold Lib.itoa at hv ⊢
  by_cases hn : n < 0
  · rw [if_pos hn] at hv ⊢
    obtain ⟨c, r, e, h1, h2⟩ := dec_cons n.natAbs
    rw [e] at hv ⊢
    refine Lx.shaped (r := c :: r) ⟨by decide, by decide⟩ (fun t ht => ?_) ?_
    · have h3 : (c :: r ++ t).takeWhile isDig = c :: r := by
        rw [List.cons_append, List.takeWhile_cons_of_pos h1, tw_more h2 (nb_dig ht)]
      unfold shapeL
      rw [h3]
      rfl
    · unfold meanL
      rw [if_neg (by decide), if_neg (by decide), if_pos (.inl rfl)]
      exact hv
  · rw [if_neg hn] at hv ⊢
    obtain ⟨c, r, e, h1, h2⟩ := dec_cons n.toNat
    rw [e] at hv ⊢
    have h4 := dig_four h1
    refine Lx.shaped (r := r) (solid_of (by omega)) (fun t ht => ?_) ?_
    · unfold shapeL
      rw [if_neg (by omega), if_neg (by omega), if_neg (by omega), if_pos h4, tw_more h2 (nb_dig ht)]
    · unfold meanL
      rw [if_neg (by decide), if_neg (by decide), if_pos (.inl rfl)]
      exact hv
theorem quo_whole : ∀ (l t : List UInt8), quoEnd (l.flatMap oneB ++ 34 :: t) = some ((l.flatMap oneB).length + 1)
  | [], t => by
    show quoEnd (34 :: t) = some 1
    unfold quoEnd
    rw [if_pos rfl]
  | c :: l, t => by
    rw [List.flatMap_cons, List.append_assoc, quo_oneB, quo_whole l t, List.length_append]
    simp only [Option.map_some, Option.some.injEq]
    omega
theorem Lx.sym {l : List UInt8} {v : VL} (hv : valL (quoteL l) = some v) : Lx (quoteL l) [(5, quoteL l, v)] nbT := by
  have e : quoteL l = 34 :: (l.flatMap oneB ++ [34]) := rfl
  rw [e] at hv ⊢
  refine Lx.shaped ⟨by decide, by decide⟩ (fun t _ => ?_) ?_
  · have h1 : quoEnd (l.flatMap oneB ++ [34] ++ t) = some ((l.flatMap oneB).length + 1) := by rw [List.append_assoc]; exact quo_whole l t
    unfold shapeL
    rw [if_neg (by decide), if_neg (by decide), if_neg (by decide), if_neg (by decide), if_pos rfl, h1]
    simp
  · unfold meanL
    rw [if_neg (by decide), if_neg (by decide), if_pos (.inr rfl)]
    exact hv
theorem Lx.val {k n : Int} {S : ByteArray} (h1 : IsV k n S) (h2 : I64 n) : Lx (textL k n S) [(if k = 1 then 4 else 5, textL k n S, (k, n, S))] nbT := by
  have hv := valL_own h1 h2
  unfold textL at hv ⊢
  by_cases hk : k = 1
  · rw [if_pos hk] at hv ⊢
    rw [if_pos hk]
    exact Lx.int hv
  · rw [if_neg hk] at hv ⊢
    rw [if_neg hk]
    exact Lx.sym hv

/-! Parts -/
def cK (m : List UInt8) : Kt := (6, m, zeroL)
def wK (m : List UInt8) : Kt := (1, m, zeroL)
/-- Rows of tokens with a comma between any two. -/
def joinK : List (List Kt) → List Kt
  | [] => []
  | t :: ts => t ++ (if ts = [] then [] else cK [44] :: joinK ts)
def termK (t : TmL) : Kt := if t.kind = 1 then (2, t.name, zeroL) else if t.kind = 2 then (if t.val.1 = 1 then 4 else 5, textL t.val.1 t.val.2.1 t.val.2.2, t.val) else (3, [95], zeroL)
def namedK (s : List UInt8) (L : List (List Kt)) : List Kt := wK s :: cK [40] :: (joinK L ++ [cK [41]])
def atomK (a : AtL) : List Kt := namedK a.pred (a.args.map fun t => [termK t])
def opM (n : Int) : List UInt8 := (opP n).getD []
def litK (l : LiL) : List Kt := if l.kind = 2 then wK wNot :: atomK l.atom else if l.kind = 1 then atomK l.atom else [termK l.a, cK (opM l.op), termK l.b]
def tailK (m : List UInt8) (L : List (List Kt)) : List Kt := if L = [] then [] else cK m :: joinK L
def ruleK (r : RuL) : List Kt := atomK r.head ++ (tailK [58, 45] (r.body.map litK) ++ [cK [46]])
def typeK (n : Int) : Kt := wK ((typeP n).getD [])
def declK (d : DeL) : List Kt := wK (if d.base = true then wBase else wView) :: (namedK d.name (d.types.map fun n => [typeK n]) ++ [cK [46]])
def paramK (p : List UInt8 × Int) : List Kt := [(2, p.1, zeroL), typeK p.2]
def actK (a : ActL) : List Kt := cK (if a.plus = true then [43] else [45]) :: atomK a.atom
def onK (o : OnL) : List Kt := wK wOn :: (namedK o.event (o.params.map paramK) ++ (tailK [58] (o.acts.map actK) ++ [cK [46]]))
theorem nb_mark {c : UInt8} (h : c = 40 ∨ c = 41 ∨ c = 44 ∨ c = 46 ∨ c = 32 ∨ c = 10) (r : List UInt8) : nbT (c :: r) := nb_cons (by rcases h with rfl | rfl | rfl | rfl | rfl | rfl <;> decide) r
theorem Lx.blank : Lx [32] [] anyT := Lx.gap rfl (by decide)
theorem Lx.line : Lx [10] [] anyT := Lx.gap rfl (by decide)
theorem Lx.comma : Lx [44, 32] [cK [44]] anyT := (Lx.mark (.inr (.inr (.inl rfl)))).app Lx.blank fun _ _ => trivial
/-- A row of parts, with a comma and a blank between any two. -/
theorem Lx.join {α : Type} {P : α → Option (List UInt8)} {K : α → List Kt} : ∀ (L : List α) (s : List UInt8), (∀ x ∈ L, ∀ s, P x = some s → Lx s (K x) nbT) → rowP P [44, 32] L = some s → Lx s (joinK (L.map K)) nbT
  | [], s, _, h => by
    cases h
    exact Lx.nil
  | x :: L, s, hP, h => by
    unfold rowP at h
    rw [List.map_cons] at h
    cases hx : P x with
    | none => rw [hx] at h; simp [allO] at h
    | some a =>
      rw [hx] at h
      cases hL : allO (L.map P) with
      | none => simp [allO, hL] at h
      | some ts =>
        simp only [allO, hL, Option.map_some, Option.some.injEq] at h
        subst h
        have h1 := hP x List.mem_cons_self a hx
        have h2 := Lx.join L (joinS [44, 32] ts) (fun y hy => hP y (List.mem_cons_of_mem _ hy)) (by unfold rowP; rw [hL]; rfl)
        have hlen := allO_len _ _ hL
        rw [List.length_map] at hlen
        rw [joinS, List.map_cons, joinK]
        by_cases hts : ts = []
        · subst hts
          have : L = [] := List.eq_nil_of_length_eq_zero (by simpa using hlen.symm)
          subst this
          rw [if_pos rfl, List.map_nil, if_pos rfl, List.append_nil, List.append_nil]
          exact h1
        · have hLn : ¬ L.map K = [] := fun e => hts (by
            have : L = [] := by simpa using e
            rw [this] at hlen
            exact List.eq_nil_of_length_eq_zero (by simpa using hlen))
          rw [if_neg hts, if_neg hLn]
          exact h1.app (Lx.comma.app h2 fun _ _ => trivial) fun t _ => nb_mark (.inr (.inr (.inl rfl))) _
theorem Lx.name {s r : List UInt8} (h : nameP s = some r) : Lx r [wK s] nbT ∧ r = s ∧ nameB s = true := by
  unfold nameP at h
  by_cases hb : nameB s = true
  · rw [if_pos hb] at h
    cases h
    have hk : kindL s = 1 := by unfold nameB at hb; simp at hb; exact hb.1
    exact ⟨Lx.kind hk (.inl rfl), rfl, hb⟩
  · rw [if_neg hb] at h
    cases h
theorem two_some {a b : Option (List UInt8)} {f : List UInt8 → List UInt8 → List UInt8} {s : List UInt8} (h : two a b f = some s) : ∃ x y, a = some x ∧ b = some y ∧ s = f x y := by
  cases a with
  | none => cases h
  | some x =>
    cases b with
    | none => cases h
    | some y => cases h; exact ⟨x, y, rfl, rfl, rfl⟩
theorem Lx.term {t : TmL} {s : List UInt8} (hn : I64 t.val.2.1) (h : termP t = some s) : Lx s [termK t] nbT := by
  unfold termP at h
  unfold termK
  by_cases h1 : t.kind = 1
  · rw [if_pos h1] at h ⊢
    split at h
    · rename_i hc
      cases h
      have hk : kindL t.name = 2 := by have := hc.1; unfold varB at this; simpa using this
      exact Lx.kind hk (.inr rfl)
    · cases h
  · rw [if_neg h1] at h ⊢
    by_cases h2 : t.kind = 2
    · rw [if_pos h2] at h ⊢
      split at h
      · rename_i hc
        cases h
        exact Lx.val hc.1 hn
      · cases h
    · rw [if_neg h2] at h ⊢
      by_cases h3 : t.kind = 3
      · rw [if_pos h3] at h
        split at h
        · cases h; exact Lx.any_
        · cases h
      · rw [if_neg h3] at h; cases h
theorem Lx.named {α : Type} {P : α → Option (List UInt8)} {K : α → List Kt} {n : List UInt8} {L : List α} {s : List UInt8} (hP : ∀ x ∈ L, ∀ s, P x = some s → Lx s (K x) nbT) (h : namedP P n L = some s) : Lx s (namedK n (L.map K)) anyT := by
  obtain ⟨x, y, h1, h2, rfl⟩ := two_some h
  obtain ⟨hn, rfl, -⟩ := Lx.name h1
  have hr := Lx.join L y hP h2
  have e := (hn.app ((Lx.mark (.inl rfl)).app (hr.app (Lx.mark (.inr (.inl rfl))) fun t _ => nb_mark (.inr (.inl rfl)) _) fun _ _ => trivial) fun t _ => nb_mark (.inl rfl) _)
  have : x ++ [40] ++ y ++ [41] = x ++ ([40] ++ (y ++ [41])) := by simp
  rw [this]
  exact e
theorem Lx.atom {a : AtL} {s : List UInt8} (hn : ∀ t ∈ a.args, I64 t.val.2.1) (h : atomP a = some s) : Lx s (atomK a) anyT := Lx.named (K := fun t => [termK t]) (fun t ht _ hs => Lx.term (hn t ht) hs) h
theorem Lx.op {n : Int} {s : List UInt8} (h : opP n = some s) : Lx s [cK (opM n)] blT := by
  unfold opM
  rw [h]
  unfold opP at h
  revert h
  repeat' split
  all_goals intro h; cases h
  · exact (Lx.mark (.inr (.inr (.inr (.inr (.inr rfl)))))).mono fun _ _ => trivial
  · exact Lx.ne.mono fun _ _ => trivial
  · exact Lx.lt
  · exact Lx.le.mono fun _ _ => trivial
  · exact Lx.gt
  · exact Lx.ge.mono fun _ _ => trivial
theorem Lx.kw {c : UInt8} {r : List UInt8} (hc : cls c = 1) (hr : r.takeWhile inB = r) (hl : r.length + 1 ≤ 64) : Lx (c :: r ++ [32]) [wK (c :: r)] anyT :=
  (Lx.word (.inl ⟨hc, rfl⟩) hr hl (solid_of (by omega))).app Lx.blank fun t _ => nb_mark (.inr (.inr (.inr (.inr (.inl rfl))))) _
theorem Lx.lit {l : LiL} {s : List UInt8} (hn : ∀ t ∈ l.atom.args, I64 t.val.2.1) (ha : I64 l.a.val.2.1) (hb : I64 l.b.val.2.1) (h : litP l = some s) : Lx s (litK l) nbT := by
  unfold litP at h
  unfold litK
  by_cases h12 : l.kind = 1 ∨ l.kind = 2
  · rw [if_pos h12] at h
    split at h
    · cases hA : atomP l.atom with
      | none => rw [hA] at h; cases h
      | some x =>
        rw [hA] at h
        have hx := Lx.atom hn hA
        by_cases h2 : l.kind = 2
        · rw [if_pos h2] at h ⊢
          cases h
          exact ((Lx.kw (c := 110) (r := [111, 116]) rfl rfl (by decide)).app hx fun _ _ => trivial).mono fun _ _ => trivial
        · rw [if_neg h2] at h ⊢
          rw [if_pos (by omega)]
          cases h
          exact hx.mono fun _ _ => trivial
    · cases h
  · rw [if_neg h12] at h
    rw [if_neg (by omega), if_neg (by omega)]
    by_cases h3 : l.kind = 3
    · rw [if_pos h3] at h
      split at h
      · obtain ⟨z, y, hz, hy, rfl⟩ := two_some h
        obtain ⟨x, o, hx, ho, rfl⟩ := two_some hz
        have e1 := Lx.term ha hx
        have e2 := Lx.op ho
        have e3 := Lx.term hb hy
        have e := e1.app (Lx.blank.app (e2.app (Lx.blank.app e3 fun _ _ => trivial) fun _ _ => rfl) fun _ _ => trivial) fun t _ => nb_mark (.inr (.inr (.inr (.inr (.inl rfl))))) _
        have : x ++ [32] ++ o ++ [32] ++ y = x ++ ([32] ++ (o ++ ([32] ++ y))) := by simp
        rw [this]
        exact e
      · cases h
    · rw [if_neg h3] at h; cases h
theorem Lx.tail {α : Type} {P : α → Option (List UInt8)} {K : α → List Kt} {m : List UInt8} {k : List UInt8} {L : List α} {s : List UInt8} (hm : Lx m [cK k] anyT) (hP : ∀ x ∈ L, ∀ s, P x = some s → Lx s (K x) nbT) (h : tailP m P L = some s) : Lx s (tailK k (L.map K)) nbT := by
  unfold tailP at h
  unfold tailK
  by_cases hL : L.length = 0
  · rw [if_pos hL] at h
    cases h
    have : L = [] := List.eq_nil_of_length_eq_zero hL
    subst this
    exact Lx.nil
  · rw [if_neg hL] at h
    rw [if_neg (by intro e; apply hL; have : L = [] := by simpa using e
                   rw [this]; rfl)]
    cases hR : rowP P [44, 32] L with
    | none => rw [hR] at h; cases h
    | some y =>
      rw [hR] at h
      cases h
      exact hm.app (Lx.join L y hP hR) fun _ _ => trivial
/-- A part of a line that ends with a point. -/
theorem Lx.point {s : List UInt8} {T : List Kt} (h : Lx s T nbT) : Lx (s ++ [46]) (T ++ [cK [46]]) anyT := h.app (Lx.mark (.inr (.inr (.inr (.inl rfl))))) fun _ _ => nb_mark (.inr (.inr (.inr (.inl rfl)))) _
theorem tail_ends {α : Type} {P : α → Option (List UInt8)} {m : List UInt8} {L : List α} {y : List UInt8} (h : tailP m P L = some y) : y = [] ∨ ∃ r, y = m ++ r := by
  unfold tailP at h
  split at h
  · cases h; exact .inl rfl
  · cases hR : rowP P [44, 32] L with
    | none => rw [hR] at h; cases h
    | some z => rw [hR] at h; cases h; exact .inr ⟨z, rfl⟩
theorem Lx.rule {r : RuL} {s : List UInt8} (hh : ∀ t ∈ r.head.args, I64 t.val.2.1) (hb : ∀ l ∈ r.body, (∀ t ∈ l.atom.args, I64 t.val.2.1) ∧ I64 l.a.val.2.1 ∧ I64 l.b.val.2.1) (h : ruleP r = some s) : Lx s (ruleK r) anyT := by
  obtain ⟨x, y, hx, hy, rfl⟩ := two_some h
  have e1 := Lx.atom hh hx
  have e2 := Lx.tail (K := litK) (k := [58, 45]) (Lx.blank.app (Lx.if_.app Lx.blank fun _ _ => trivial) fun _ _ => trivial) (fun l hl s hs => Lx.lit (hb l hl).1 (hb l hl).2.1 (hb l hl).2.2 hs) hy
  rw [List.append_assoc]
  exact e1.app e2.point fun _ _ => trivial
theorem Lx.type {n : Int} {s : List UInt8} (h : typeP n = some s) : Lx s [typeK n] nbT := by
  unfold typeK
  rw [h]
  unfold typeP at h
  by_cases h1 : n = 1
  · rw [if_pos h1] at h; cases h
    exact Lx.word (c := 105) (r := [110, 116]) (.inl ⟨rfl, rfl⟩) rfl (by decide) (solid_of (by decide))
  · rw [if_neg h1] at h
    by_cases h2 : n = 2
    · rw [if_pos h2] at h; cases h
      exact Lx.word (c := 115) (r := [121, 109]) (.inl ⟨rfl, rfl⟩) rfl (by decide) (solid_of (by decide))
    · rw [if_neg h2] at h; cases h
theorem Lx.decl {d : DeL} {s : List UInt8} (h : declP d = some s) : Lx s (declK d) anyT := by
  unfold declP at h
  cases hN : namedP typeP d.name d.types with
  | none => rw [hN] at h; cases h
  | some x =>
    rw [hN] at h
    cases h
    have e1 := Lx.named (K := fun n => [typeK n]) (fun n _ s hs => Lx.type hs) hN
    have e2 := (e1.mono (C' := nbT) fun _ _ => trivial).point
    unfold declK
    cases d.base with
    | true => show Lx (wBase ++ [32] ++ x ++ [46]) _ _; rw [List.append_assoc]; exact (Lx.kw (c := 98) (r := [97, 115, 101]) rfl rfl (by decide)).app e2 fun _ _ => trivial
    | false => show Lx (wView ++ [32] ++ x ++ [46]) _ _; rw [List.append_assoc]; exact (Lx.kw (c := 118) (r := [105, 101, 119]) rfl rfl (by decide)).app e2 fun _ _ => trivial
theorem Lx.param {p : List UInt8 × Int} {s : List UInt8} (h : paramP p = some s) : Lx s (paramK p) nbT := by
  obtain ⟨x, y, hx, hy, rfl⟩ := two_some h
  unfold varP at hx
  by_cases hb : varB p.1 = true
  · rw [if_pos hb] at hx
    cases hx
    have hk : kindL p.1 = 2 := by unfold varB at hb; simpa using hb
    rw [List.append_assoc]
    exact (Lx.kind hk (.inr rfl)).app (Lx.blank.app (Lx.type hy) fun _ _ => trivial) fun t _ => nb_mark (.inr (.inr (.inr (.inr (.inl rfl))))) _
  · rw [if_neg hb] at hx; cases hx
theorem name_ahead {c : UInt8} {r : List UInt8} (h : nameB (c :: r) = true) : isDig c = false := by
  have hk : kindL (c :: r) = 1 := by unfold nameB at h; simp at h; exact h.1
  obtain ⟨c', r', v, e, hs, ht⟩ := lexS_word hk (by decide)
  injection e with e1 e2
  subst e1 e2
  have hsh : shapeL c r = (1, r.length + 1) := by
    rw [tok_eq] at ht
    cases hm : meanL valL (shapeL c r).1 ((c :: r).take (shapeL c r).2) with
    | none => rw [hm] at ht; cases ht
    | some x =>
      rw [hm] at ht
      simp only [Option.map_some, Option.some.injEq, Prod.mk.injEq] at ht
      exact Prod.ext ht.1 ht.2.1
  rcases (shape_word (.inl rfl) hsh).1 with ⟨h1, -⟩ | ⟨h1, h2⟩
  · unfold isDig; rw [h1]; rfl
  · cases h2
theorem Lx.act {a : ActL} {s : List UInt8} (hn : ∀ t ∈ a.atom.args, I64 t.val.2.1) (h : actP a = some s) : Lx s (actK a) nbT := by
  unfold actP at h
  cases hA : atomP a.atom with
  | none => rw [hA] at h; cases h
  | some x =>
    rw [hA] at h
    cases h
    have e := Lx.atom hn hA
    unfold actK
    cases a.plus with
    | true => exact ((Lx.mark (.inr (.inr (.inr (.inr (.inl rfl)))))).app e fun _ _ => trivial).mono fun _ _ => trivial
    | false =>
      refine (Lx.minus.app e fun t _ => ?_).mono fun _ _ => trivial
      obtain ⟨x', y', h1, h2, rfl⟩ := two_some hA
      obtain ⟨-, rfl, hb⟩ := Lx.name h1
      intro c hc
      have hk : kindL a.atom.pred = 1 := by unfold nameB at hb; simp at hb; exact hb.1
      obtain ⟨c', r', v, e', -, -⟩ := lexS_word hk (by decide)
      rw [e'] at hb hc
      simp only [List.cons_append, List.head?_cons, Option.some.injEq] at hc
      rw [← hc]
      exact name_ahead hb
theorem Lx.on {o : OnL} {s : List UInt8} (hn : ∀ a ∈ o.acts, ∀ t ∈ a.atom.args, I64 t.val.2.1) (h : onP o = some s) : Lx s (onK o) anyT := by
  obtain ⟨x, y, hx, hy, rfl⟩ := two_some h
  have e1 := Lx.named (K := paramK) (fun p _ s hs => Lx.param hs) hx
  have e2 := Lx.tail (K := actK) (k := [58]) (Lx.colon.app Lx.blank fun t _ => rfl) (fun a ha s hs => Lx.act (hn a ha) hs) hy
  have e := (Lx.kw (c := 111) (r := [110]) rfl rfl (by decide)).app (e1.app e2.point fun _ _ => trivial) fun _ _ => trivial
  have : wOn ++ [32] ++ x ++ y ++ [46] = wOn ++ [32] ++ (x ++ (y ++ [46])) := by simp
  rw [this]
  exact e
end
section
open Go Go.RowKit

/-- Ahead of anything the reader takes these tokens, so. -/
def Rz {α : Type} (p : Rd α) (T : List Kt) (a : α) : Prop := ∀ r, p (T ++ r) = .ok a r
section
variable {α β : Type} {p p' : Rd α} {f : α → Rd β} {T T' : List Kt} {a : α} {b : β} {q : Kt → Bool} {t : Kt}
theorem Rz.pure (a : α) : Rz (pureR a) [] a := fun _ => rfl
theorem Rz.bind (h : Rz p T a) (h' : Rz (f a) T' b) : Rz (bindR p f) (T ++ T') b := fun r => by
  unfold bindR
  rw [List.append_assoc, h]
  exact h' r
theorem Rz.map (h : Rz p T a) (g : α → β) : Rz (bindR p fun a => pureR (g a)) T (g a) := by
  have := h.bind (f := fun a => pureR (g a)) (Rz.pure (g a))
  rwa [List.append_nil] at this
theorem Rz.tok (h : q t = true) : Rz (tok1 q) [t] t := fun r => by
  show tok1 q (t :: r) = _
  rw [tok1_cons, if_pos h]
theorem Rz.yes (h : q t = true) (hp : Rz p (t :: T) a) : Rz (altR q p p') (t :: T) a := fun r => by
  unfold altR
  rw [if_pos (by exact h)]
  exact hp r
theorem Rz.no (h : q t = false) (hp : Rz p' (t :: T) a) : Rz (altR q p p') (t :: T) a := fun r => by
  unfold altR
  rw [if_neg (by show ¬ q t = true; rw [h]; simp)]
  exact hp r
/-- What is one thing alone is no other. -/
theorem Rz.one {b : α} (h : Rz p T a) (h' : Rz p T b) : a = b := by
  have e := (h []).symm.trans (h' [])
  injection e
end
theorem rd_mark (m : List UInt8) : Rz (markR m) [cK m] () := (Rz.tok (q := isM m) (by simp [isM, cK])).map _
/-- A row with commas, ahead of another mark. -/
theorem rd_sep {α : Type} {p : Rd α} {K : α → List Kt} {q : Kt → Bool} (hc : q (cK [44]) = true) {m : Kt} (hm : q m = false) : ∀ (L : List α), L ≠ [] → (∀ x ∈ L, Rz p (K x) x) → ∀ r, sepL q p (joinK (L.map K) ++ m :: r) = .ok L (m :: r)
  | [], h, _, _ => absurd rfl h
  | [x], _, hP, r => by
    have h1 := hP x List.mem_cons_self (m :: r)
    have e : joinK ([x].map K) ++ m :: r = K x ++ m :: r := by simp [joinK]
    rw [e, sepL, h1]
    simp only
    rw [if_neg (by rw [hm]; simp)]
  | x :: y :: L, _, hP, r => by
    have h1 := hP x List.mem_cons_self (cK [44] :: (joinK ((y :: L).map K) ++ m :: r))
    have h2 := rd_sep hc hm (y :: L) (by simp) (fun z hz => hP z (List.mem_cons_of_mem _ hz)) r
    have e : joinK ((x :: y :: L).map K) ++ m :: r = K x ++ cK [44] :: (joinK ((y :: L).map K) ++ m :: r) := by
      rw [List.map_cons, joinK, if_neg (by simp), List.append_assoc]
      rfl
    rw [e, sepL, h1]
    simp only
    rw [if_pos hc, if_pos (by simp only [List.length_append, List.length_cons]; omega), h2]
    rfl
/-- A row in brackets. -/
theorem rd_row {α : Type} {p : Rd α} {K : α → List Kt} (L : List α) (hP : ∀ x ∈ L, Rz p (K x) x) (hh : ∀ x ∈ L, ∃ t T, K x = t :: T ∧ isM [41] t = false) : Rz (rowR p) (joinK (L.map K) ++ [cK [41]]) L := fun r => by
  unfold rowR bindR altR
  by_cases hL : L = []
  · subst hL
    rfl
  · have e : (joinK (L.map K) ++ [cK [41]] ++ r) = joinK (L.map K) ++ cK [41] :: r := by simp
    obtain ⟨x, L', rfl⟩ : ∃ x L', L = x :: L' := by
      cases L with
      | nil => exact absurd rfl hL
      | cons x L' => exact ⟨x, L', rfl⟩
    obtain ⟨t, T, ht, hq⟩ := hh x List.mem_cons_self
    have hn : ¬ nxt (isM [41]) (joinK ((x :: L').map K) ++ cK [41] :: r) = true := by
      rw [List.map_cons, joinK, ht]
      show ¬ isM [41] t = true
      rw [hq]
      simp
    rw [e, if_neg hn, rd_sep (q := isM [44]) rfl rfl (x :: L') hL hP r]
    rfl
/-- What may stand behind a mark, and the point. -/
theorem rd_more {α : Type} {p : Rd α} {K : α → List Kt} {m : List UInt8} (hm : m ≠ [46]) (L : List α) (hP : ∀ x ∈ L, Rz p (K x) x) : Rz (bindR (moreR m p) fun b => bindR (markR [46]) fun _ => pureR b) (tailK m (L.map K) ++ [cK [46]]) L := fun r => by
  unfold moreR bindR altR
  by_cases hL : L = []
  · subst hL
    have hn : ¬ nxt (isM m) (tailK m (([] : List α).map K) ++ [cK [46]] ++ r) = true := by
      show ¬ isM m (cK [46]) = true
      intro e
      simp [isM, cK] at e
      exact hm e.symm
    rw [if_neg hn]
    rfl
  · have e : tailK m (L.map K) ++ [cK [46]] ++ r = cK m :: (joinK (L.map K) ++ cK [46] :: r) := by
      unfold tailK
      rw [if_neg (by simpa using hL)]
      simp
    have hy : nxt (isM m) (cK m :: (joinK (L.map K) ++ cK [46] :: r)) = true := by show isM m (cK m) = true; simp [isM, cK]
    have ht : tok1 (isM m) (cK m :: (joinK (L.map K) ++ cK [46] :: r)) = .ok (cK m) (joinK (L.map K) ++ cK [46] :: r) := by rw [tok1_cons, if_pos (by exact hy)]
    rw [e, if_pos hy]
    simp only [ht, Rs.bind]
    rw [rd_sep (q := isM [44]) rfl rfl L hL hP r]
    rfl
theorem rd_name {s r : List UInt8} (h : nameP s = some r) : Rz nameR [wK s] s := by
  have hb := (Lx.name h).2.2
  have hr : reservedL s = false := by unfold nameB at hb; simp at hb; exact hb.2
  exact (Rz.tok (q := isName) (t := wK s) (by simp [isName, wK, hr])).map fun t => t.2.1
theorem name_not {s r : List UInt8} (h : nameP s = some r) : s ≠ wBase ∧ s ≠ wView ∧ s ≠ wOn ∧ s ≠ wNot ∧ isName (wK s) = true := by
  have hb := (Lx.name h).2.2
  have hr : reservedL s = false := by unfold nameB at hb; simp at hb; exact hb.2
  refine ⟨?_, ?_, ?_, ?_, by simp [isName, wK, hr]⟩ <;> rintro rfl <;> revert hr <;> decide
theorem rd_term {t : TmL} {s : List UInt8} (h : termP t = some s) : Rz termR [termK t] t := by
  have key : isTerm (termK t) = true ∧ termOf (termK t) = t := by
    obtain ⟨k, n, v⟩ := t
    unfold termP at h
    unfold termK
    simp only at h ⊢
    by_cases h1 : k = 1
    · subst h1
      rw [if_pos rfl] at h ⊢
      split at h
      · rename_i hc
        exact ⟨rfl, by rw [hc.2]; rfl⟩
      · cases h
    · rw [if_neg h1] at h ⊢
      by_cases h2 : k = 2
      · subst h2
        rw [if_pos rfl] at h ⊢
        split at h
        · rename_i hc
          rw [hc.2]
          by_cases hk : v.1 = 1
          · rw [if_pos hk]; exact ⟨rfl, rfl⟩
          · rw [if_neg hk]; exact ⟨rfl, rfl⟩
        · cases h
      · rw [if_neg h2] at h ⊢
        by_cases h3 : k = 3
        · subst h3
          rw [if_pos rfl] at h
          split at h
          · rename_i hc
            rw [hc.1, hc.2]
            exact ⟨rfl, rfl⟩
          · cases h
        · rw [if_neg h3] at h; cases h
  have := (Rz.tok (q := isTerm) key.1).map termOf
  rw [key.2] at this
  exact this
theorem term_head (t : TmL) : isM [41] (termK t) = false ∧ isW wNot (termK t) = false ∧ isName (termK t) = false := by
  unfold termK
  by_cases h1 : t.kind = 1
  · rw [if_pos h1]; exact ⟨rfl, rfl, rfl⟩
  · rw [if_neg h1]
    by_cases h2 : t.kind = 2
    · rw [if_pos h2]
      by_cases hk : t.val.1 = 1
      · rw [if_pos hk]; exact ⟨rfl, rfl, rfl⟩
      · rw [if_neg hk]; exact ⟨rfl, rfl, rfl⟩
    · rw [if_neg h2]; exact ⟨rfl, rfl, rfl⟩
theorem row_all_some {α : Type} {P : α → Option (List UInt8)} {sep : List UInt8} {L : List α} {s : List UInt8} (h : rowP P sep L = some s) : ∀ x ∈ L, ∃ y, P x = some y := fun x hx => by
  cases e : P x with
  | some y => exact ⟨y, rfl⟩
  | none =>
    unfold rowP at h
    rw [allO_bad _ (List.mem_map.2 ⟨x, hx, e⟩)] at h
    cases h
/-- A name and a row in brackets. -/
theorem rd_named {α β : Type} {P : α → Option (List UInt8)} {p : Rd α} {K : α → List Kt} {n : List UInt8} {L : List α} {s : List UInt8} {g : List UInt8 → List α → Rd β} {T : List Kt} {b : β} (h : namedP P n L = some s) (hP : ∀ x ∈ L, ∀ y, P x = some y → Rz p (K x) x) (hh : ∀ x ∈ L, ∃ t T, K x = t :: T ∧ isM [41] t = false) (hg : Rz (g n L) T b) :
    Rz (bindR nameR fun n => bindR (markR [40]) fun _ => bindR (rowR p) fun xs => g n xs) (namedK n (L.map K) ++ T) b := by
  obtain ⟨x, y, h1, h2, -⟩ := two_some h
  have hr := rd_row (p := p) (K := K) L (fun x hx => by obtain ⟨y, e⟩ := row_all_some h2 x hx; exact hP x hx y e) hh
  have e : namedK n (L.map K) ++ T = [wK n] ++ ([cK [40]] ++ ((joinK (L.map K) ++ [cK [41]]) ++ T)) := by unfold namedK; simp
  rw [e]
  exact (rd_name h1).bind ((rd_mark [40]).bind (hr.bind hg))
theorem rd_atom {a : AtL} {s : List UInt8} (h : atomP a = some s) : Rz atomR (atomK a) a := by
  have := rd_named (g := fun n xs => pureR (AtL.mk n xs)) (T := []) (b := a) (K := fun t => [termK t]) (p := termR) h (fun x _ y e => rd_term e) (fun x _ => ⟨_, [], rfl, (term_head x).1⟩) (Rz.pure _)
  rw [List.append_nil] at this
  exact this
theorem rd_op {n : Int} {s : List UInt8} (h : opP n = some s) : Rz opR [cK (opM n)] n := by
  have key : isOp (cK (opM n)) = true ∧ opNo (cK (opM n)) = n := by
    unfold opM
    rw [h]
    unfold opP at h
    revert h
    repeat' split
    all_goals intro h; cases h
    all_goals rename_i e; subst e; exact ⟨rfl, rfl⟩
  have := (Rz.tok (q := isOp) key.1).map opNo
  rw [key.2] at this
  exact this
theorem atomK_cons (a : AtL) : ∃ T, atomK a = wK a.pred :: T := ⟨_, rfl⟩
theorem rd_lit {l : LiL} {s : List UInt8} (h : litP l = some s) : Rz literalR (litK l) l := by
  obtain ⟨k, at_, op, a, b⟩ := l
  unfold litP at h
  unfold litK
  simp only at h ⊢
  by_cases h12 : k = 1 ∨ k = 2
  · rw [if_pos h12] at h
    split at h
    · rename_i hc
      obtain ⟨rfl, rfl, rfl⟩ := hc
      cases hA : atomP at_ with
      | none => rw [hA] at h; cases h
      | some x =>
        have hx := rd_atom hA
        obtain ⟨z, y, h1, -, -⟩ := two_some hA
        obtain ⟨-, -, -, h5, h6⟩ := name_not h1
        by_cases h2 : k = 2
        · subst h2
          rw [if_pos rfl]
          exact Rz.yes (q := isW wNot) (by rfl) ((Rz.tok (q := isW wNot) (t := wK wNot) (by rfl)).bind (T' := atomK at_) (hx.map fun a => LiL.mk 2 a 0 zeroT zeroT))
        · obtain rfl : k = 1 := by omega
          rw [if_neg (by decide), if_pos rfl]
          obtain ⟨T, hT⟩ := atomK_cons at_
          rw [hT] at hx ⊢
          exact Rz.no (q := isW wNot) (by simp [isW, wK, h5]) (Rz.yes h6 (hx.map fun a => LiL.mk 1 a 0 zeroT zeroT))
    · cases h
  · rw [if_neg h12] at h
    rw [if_neg (by omega), if_neg (by omega)]
    by_cases h3 : k = 3
    · subst h3
      rw [if_pos rfl] at h
      split at h
      · rename_i hc
        obtain ⟨z, y, hz, hy, -⟩ := two_some h
        obtain ⟨x, o, hx, ho, -⟩ := two_some hz
        obtain ⟨p, l⟩ := at_
        obtain ⟨rfl, rfl⟩ := hc
        have e := (rd_term hx).bind (f := fun a => bindR opR fun o => bindR termR fun b => pureR (LiL.mk 3 zeroA o a b)) ((rd_op ho).bind ((rd_term hy).map fun b => LiL.mk 3 zeroA op a b))
        exact Rz.no (term_head a).2.1 (Rz.no (term_head a).2.2 e)
      · cases h
    · rw [if_neg h3] at h; cases h
theorem tail_some {α : Type} {P : α → Option (List UInt8)} {m : List UInt8} {L : List α} {y : List UInt8} (h : tailP m P L = some y) : ∀ x ∈ L, ∃ z, P x = some z := fun x hx => by
  unfold tailP at h
  by_cases hL : L.length = 0
  · rw [List.eq_nil_of_length_eq_zero hL] at hx; cases hx
  · rw [if_neg hL] at h
    cases hR : rowP P [44, 32] L with
    | none => rw [hR] at h; cases h
    | some z => exact row_all_some hR x hx
theorem rd_rule {r : RuL} {s : List UInt8} (h : ruleP r = some s) : Rz ruleR (ruleK r) r := by
  obtain ⟨x, y, hx, hy, -⟩ := two_some h
  have e2 := rd_more (p := literalR) (K := litK) (m := [58, 45]) (by decide) r.body fun l hl => by obtain ⟨z, e⟩ := tail_some hy l hl; exact rd_lit e
  exact (rd_atom hx).bind (e2.map fun b => RuL.mk r.head b)
theorem rd_type {n : Int} {s : List UInt8} (h : typeP n = some s) : Rz kindR [typeK n] n := by
  have key : isType (typeK n) = true ∧ (if isW wInt (typeK n) = true then (1 : Int) else 2) = n := by
    unfold typeK
    unfold typeP at h ⊢
    by_cases h1 : n = 1
    · subst h1; exact ⟨rfl, rfl⟩
    · rw [if_neg h1] at h ⊢
      by_cases h2 : n = 2
      · subst h2; exact ⟨rfl, rfl⟩
      · rw [if_neg h2] at h; cases h
  have := (Rz.tok (q := isType) key.1).map fun t => if isW wInt t = true then (1 : Int) else 2
  rw [key.2] at this
  exact this
theorem type_head (n : Int) : isM [41] (typeK n) = false := rfl
theorem rd_decl {d : DeL} {s : List UInt8} (h : declP d = some s) : Rz (declR d.base) (declK d) d := by
  unfold declP at h
  cases hN : namedP typeP d.name d.types with
  | none => rw [hN] at h; cases h
  | some x =>
    have e := rd_named (p := kindR) (K := fun n => [typeK n]) (g := fun n ts => bindR (markR [46]) fun _ => pureR (DeL.mk d.base n ts)) (T := [cK [46]]) (b := d) hN (fun n _ y e => rd_type e) (fun n _ => ⟨_, [], rfl, type_head n⟩) ((rd_mark [46]).map fun _ => DeL.mk d.base d.name d.types)
    exact (Rz.tok (q := fun _ => true) (t := wK (if d.base = true then wBase else wView)) rfl).bind e
theorem rd_param {p : List UInt8 × Int} {s : List UInt8} (h : paramP p = some s) : Rz paramR (paramK p) p := by
  obtain ⟨x, y, hx, hy, -⟩ := two_some h
  exact (Rz.tok (q := isK 2) (t := (2, p.1, zeroL)) rfl).bind (T' := [typeK p.2]) ((rd_type hy).map fun k => (p.1, k))
theorem rd_act {a : ActL} {s : List UInt8} (h : actP a = some s) : Rz actR (actK a) a := by
  obtain ⟨pl, at_⟩ := a
  unfold actP at h
  cases hA : atomP at_ with
  | none => rw [hA] at h; cases h
  | some x =>
    have e := rd_atom hA
    cases pl with
    | true => exact Rz.yes (q := isM [43]) rfl ((Rz.tok (q := isM [43]) (t := cK [43]) rfl).bind (T' := atomK at_) (e.map fun a => ActL.mk true a))
    | false => exact Rz.no (q := isM [43]) rfl ((rd_mark [45]).bind (T' := atomK at_) (e.map fun a => ActL.mk false a))
theorem rd_on {o : OnL} {s : List UInt8} (h : onP o = some s) : Rz onR (onK o) o := by
  obtain ⟨x, y, hx, hy, -⟩ := two_some h
  have e2 := rd_more (p := actR) (K := actK) (m := [58]) (by decide) o.acts fun a ha => by obtain ⟨z, e⟩ := tail_some hy a ha; exact rd_act e
  have e := rd_named (p := paramR) (K := paramK) (g := fun n ps => bindR (bindR (moreR [58] actR) fun xs => bindR (markR [46]) fun _ => pureR xs) fun xs => pureR (OnL.mk n ps xs)) (T := tailK [58] (o.acts.map actK) ++ [cK [46]]) (b := o) hx (fun p _ y e => rd_param e) (fun p _ => ⟨_, _, rfl, rfl⟩) (e2.map fun xs => OnL.mk o.event o.params xs)
  exact (Rz.tok (q := fun _ => true) (t := wK wOn) rfl).bind e
/-- One text, one part. -/
theorem rule_one {a b : RuL} {s : List UInt8} (ha : ruleP a = some s) (hb : ruleP b = some s) (hk : ruleK a = ruleK b) : a = b := (rd_rule ha).one (hk ▸ rd_rule hb)
theorem on_one {a b : OnL} {s : List UInt8} (ha : onP a = some s) (hb : onP b = some s) (hk : onK a = onK b) : a = b := (rd_on ha).one (hk ▸ rd_on hb)
end
section
open Go Go.RowKit Go.Shelf

def clK : DeL ⊕ (OnL ⊕ RuL) → List Kt
  | .inl d => declK d
  | .inr (.inl o) => onK o
  | .inr (.inr r) => ruleK r
def progK (p : PrL) : List Kt := ((allC p).map clK).flatten
theorem lines_words : ∀ (C : List (DeL ⊕ (OnL ⊕ RuL))) (ts : List (List UInt8)), (∀ x ∈ C, ∀ s, clP x = some s → Lx s (clK x) anyT) → allO (C.map clP) = some ts → Lx (flatL ts) (C.map clK).flatten anyT
  | [], ts, _, h => by
    cases h
    exact Lx.nil
  | x :: C, ts, hP, h => by
    rw [List.map_cons] at h
    cases hx : clP x with
    | none => rw [hx] at h; simp [allO] at h
    | some a =>
      rw [hx] at h
      cases hL : allO (C.map clP) with
      | none => simp [allO, hL] at h
      | some us =>
        simp only [allO, hL, Option.map_some, Option.some.injEq] at h
        subst h
        have h1 := hP x List.mem_cons_self a hx
        have h2 := lines_words C us (fun y hy => hP y (List.mem_cons_of_mem _ hy)) hL
        have e : flatL (a :: us) = a ++ ([10] ++ flatL us) := by simp [flatL]
        rw [e, List.map_cons, List.flatten_cons]
        exact h1.app (Lx.line.app h2 fun _ _ => trivial) fun _ _ => trivial
theorem SmA.nums {a : AtL} (h : SmA a) : ∀ t ∈ a.args, I64 t.val.2.1 := fun t ht => (h.all_ t ht).int
theorem rule_words {r : RuL} (h : SmR r) {s : List UInt8} (hs : ruleP r = some s) : Lx s (ruleK r) anyT := Lx.rule h.head.nums (fun l hl => ⟨(h.all_ l hl).atom.nums, (h.all_ l hl).a.int, (h.all_ l hl).b.int⟩) hs
theorem on_words {o : OnL} (h : SmO o) {s : List UInt8} (hs : onP o = some s) : Lx s (onK o) anyT := Lx.on (fun a ha => (h.all_ a ha).nums) hs
theorem prog_words {p : PrL} (h : SmP p) {s : List UInt8} (hs : progP p = some s) : KyIs s (progK p) := by
  rw [progP_all] at hs
  cases hL : allO ((allC p).map clP) with
  | none => rw [hL] at hs; cases hs
  | some ts =>
    rw [hL] at hs
    cases hs
    refine (lines_words (allC p) ts (fun x hx s hs => ?_) hL).all trivial
    unfold allC at hx
    rcases List.mem_append.1 hx with hx | hx
    · obtain ⟨d, hd, rfl⟩ := List.mem_map.1 hx
      exact Lx.decl hs
    · rcases List.mem_append.1 hx with hx | hx
      · obtain ⟨o, ho, rfl⟩ := List.mem_map.1 hx
        exact on_words (h.os o ho) hs
      · obtain ⟨r, hr, rfl⟩ := List.mem_map.1 hx
        exact rule_words (h.rs r hr) hs
end
end Go.Proofs.YtfjpiofinffpfaaDoor
