/-
  Keys of sectors in general; the loose sectors of file 0, as data.
-/
import Derived.Test.YtnmeehhjfcciiaaDsB
namespace Go.Proofs.Ytnmeehhjfcciiaa
open Go Go.RowKit Go.Maps Go.WideMaps

theorem keyTypeSp : Try.prog.keyType 92 = true := by kernel_rfl
theorem cellsSp : Try.prog.cellsOf 92 = 2 := by kernel_rfl
theorem cellsIn : Try.prog.cellsOf 3 = 1 := by kernel_rfl
theorem up_of {k n : Nat} (h : k < n) : ∃ m, n = m + 1 := ⟨n - 1, by omega⟩
theorem typesUp : ∃ m, Try.prog.types.size = m + 1 := up_of spotRow
set_option maxRecDepth 100000 in
theorem keyOf_spot {f i : Int} (hf : (Lit.int .i64 f).wf = true) (hi : (Lit.int .i64 i).wf = true) : keyOf Try.prog 92 (.agg #[.int .i64 f, .int .i64 i]) = some (spotK f i) := by
  obtain ⟨m, hm⟩ := typesUp
  unfold keyOf
  simp only [Try.underlying92]
  rw [if_pos (by simp [keyTypeSp, Value.formed, Try.underlying92, cellsSp]), hm]
  unfold Program.keyLits
  simp only [Try.underlying92, Value.cells]
  rw [if_pos (by simp [cellsSp])]
  simp [cellsIn, Program.keyLits, Try.underlying3, hf, hi, spotK]
theorem wf_nat {i : Nat} (h : i ≤ 1000000) : (Lit.int .i64 (i : Int)).wf = true := by
  simp only [Lit.wf, Bool.and_eq_true, decide_eq_true_eq]
  have e1 : IntKind.i64.min = -9223372036854775808 := by rfl
  have e2 : IntKind.i64.max = 9223372036854775807 := by rfl
  rw [e1, e2]
  omega
theorem keyOf_sp {i : Nat} (h : i ≤ 1000000) : keyOf Try.prog 92 (spotV i) = some (spotK 0 i) := keyOf_spot (by decide) (wf_nat h)
theorem spot_inj {i j : Nat} (hi : i ≤ 1000000) (hj : j ≤ 1000000) (h : spotK 0 i = spotK 0 j) : i = j := by
  have := keySp.inj (keyOf_sp hi) (h ▸ keyOf_sp hj)
  unfold spotV at this
  injection this with this
  have e : (#[Value.int .i64 0, Value.int .i64 (i : Int)] : Array Value)[1]? = (#[Value.int .i64 0, Value.int .i64 (j : Int)] : Array Value)[1]? := by rw [this]
  simp at e
  omega
theorem spot_eq {i : Nat} {z : Lit} (h : (spotK 0 i).sameKey z = true) : z = spotK 0 i := spot_same h
/-- The loose sectors of file 0: which there are, and what is fixed of them. -/
structure Olds (w : World) (n1 : Nat) (oo : DataW Value) (f : Nat → Option (List UInt8)) : Prop where
  is : Maps.IsMap oo
  no : ∀ i, i ≤ 1000000 → f i = none → Maps.has oo (spotK 0 i) = false ∧ oo.atKey (spotK 0 i) (.held (.slice none 0 0)) = .held (.slice none 0 0)
  yes : ∀ i l, f i = some l → i ≤ 1000000 ∧ ∃ v, Maps.has oo (spotK 0 i) = true ∧ oo.atKey (spotK 0 i) (.held (.slice none 0 0)) = .held v ∧ OwnF n1 w v l
  only : ∀ kl, Maps.has oo kl = true → ∃ i : Nat, (f i).isSome = true ∧ kl = spotK 0 i
theorem Olds.empty (w : World) (n1 : Nat) : Olds w n1 (.map []) (fun _ => none) :=
  ⟨isMap_empty, fun _ _ _ => ⟨rfl, rfl⟩, fun _ _ h => (by cases h), fun _ h => (by cases h)⟩
theorem Olds.grow {S : Nat → Prop} {w w' : World} {n1 : Nat} {oo : DataW Value} {f : Nat → Option (List UInt8)} (h : Olds w n1 oo f) (hg : Grow S w w') (hS : ∀ k, n1 ≤ k → ¬ S k) : Olds w' n1 oo f :=
  ⟨h.is, h.no, fun i l hl => by
    obtain ⟨hi, v, h1, h2, h3⟩ := h.yes i l hl
    exact ⟨hi, v, h1, h2, h3.grow hg (fun k hk => hS k (World.ownsRow.lt h3 k hk).1)⟩, h.only⟩
theorem Olds.same {w w' : World} {n1 : Nat} {oo : DataW Value} {f : Nat → Option (List UInt8)} (h : Olds w n1 oo f) (hg : Grow (fun _ => False) w w') : Olds w' n1 oo f := h.grow hg (fun _ _ e => e)
theorem spot_lit (i : Nat) : WideAt.IsKeyLit (spotK 0 i) := by unfold spotK; trivial
theorem Olds.key {w : World} {n1 : Nat} {oo : DataW Value} {f : Nat → Option (List UInt8)} (h : Olds w n1 oo f) {key : Value} {kl : Lit} (hk : keyOf Try.prog 92 key = some kl) (hh : Maps.has oo kl = true) : ∃ (i : Nat) (l : List UInt8), i ≤ 1000000 ∧ f i = some l ∧ key = spotV i := by
  obtain ⟨i, hi, rfl⟩ := h.only kl hh
  obtain ⟨l, hl⟩ := Option.isSome_iff_exists.1 hi
  have hb := (h.yes i l hl).1
  exact ⟨i, l, hb, hl, keySp.inj hk (keyOf_sp hb)⟩
/-- One sector more is loose. -/
theorem Olds.put {w : World} {n1 : Nat} {oo : DataW Value} {f : Nat → Option (List UInt8)} (h : Olds w n1 oo f) {i : Nat} (hi : i ≤ 1000000) {v : Value} {l : List UInt8} (hv : OwnF n1 w v l) : Olds w n1 (oo.put (spotK 0 i) (.held v)) (fun j => if j = i then some l else f j) := by
  refine ⟨h.is.put _ _, fun j hj hf => ?_, fun j m hf => ?_, fun kl hh => ?_⟩
  · by_cases e : j = i
    · rw [if_pos e] at hf; cases hf
    · rw [if_neg e] at hf
      have hne : spotK 0 j ≠ spotK 0 i := fun e' => e (spot_inj hj hi e')
      rw [has_put_other hne, atKey_put_other hne]
      exact h.no j hj hf
  · by_cases e : j = i
    · rw [if_pos e] at hf
      injection hf with hf
      subst e hf
      exact ⟨hi, v, has_put_same h.is (spot_lit _) _, atKey_put_same h.is (spot_lit _) _ _, hv⟩
    · rw [if_neg e] at hf
      obtain ⟨hj, u, h1, h2, h3⟩ := h.yes j m hf
      have hne : spotK 0 j ≠ spotK 0 i := fun e' => e (spot_inj hj hi e')
      exact ⟨hj, u, by rw [has_put_other hne]; exact h1, by rw [atKey_put_other hne]; exact h2, h3⟩
  · by_cases e : kl = spotK 0 i
    · exact ⟨i, by simp, e⟩
    · rw [has_put_other e] at hh
      obtain ⟨j, hj, rfl⟩ := h.only kl hh
      refine ⟨j, ?_, rfl⟩
      by_cases e' : j = i
      · rw [if_pos e']; rfl
      · rw [if_neg e']; exact hj
/-- A sector is loose no more. -/
theorem Olds.del {w : World} {n1 : Nat} {oo : DataW Value} {f : Nat → Option (List UInt8)} (h : Olds w n1 oo f) {i : Nat} (hi : i ≤ 1000000) : Olds w n1 (oo.del (spotK 0 i)) (fun j => if j = i then none else f j) := by
  refine ⟨h.is.del _, fun j hj hf => ?_, fun j m hf => ?_, fun kl hh => ?_⟩
  · by_cases e : j = i
    · subst e
      exact ⟨has_del_same, atKey_del_same _⟩
    · rw [if_neg e] at hf
      have hne : spotK 0 j ≠ spotK 0 i := fun e' => e (spot_inj hj hi e')
      rw [has_del_other hne, atKey_del_other hne]
      exact h.no j hj hf
  · by_cases e : j = i
    · rw [if_pos e] at hf; cases hf
    · rw [if_neg e] at hf
      obtain ⟨hj, u, h1, h2, h3⟩ := h.yes j m hf
      have hne : spotK 0 j ≠ spotK 0 i := fun e' => e (spot_inj hj hi e')
      exact ⟨hj, u, by rw [has_del_other hne]; exact h1, by rw [atKey_del_other hne]; exact h2, h3⟩
  · by_cases e : kl = spotK 0 i
    · subst e
      rw [has_del_same] at hh
      cases hh
    · rw [has_del_other e] at hh
      obtain ⟨j, hj, rfl⟩ := h.only kl hh
      refine ⟨j, ?_, rfl⟩
      by_cases e' : j = i
      · exact absurd (by rw [e']) e
      · rw [if_neg e']; exact hj
end Go.Proofs.Ytnmeehhjfcciiaa
