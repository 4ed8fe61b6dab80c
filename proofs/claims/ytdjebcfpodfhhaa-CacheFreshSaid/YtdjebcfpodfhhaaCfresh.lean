/-
  For every room and all keys the law CacheFresh returns true and leaves its arguments as they were: the keys that were put last, as many as there is room for, are there, the last one first.
  Conditions: those that the row prints; none of the proof's own.
-/
import Derived.Test.YtdjebcfpodfhhaaChF
import Derived.Test.YtdjebcfpodfhhaaChOp
import Derived.Deep.Fields
import Derived.ChangeSame
namespace Go.Proofs.Ytdjebcfpodfhhaa
open Go Go.RowKit Go.ChangeShapes Go.WideShapes Go.Deep

set_option maxRecDepth 100000
theorem cellsU8 : Try.prog.cellsOf 5 = 1 := by kernel_rfl
theorem wf_u8 {n : Int} (h : (Lit.int .u8 n).wf = true) : 0 ≤ n ∧ n ≤ 255 := by simpa [Lit.wf, IntKind.min, IntKind.max, IntKind.signed, IntKind.bits] using h
theorem list_of {α : Type} {p : Nat → α → Prop} : ∀ (n : Nat), (∀ i, i < n → ∃ x, p i x) → ∃ T : List α, T.length = n ∧ ∀ i (h : i < T.length), p i T[i]
  | 0, _ => ⟨[], rfl, fun i h => by simp at h⟩
  | n + 1, h => by
    obtain ⟨T, hl, hT⟩ := list_of n fun i hi => h i (by omega)
    obtain ⟨x, hx⟩ := h n (by omega)
    refine ⟨T ++ [x], by simp [hl], fun i hi => ?_⟩
    by_cases hin : i < T.length
    · rw [List.getElem_append_left hin]
      exact hT i hin
    · have : i = T.length := by simp at hi; omega
      subst this
      rw [List.getElem_append_right (Nat.le_refl _)]
      simp only [Nat.sub_self, List.getElem_cons_zero]
      rw [hl]
      exact hx
theorem open_by {H : Type} {enc : TypeId × Value → H} {W : World} {base : Nat} {sp : Nat → Bool} {held : Bool} {r : Reach} {b0 : Nat} {v : Value} {d : DataW H} {p : List MemPlace}
    (hv : Value.okWide Try.prog W r b0 58 v) (h : DataW.Trod enc Try.prog W base sp held 58 v d p) : ∃ l : List Int, ByA W v l := by
  obtain ⟨a, len, cap, rfl⟩ := okWide_slice Try.underlying58 hv
  obtain ⟨fuel, hf⟩ := h
  have hf' : DataW.trod enc Try.prog W base sp held fuel 58 [.slice a len cap] = some (d, p) := hf
  rcases open_slice Try.underlying58 hf' with ⟨e, -⟩ | ⟨a', len', cap', m, n, D, Pl, e, -, hle, hcap, hm, -, hi⟩
  · simp at e
    obtain ⟨rfl, rfl, rfl⟩ := e
    exact ⟨[], none, 0, rfl, Nat.zero_le _, .inl rfl, fun k hk => by cases hk⟩
  · simp at e
    obtain ⟨rfl, rfl, rfl⟩ := e
    have hlm : len ≤ m := by rw [hm]; split <;> omega
    have hx : ∀ i, i < len → ∃ c : Int, W.cell? (a'.add i) = some (.int .u8 c) ∧ 0 ≤ c ∧ c ≤ 255 := by
      intro i hil
      obtain ⟨cs', hc, ht⟩ := hi i (by omega)
      rw [cellsU8] at hc
      obtain ⟨_, hcl, hat⟩ := World.cells?_some hc
      match cs', hcl with
      | [c0], _ =>
        obtain ⟨k, hk, -, wk⟩ := DataW.trod_int Try.underlying5 ht
        simp at hk
        subst hk
        have h0 := hat 0 (by omega)
        have e0 : (a'.add (i * 1)).add 0 = a'.add i := by unfold Addr.add; simp
        rw [e0] at h0
        exact ⟨k, h0, (wf_u8 wk).1, (wf_u8 wk).2⟩
    obtain ⟨l, rfl, hl⟩ := list_of _ hx
    refine ⟨l, some a', cap, rfl, by omega, ?_, fun k hk => ?_⟩
    · by_cases hz : l = []
      · exact .inl hz
      · have h0 : 0 < l.length := List.length_pos_iff.2 hz
        have hc0 := (hl 0 h0).1
        obtain ⟨b, off, spot⟩ := a'
        obtain rfl : spot = none := by
          have := World.cell?_spot hc0
          simpa [Addr.add] using this
        refine .inr ⟨b, off, rfl, ?_, fun j k hj => ?_⟩
        · rw [addr_add] at hc0
          exact lt_of_cell hc0
        · obtain ⟨hjl, rfl⟩ := List.getElem?_eq_some_iff.1 hj
          have := (hl j hjl).1
          rwa [addr_add] at this
    · obtain ⟨i, hi', rfl⟩ := List.getElem_of_mem hk
      exact (hl i hi').2
theorem lfreshW (x : Nat) (v1 : Value) (l : List Int) (w : World) (hx : x ≤ 255) (hl : ByA w v1 l) :
    Calls Try.prog 5 #[.int .u8 (x : Int), v1] w fun e w' => e = .returned (.bool true) ∧ Below w.heap.size w w' := lfresh x hx v1 l w hl

open Go.ChangeShapes Go.WideShapes Go.ChangeAt
set_option maxRecDepth 100000 in
theorem lifted_cfresh (os : Os) (started : os.Started) (H : Type) (enc : TypeId × Value → H) :
    ReturnsInHanded {} Try.checked os 5 .any (Rows.cacheFreshSpec.pre6 enc Try.prog Try.f5 Rows.cacheFreshRow.domain false) (Rows.cacheFreshSpec.post enc Try.prog Try.f5 false true false false) := by
  refine returnsInHanded_of_change (C := Try.checked) own started (by kernel_rfl) Try.func5
    (ChangeSpec.witness6 (enc := enc) (C := Try.checked) false ⟨#[], #[.int .u8 0, .slice none 0 0], []⟩ 8 (by kernel_rfl) (by kernel_rfl) (by kernel_rfl) (by kernel_rfl)) ?_
  intro W base args ds gs before hval0 hW _ _
  have hval : ∀ (j : Nat) t v, Try.f5.params[j]? = some t → args[j]? = some v → Value.okWide Try.prog W .any base t v := hval0
  have hW' := hW
  obtain ⟨p, q, hA0, hV, rfl, hfz, hnd⟩ := hW
  have hA : DataW.TrodAll enc Try.prog W 0 (fun _ => true) true Try.f5.params.toList args.toList ds p := hA0
  rw [Try.params5] at hA hval
  obtain ⟨v0, vs0, d0, ds0, p0, q0, hargs, rfl, rfl, h0, r0⟩ := trodAll_cons hA
  obtain ⟨v1, vs1, d1, ds1, p1, q1, rfl, rfl, rfl, h1, r1⟩ := trodAll_cons r0
  obtain ⟨rfl, rfl, rfl⟩ := trodAll_nil r1
  obtain rfl : args = #[v0, v1] := by cases args; simp_all
  obtain ⟨rfl, rfl⟩ := trodVars_none hV
  have t0 := h0
  have lt0 : ∀ x ∈ p0, x.block < W.heap.size := by obtain ⟨m, hm⟩ := t0; exact DataW.trod_lt m _ _ _ hm
  have t1 := h1
  have lt1 : ∀ x ∈ p1, x.block < W.heap.size := by obtain ⟨m, hm⟩ := t1; exact DataW.trod_lt m _ _ _ hm
  obtain ⟨x0, e0, -, -, wf0⟩ := open_int Try.underlying5 (hval 0 5 v0 rfl rfl) h0
  subst e0
  obtain ⟨n0, rfl⟩ := Int.eq_ofNat_of_zero_le (wf_u8 wf0).1
  obtain ⟨l1, a1⟩ := open_by (hval 1 58 v1 rfl rfl) h1
  clear hA0 hval0
  refine (lfreshW n0 v1 l1 W (by have := (wf_u8 wf0).2; omega) a1).mono fun e W' ⟨he, bel⟩ => ?_
  subst he
  exact ⟨_, rfl, _, _, _, [], _, [], hW', trodAll_mk1 (shut_bool Try.underlying4 _), (trodAll_cons_mk (Below.trod laidOut (by kernel_rfl) (of_decide_eq_true (by kernel_rfl)) t0 bel lt0) (trodAll_cons_mk (Below.trod laidOut (by kernel_rfl) (of_decide_eq_true (by kernel_rfl)) t1 bel lt1) trodAll_mk0)), rfl, bel.frame _, fun h => by cases h⟩

theorem holds_cfresh : Rows.CacheFreshSaid :=
  OpenClaim.holds_of_wide 5 Try.f5 rfl rfl rfl rfl rfl rfl rfl ⟨rfl, rfl, rfl, rfl, rfl⟩ rfl rfl rfl rfl rfl (by kernel_rfl) Try.func5 (by kernel_rfl)
    (of_decide_eq_true (by kernel_rfl)) (by unfold Func.isWrapper; rw [if_neg (of_decide_eq_false (by kernel_rfl))]; exact ⟨rfl, rfl⟩)
    (fun os started H enc _ => lifted_cfresh os started H enc)
#print axioms holds_cfresh

end Go.Proofs.Ytdjebcfpodfhhaa
