/-
  For all bytes, places and losses the law DiskSectors returns true and leaves its arguments as they were: behind a loss of power each sector of a file is as it was fixed, or as it was written, up to the size.
  Conditions: those that the row prints; none of the proof's own.
-/
import Derived.Test.YtnmeehhjfcciiaaSecW
import Derived.Test.YtnmeehhjfcciiaaSecX
import Derived.Below
import Derived.ProofKit
import Derived.OpenShut
import Derived.ChangeOld
import Derived.Lib.SmallJoins
import Derived.Deep.Slices
import Derived.Deep.Fields
import Derived.ChangeSame
import Derived.WideShapes
namespace Go.Proofs.Ytnmeehhjfcciiaa
open Go Go.RowKit Go.ChangeShapes Go.WideShapes Go.Deep

set_option maxRecDepth 100000
theorem own : ownKnob Try.prog.godebug = none := by kernel_rfl
theorem laidOut : laidOutB Try.prog = true := by kernel_rfl
theorem cellsU8 : Try.prog.cellsOf 5 = 1 := by kernel_rfl
theorem cellsBool : Try.prog.cellsOf 4 = 1 := by kernel_rfl
theorem cellsLoss : Try.prog.cellsOf 26 = 3 := by kernel_rfl
theorem cellsInt : Try.prog.cellsOf 3 = 1 := by kernel_rfl
theorem cellsBs : Try.prog.cellsOf 24 = 1 := by kernel_rfl
theorem shape_lt {W : World} {r : Nat} {x : TypeId × Nat} (h : W.shape? r = some x) : r < W.heap.size := by
  unfold World.shape? at h
  cases hh : W.heap[r]? with
  | none => rw [hh] at h; cases h
  | some o => exact (Array.getElem?_eq_some_iff.1 hh).1
theorem listD_of {α : Type} {p : Nat → α → Prop} : ∀ (n : Nat), (∀ i, i < n → ∃ x, p i x) → ∃ T : List α, T.length = n ∧ ∀ i (h : i < T.length), p i T[i]
  | 0, _ => ⟨[], rfl, fun i h => by simp at h⟩
  | n + 1, h => by
    obtain ⟨T, hl, hT⟩ := listD_of n fun i hi => h i (by omega)
    obtain ⟨x, hx⟩ := h n (by omega)
    refine ⟨T ++ [x], by simp [hl], fun i hi => ?_⟩
    by_cases hin : i < T.length
    · rw [List.getElem_append_left hin]
      exact hT i hin
    · have : i = T.length := by simp at hi; omega
      subst this
      rw [List.getElem_append_right (Nat.le_refl _)]
      simp only [Nat.sub_self, List.getElem_cons_zero]
      rw [hl]
      exact hx
theorem u8D_cell {n : Int} (h : 0 ≤ n ∧ n ≤ 255) : (((UInt8.ofNat n.toNat).toNat : Nat) : Int) = n := by
  have : n.toNat < 256 := by omega
  simp [UInt8.toNat_ofNat']
  omega
theorem open_bytd {H : Type} {enc : TypeId × Value → H} {W : World} {base : Nat} {sp : Nat → Bool} {held : Bool} {r : Reach} {b0 : Nat} {v : Value} {d : DataW H} {p : List MemPlace}
    (hv : Value.okWide Try.prog W r b0 22 v) (h : DataW.Trod enc Try.prog W base sp held 22 v d p) : ∃ l : List UInt8, ArgD W.heap.size W v l := by
  obtain ⟨a, len, cap, rfl⟩ := okWide_slice Try.underlying22 hv
  obtain ⟨fuel, hf⟩ := h
  have hf' : DataW.trod enc Try.prog W base sp held fuel 22 [.slice a len cap] = some (d, p) := hf
  rcases open_slice Try.underlying22 hf' with ⟨e, -⟩ | ⟨a', len', cap', m, n, D, Pl, e, -, hle, hcap, hm, -, hi⟩
  · simp at e
    obtain ⟨rfl, rfl, rfl⟩ := e
    exact ⟨[], .inl ⟨rfl, rfl⟩⟩
  · simp at e
    obtain ⟨rfl, rfl, rfl⟩ := e
    have hok : len ≤ cap ∧ (cap : Int) ≤ IntKind.i64.max ∧ W.has Try.prog r b0 a' 5 cap := by
      simpa [Value.okWide, Try.underlying22, Cell.okWide, Cell.ok] using hv
    obtain ⟨-, -, -, hsp, row, cells, hsh, -⟩ := hok
    obtain ⟨b, off, spt⟩ := a'
    simp only at hsp hsh
    subst hsp
    have hlm : len ≤ m := by rw [hm]; split <;> omega
    have add_is : ∀ i : Nat, (⟨b, off, none⟩ : Addr).add i = ⟨b, off + i, none⟩ := fun i => by unfold Addr.add; split <;> simp_all
    have hx : ∀ i, i < len → ∃ c : UInt8, W.cell? ⟨b, off + i, none⟩ = some (.int .u8 (c.toNat : Int)) := by
      intro i hil
      obtain ⟨cs', hc, ht⟩ := hi i (by omega)
      rw [cellsU8] at hc
      obtain ⟨_, hcl, hat⟩ := World.cells?_some hc
      match cs', hcl with
      | [c0], _ =>
        obtain ⟨k, hk, -, wk⟩ := DataW.trod_int Try.underlying5 ht
        simp at hk
        subst hk
        have h0 := hat 0 (by omega)
        rw [Nat.mul_one, add_is] at h0
        have e0 : (⟨b, off + i, none⟩ : Addr).add 0 = ⟨b, off + i, none⟩ := rfl
        rw [e0] at h0
        have wk' : 0 ≤ k ∧ k ≤ 255 := by simpa [Lit.wf, IntKind.min, IntKind.max, IntKind.signed, IntKind.bits] using wk
        refine ⟨UInt8.ofNat k.toNat, ?_⟩
        rw [u8D_cell wk']
        exact h0
    obtain ⟨l, rfl, hl⟩ := listD_of _ hx
    refine ⟨l, .inr ⟨b, off, cap, rfl, shape_lt hsh, ⟨hle, by unfold maxLen at hcap; omega⟩, hl⟩⟩
theorem open_bools {H : Type} {enc : TypeId × Value → H} {W : World} {base : Nat} {sp : Nat → Bool} {held : Bool} {fuel : Nat} {c : Value} {x : DataW H × List MemPlace}
    (h : DataW.trod enc Try.prog W base sp held fuel 24 [c] = some x) : RdT W c := by
  rcases open_slice Try.underlying24 h with ⟨e, -⟩ | ⟨a, len, cap, m, n, D, Pl, e, -, hle, hcap, hm, -, hi⟩
  · simp at e
    exact .inl ⟨none, 0, e⟩
  · simp at e
    subst e
    by_cases h0 : len = 0
    · subst h0
      exact .inl ⟨_, _, rfl⟩
    have hlm : len ≤ m := by rw [hm]; split <;> omega
    have hx : ∀ i, i < len → ∃ t : Bool, W.cell? (a.add i) = some (.bool t) := by
      intro i hil
      obtain ⟨cs', hc, ht⟩ := hi i (by omega)
      rw [cellsBool] at hc
      obtain ⟨_, hcl, hat⟩ := World.cells?_some hc
      match cs', hcl with
      | [c0], _ =>
        obtain ⟨t, hk, -⟩ := DataW.trod_bool Try.underlying4 ht
        simp at hk
        subst hk
        have h0 := hat 0 (by omega)
        rw [Nat.mul_one] at h0
        have e0 : (a.add i).add 0 = a.add i := rfl
        rw [e0] at h0
        exact ⟨t, h0⟩
    obtain ⟨b, off, spt⟩ := a
    obtain ⟨t0, ht0⟩ := hx 0 (by omega)
    have e00 : (⟨b, off, spt⟩ : Addr).add 0 = ⟨b, off, spt⟩ := rfl
    rw [e00] at ht0
    have hb := World.block_lt_of_cell? W _ ht0
    have hsp : spt = none := by
      unfold World.cell? at ht0
      cases spt with
      | none => rfl
      | some s =>
        simp only [Option.isSome_some, if_true] at ht0
        split at ht0 <;> cases ht0
    subst hsp
    have add_is : ∀ i : Nat, (⟨b, off, none⟩ : Addr).add i = ⟨b, off + i, none⟩ := fun i => by unfold Addr.add; split <;> simp_all
    refine .inr ⟨b, off, len, cap, rfl, by unfold maxLen at hcap; omega, hb, fun j hj => ?_⟩
    obtain ⟨t, ht⟩ := hx j hj
    rw [add_is] at ht
    exact ⟨t, ht⟩
theorem array3D {α : Type} {cs : Array α} (h : cs.size = 3) : ∃ c0 c1 c2, cs = #[c0, c1, c2] := by
  obtain ⟨l⟩ := cs
  match l, h with
  | [c0, c1, c2], _ => exact ⟨c0, c1, c2, rfl⟩
theorem open_loss {H : Type} {enc : TypeId × Value → H} {W : World} {base : Nat} {sp : Nat → Bool} {held : Bool} {r : Reach} {b0 : Nat} {v : Value} {d : DataW H} {p : List MemPlace}
    (hv : Value.okWide Try.prog W r b0 26 v) (h : DataW.Trod enc Try.prog W base sp held 26 v d p) :
    ∃ (x : Int) (vk vs : Value), v = .agg #[.int .i64 x, vk, vs] ∧ RdT W vk ∧ RdT W vs := by
  obtain ⟨cs, rfl, hsz⟩ := okWide_struct Try.underlying26 hv
  obtain ⟨c0, c1, c2, rfl⟩ := array3D (hsz.trans cellsLoss)
  obtain ⟨fuel, hf⟩ := h
  obtain ⟨xs, n, -, -, -, hlen, hfs⟩ := DataW.trod_struct Try.underlying26 hf
  have h0 : DataW.trod enc Try.prog W base sp held n 3 [c0] = xs[0]? := by simpa [cellsInt, Value.cells] using hfs 0 _ rfl
  have h1 : DataW.trod enc Try.prog W base sp held n 24 [c1] = xs[1]? := by simpa [cellsBs, Value.cells] using hfs 1 _ rfl
  have h2 : DataW.trod enc Try.prog W base sp held n 24 [c2] = xs[2]? := by simpa [cellsBs, Value.cells] using hfs 2 _ rfl
  match xs, hlen with
  | [y0, y1, y2], _ =>
    obtain ⟨k, e0, -, -⟩ := DataW.trod_int Try.underlying3 h0
    injection e0 with e0
    subst e0
    exact ⟨k, c1, c2, rfl, open_bools h1, open_bools h2⟩
theorem lsectors (v0 : Value) (l0 : List UInt8) (x1 : Int) (v2 : Value) (l2 : List UInt8) (x3 : Int) (vk vs : Value) (w : World) (a0 : ArgD w.heap.size w v0 l0) (_h1 : -9223372036854775808 ≤ x1 ∧ x1 ≤ 9223372036854775807) (a2 : ArgD w.heap.size w v2 l2) (hk : RdT w vk) (hs : RdT w vs) :
    Calls Try.prog 4 #[v0, .int .i64 x1, v2, .agg #[.int .i64 x3, vk, vs]] w fun e w' => e = .returned (.bool true) ∧ Below w.heap.size w w' := by
  by_cases h0 : 400 < l0.length
  · by_cases h2 : 400 < l2.length
    · exact lsec_ll a0 a2 hk hs h0 h2
    · exact lsec_ls a0 a2 hk hs h0 (by omega)
  · by_cases h2 : 400 < l2.length
    · exact lsec_sl a0 a2 hk hs (by omega) h2
    · exact lsec_ss a0 a2 hk hs (by omega) (by omega)
theorem wf_intD {n : Int} (h : (Lit.int .i64 n).wf = true) : -9223372036854775808 ≤ n ∧ n ≤ 9223372036854775807 := by
  have h' : IntKind.i64.min ≤ n ∧ n ≤ 9223372036854775807 := by simpa [Lit.wf] using h
  exact h'

open Go.ChangeShapes Go.WideShapes Go.ChangeAt
set_option maxRecDepth 100000 in
theorem lifted_dsectors (os : Os) (started : os.Started) (H : Type) (enc : TypeId × Value → H) :
    ReturnsInHanded {} Try.checked os 4 .any (Rows.diskSectorsSpec.pre6 enc Try.prog Try.f4 Rows.diskSectorsRow.domain false) (Rows.diskSectorsSpec.post enc Try.prog Try.f4 false true false false) := by
  refine returnsInHanded_of_change (C := Try.checked) own started (by kernel_rfl) Try.func4
    (ChangeSpec.witness6 (enc := enc) (C := Try.checked) false ⟨#[], #[.slice none 0 0, .int .i64 0, .slice none 0 0, .agg #[.int .i64 0, .slice none 0 0, .slice none 0 0]], []⟩ 8 (by kernel_rfl) (by kernel_rfl) (by kernel_rfl) (by kernel_rfl)) ?_
  intro W base args ds gs before hval0 hW _ _
  have hval : ∀ (j : Nat) t v, Try.f4.params[j]? = some t → args[j]? = some v → Value.okWide Try.prog W .any base t v := hval0
  have hW' := hW
  obtain ⟨p, q, hA0, hV, rfl, hfz, hnd⟩ := hW
  have hA : DataW.TrodAll enc Try.prog W 0 (fun _ => true) true Try.f4.params.toList args.toList ds p := hA0
  rw [Try.params4] at hA hval
  obtain ⟨v0, vs0, d0, ds0, p0, q0, hargs, rfl, rfl, h0, r0⟩ := trodAll_cons hA
  obtain ⟨v1, vs1, d1, ds1, p1, q1, rfl, rfl, rfl, h1, r1⟩ := trodAll_cons r0
  obtain ⟨v2, vs2, d2, ds2, p2, q2, rfl, rfl, rfl, h2, r2⟩ := trodAll_cons r1
  obtain ⟨v3, vs3, d3, ds3, p3, q3, rfl, rfl, rfl, h3, r3⟩ := trodAll_cons r2
  obtain ⟨rfl, rfl, rfl⟩ := trodAll_nil r3
  obtain rfl : args = #[v0, v1, v2, v3] := by cases args; simp_all
  obtain ⟨rfl, rfl⟩ := trodVars_none hV
  have t0 := h0
  have lt0 : ∀ x ∈ p0, x.block < W.heap.size := by obtain ⟨m, hm⟩ := t0; exact DataW.trod_lt m _ _ _ hm
  have t1 := h1
  have lt1 : ∀ x ∈ p1, x.block < W.heap.size := by obtain ⟨m, hm⟩ := t1; exact DataW.trod_lt m _ _ _ hm
  have t2 := h2
  have lt2 : ∀ x ∈ p2, x.block < W.heap.size := by obtain ⟨m, hm⟩ := t2; exact DataW.trod_lt m _ _ _ hm
  have t3 := h3
  have lt3 : ∀ x ∈ p3, x.block < W.heap.size := by obtain ⟨m, hm⟩ := t3; exact DataW.trod_lt m _ _ _ hm
  obtain ⟨l0, a0⟩ := open_bytd (hval 0 22 v0 rfl rfl) h0
  obtain ⟨x1, e1, -, -, wf1⟩ := open_int Try.underlying3 (hval 1 3 v1 rfl rfl) h1
  subst e1
  obtain ⟨l2, a2⟩ := open_bytd (hval 2 22 v2 rfl rfl) h2
  obtain ⟨x3, k3, s3, rfl, b3, c3⟩ := open_loss (hval 3 26 v3 rfl rfl) h3
  clear hA0 hval0
  refine (lsectors v0 l0 x1 v2 l2 x3 k3 s3 W a0 (wf_intD wf1) a2 b3 c3).mono fun e W' ⟨he, bel⟩ => ?_
  subst he
  exact ⟨_, rfl, _, _, _, [], _, [], hW', trodAll_mk1 (shut_bool Try.underlying4 _), (trodAll_cons_mk (Below.trod laidOut (by kernel_rfl) (of_decide_eq_true (by kernel_rfl)) t0 bel lt0) (trodAll_cons_mk (Below.trod laidOut (by kernel_rfl) (of_decide_eq_true (by kernel_rfl)) t1 bel lt1) (trodAll_cons_mk (Below.trod laidOut (by kernel_rfl) (of_decide_eq_true (by kernel_rfl)) t2 bel lt2) (trodAll_cons_mk (Below.trod laidOut (by kernel_rfl) (of_decide_eq_true (by kernel_rfl)) t3 bel lt3) trodAll_mk0)))), rfl, bel.frame _, fun h => by cases h⟩

theorem holds_dsectors : Rows.DiskSectorsSaid :=
  OpenClaim.holds_of_wide 4 Try.f4 rfl rfl rfl rfl rfl rfl rfl ⟨rfl, rfl, rfl, rfl, rfl⟩ rfl rfl rfl rfl rfl (by kernel_rfl) Try.func4 (by kernel_rfl)
    (of_decide_eq_true (by kernel_rfl)) (by unfold Func.isWrapper; rw [if_neg (of_decide_eq_false (by kernel_rfl))]; exact ⟨rfl, rfl⟩)
    (fun os started H enc _ => lifted_dsectors os started H enc)
#print axioms holds_dsectors

end Go.Proofs.Ytnmeehhjfcciiaa
