/-
  The iterator of maps.Keys at the two loose sectors: which keys it hands on.
-/
import Derived.Test.YtnmeehhjfcciiaaDkX
import Derived.RangeFuncBox
import Derived.RangeFuncLeaves
import Derived.RangeFuncCalls
import Derived.Shelf.Abstract
import Derived.OwnWalkIn
import Derived.TacticsInMore
import Derived.LoopNIn
import Derived.LoopIn
import Derived.Sort.MapsRangeIn
namespace Go.Proofs.Ytnmeehhjfcciiaa
open Go Go.RowKit Go.Maps Go.WideMaps Go.Shelf

attribute [local go_sem] Oper.semAt_some

theorem ol2 : OL 2 = .map [(spotK 0 0, .held (.slice none 0 0)), (spotK 0 1, .held (.slice none 0 0))] := by kernel_rfl
theorem ol2_has (z : Lit) : Maps.has (OL 2) z = ((spotK 0 0).sameKey z || (spotK 0 1).sameKey z) := by
  rw [ol2]
  simp [Maps.has]
theorem spot_same {i : Int} {z : Lit} (h : (spotK 0 i).sameKey z = true) : z = spotK 0 i := by
  cases z with
  | string b =>
    have h' : (keyBytes [.int .i64 0, .int .i64 i] == b) = true := h
    rw [beq_iff_eq] at h'
    unfold spotK
    rw [h']
  | _ => cases h
theorem spot_self (i : Int) : (spotK 0 i).sameKey (spotK 0 i) = true := by
  show (keyBytes [.int .i64 0, .int .i64 i] == keyBytes [.int .i64 0, .int .i64 i]) = true
  simp
theorem spot_apart' : (spotK 0 1).sameKey (spotK 0 0) = false := by kernel_rfl
/-- Which of the two sectors have come. -/
def TwoR (left : Lit → Bool) (P : List Nat) : Prop :=
  (P = [] ∧ left = Maps.has (OL 2)) ∨ (∃ i, i < 2 ∧ P = [i] ∧ ∀ z, left z = (Maps.has (OL 2) z && !z.sameKey (spotK 0 i))) ∨ ((P = [0, 1] ∨ P = [1, 0]) ∧ ∀ z, left z = false)
theorem two_end {left : Lit → Bool} {P : List Nat} (h : TwoR left P) (h0 : ∀ z, left z = false) : P = [0, 1] ∨ P = [1, 0] := by
  rcases h with ⟨-, h⟩ | ⟨i, hi, -, h⟩ | ⟨h, -⟩
  · have := h0 (spotK 0 0)
    rw [h, ol2_has, spot_self] at this
    cases this
  · rcases i with _ | _ | i
    · have := h0 (spotK 0 1)
      rw [h, ol2_has, spot_self] at this
      have e : (spotK 0 1).sameKey (spotK 0 ((0 : Nat) : Int)) = false := spot_apart'
      rw [e] at this
      simp at this
    · have := h0 (spotK 0 0)
      rw [h, ol2_has, spot_self] at this
      have e : (spotK 0 0).sameKey (spotK 0 ((0 + 1 : Nat) : Int)) = false := spot_apart
      rw [e] at this
      simp at this
    · omega
  · exact h
theorem two_step {left : Lit → Bool} {P : List Nat} {kl : Lit} (h : TwoR left P) (hl : left kl = true) : ∃ i : Nat, i < 2 ∧ kl = spotK 0 i ∧ P.length < 2 ∧ TwoR (fun z => left z && !z.sameKey kl) (P ++ [i]) := by
  have hk : ∀ z : Lit, Maps.has (OL 2) z = true → ∃ i : Nat, i < 2 ∧ z = spotK 0 i := by
    intro z hz
    rw [ol2_has] at hz
    cases h1 : (spotK 0 0).sameKey z with
    | true => exact ⟨0, by omega, spot_same h1⟩
    | false =>
      rw [h1] at hz
      exact ⟨1, by omega, spot_same hz⟩
  rcases h with ⟨rfl, rfl⟩ | ⟨j, hj, rfl, h⟩ | ⟨-, h⟩
  · obtain ⟨i, hi, rfl⟩ := hk kl hl
    exact ⟨i, hi, rfl, by simp, .inr (.inl ⟨i, hi, rfl, fun z => rfl⟩)⟩
  · rw [h] at hl
    have hl1 : Maps.has (OL 2) kl = true := by cases e : Maps.has (OL 2) kl with | true => rfl | false => rw [e] at hl; cases hl
    rw [hl1, Bool.true_and] at hl
    obtain ⟨i, hi, rfl⟩ := hk kl hl1
    refine ⟨i, hi, rfl, by simp, .inr (.inr ⟨?_, fun z => ?_⟩)⟩
    · have hne : i ≠ j := by
        rintro rfl
        rw [spot_self] at hl
        cases hl
      rcases i with _ | _ | i <;> rcases j with _ | _ | j <;> first | omega | simp
    · have hne : i ≠ j := by
        rintro rfl
        rw [spot_self] at hl
        cases hl
      show (left z && !z.sameKey (spotK 0 i)) = false
      rw [h]
      cases hz : Maps.has (OL 2) z with
      | false => rfl
      | true =>
        obtain ⟨k, hk2, rfl⟩ := hk z hz
        by_cases e : k = j
        · rw [e, spot_self]; rfl
        · have e' : k = i := by omega
          rw [e', spot_self]
          simp
  · rw [h] at hl
    cases hl
theorem ranges_same {P : Program} {k : TypeId} {w w' : World} {b r n : Nat} {D : DataW Value} {left : Lit → Bool} {cnt : Nat} (h : w.ranges P k heldE b r n D left cnt) (hb : ∀ o, w.heap[b]? = some o → w'.heap[b]? = some o) (hr : ∀ o, w.heap[r]? = some o → o.isCells = false → w'.heap[r]? = some o) : w'.ranges P k heldE b r n D left cnt := by
  obtain ⟨es, clock, since, seen, c0, h1, h2, h3, h4, h5, h6⟩ := h
  exact ⟨es, clock, since, seen, c0, hb _ h1, h2, h3, h4, hr _ h5 rfl, h6⟩
theorem ranges_iter {P : Program} {k : TypeId} {w : World} {b r n : Nat} {D : DataW Value} {left : Lit → Bool} {cnt : Nat} (h : w.ranges P k heldE b r n D left cnt) : ∃ o, w.heap[r]? = some o ∧ o.isCells = false := by
  obtain ⟨es, clock, since, seen, c0, h1, h2, h3, h4, h5, h6⟩ := h
  exact ⟨_, h5, rfl⟩
theorem below_new (W : World) (o : Obj) : Below W.heap.size W (W.alloc o) := (Below.refl _ _).alloc (Nat.le_refl _) _
/-- A sector's number as a value. -/
def spotV (i : Nat) : Value := .agg #[.int .i64 0, .int .i64 (i : Int)]
theorem spot_val {key : Value} {i : Nat} (hi : i < 2) (h : keyOf Try.prog 92 key = some (spotK 0 i)) : key = spotV i := keySp.inj h (keyOf_spotk i hi)
/-- What the blocks behind n are that are no cells: they stay. -/
def Stays (n : Nat) (W W' : World) : Prop := ∀ k o, n ≤ k → W.heap[k]? = some o → o.isCells = false → W'.heap[k]? = some o
/-- The loop's state. -/
structure KyR (J : List Nat → World → Prop) (w0 : World) (M r nn : Nat) (left : Lit → Bool) (cnt : Nat) (P : List Nat) (wr : World) : Prop where
  rg : wr.ranges Try.prog 92 heldE M r nn (OL 2) left cnt
  two : TwoR left P
  j : J P wr
  below : Below w0.heap.size w0 wr
  lt : r < wr.heap.size
set_option maxRecDepth 100000 in
set_option maxHeartbeats 2000000 in
theorem keys_in (f : Nat) (hf : 2 ≤ f) (l Bs M nn : Nat) (w0 W : World) (hb0 : Below w0.heap.size w0 W) (hm : MapAt w0 Try.prog 92 M nn (OL 2)) (hBs : W.cell? ⟨Bs, 0, none⟩ = some (.map (some M)))
    (J : List Nat → World → Prop) (hJ1 : ∀ P A B, J P A → Below A.heap.size A B → J P B) (hJ2 : ∀ P A B r, J P A → W.heap.size ≤ r → (∃ o, A.heap[r]? = some o ∧ o.isCells = false) → A.grownBy B (some r) → J P B)
    (hY : ∀ P i W1, J P W1 → i < 2 → P.length < 2 → Below w0.heap.size w0 W1 → W.heap.size ≤ W1.heap.size → YieldAt Fence.wide (f - 1) Try.prog l #[spotV i] W1 fun e W' => e = .returned (.bool true) ∧ J (P ++ [i]) W' ∧ Below w0.heap.size W1 W' ∧ Stays W.heap.size W1 W')
    (h0 : J [] W) :
    CallsIn Fence.wide f Try.prog 56 #[.func (.yield l) #[] #[], .pointer (some ⟨Bs, 0, none⟩)] W fun e W' => (∃ v, e = .returned v) ∧ ∃ P, (P = [0, 1] ∨ P = [1, 0]) ∧ J P W' := by
  have HJ1 := Lib.hid hJ1
  have HJ2 := Lib.hid hJ2
  have HY := Lib.hid hY
  have HB0 := Lib.hid hb0
  have HM := Lib.hid hm
  have HMl := Lib.hid (show M < w0.heap.size from hm.lt)
  have HMW := Lib.hid (show MapAt W Try.prog 92 M nn (OL 2) from hm.below hb0 hm.lt)
  have h1 : 1 ≤ f := by omega
  have h2 : 1 ≤ f - 1 := by omega
  clear hJ1 hJ2 hY hb0 hm
  refine callsIn_of_wp Try.func56 rfl trivial ?_ rfl
  simp only [Try.ntmps56, List.size_toArray, List.length_cons, List.length_nil, Nat.reduceAdd, Nat.reduceSub, Array.replicate_succ, Array.replicate_zero, List.push_toArray, List.append_toArray, List.nil_append, List.cons_append]
  gi_wp2_with (gi_at_range; refine wpListIn_range_own _ rfl _ 60 rfl 92 22 keySp Try.underlying60 heldE M nn _ rfl HMW.out ?_; intro w1 hrg0 hg0 hs0)
  have HRg := Lib.hid hrg0
  have hb1 : Below W.heap.size W w1 := (Below.refl _ _).grown hg0 (Nat.le_refl _) (fun k e => by cases e)
  have HJ0 := Lib.hid (HJ1.out _ _ _ h0 hb1)
  have HBl := Lib.hid (HB0.out.trans (hb1.mono HB0.out.size))
  have HLt := Lib.hid (show W.heap.size < w1.heap.size by omega)
  clear hrg0 hg0 hs0 hb1 h0 hBs
  go_frame
  gi_loopw [6] (fun _ wr => ∃ (left : Lit → Bool) (cnt : Nat) (P : List Nat), Hid (KyR J w0 M W.heap.size nn left cnt P wr)) (fun _ wr => wr.rangeLeft M W.heap.size)
  case atStart => exact ⟨_, _, [], Lib.hid ⟨HRg.out, .inl ⟨rfl, rfl⟩, HJ0.out, HBl.out, HLt.out⟩⟩
  case round =>
    obtain ⟨left, cnt, P, hJ⟩ := hrel
    have hrg := Lib.hid hJ.out.rg
    gi_wp2_with (gi_at_next; refine wpListIn_next_ranges _ rfl _ rfl 92 keySp heldE (fun v : Value => v) (fun v : Value => v) (fun key kl _ => ⟨key, rfl⟩) (fun v y _ => ⟨v, rfl⟩) M W.heap.size nn _ _ _ rfl hrg.out ?_ ?_)
    · intro _ hl0
      have HE := Lib.hid (two_end hJ.out.two hl0)
      clear hl0
      gi_wp2
      go_end0
      exact ⟨⟨_, rfl⟩, P, HE.out, hJ.out.j⟩
    · intro kx c kl yd yp w1 cnt1 hkey hlk hv hat hrg1 hlt hg1 hs1 hen
      obtain ⟨i, hi, rfl, hPl, hT⟩ := two_step hJ.out.two hlk
      obtain rfl := spot_val hi hkey
      have HJ3 := Lib.hid (HJ2.out _ _ _ _ hJ.out.j (Nat.le_refl _) (ranges_iter hJ.out.rg) hg1)
      have HT := Lib.hid hT
      have HPl := Lib.hid hPl
      have HRg1 := Lib.hid hrg1
      have HLt1 := Lib.hid hlt
      have HB1 := Lib.hid (show Below w0.heap.size w0 w1 from hJ.out.below.grown hg1 hJ.out.below.size (fun k e => by cases e; exact HB0.out.size))
      have HS1 := Lib.hid (show W.heap.size < w1.heap.size by have := hJ.out.lt; omega)
      clear hkey hlk hv hat hrg1 hlt hg1 hs1 hT hPl
      have HB2 := Lib.hid (HB1.out.trans ((below_new w1 (.cells #[.int .i64 0, .int .i64 (i : Int)] 92)).mono HB1.out.size))
      have HJ4 := Lib.hid (HJ1.out _ _ _ HJ3.out (below_new w1 (.cells #[.int .i64 0, .int .i64 (i : Int)] 92)))
      have HR4 := Lib.hid (HRg1.out.kept (World.grownBy_alloc w1 (.cells #[.int .i64 0, .int .i64 (i : Int)] 92) none) (by simp) (by simp))
      have HS4 := Lib.hid (show W.heap.size < (w1.alloc (.cells #[.int .i64 0, .int .i64 (i : Int)] 92)).heap.size by have := HS1.out; simp; omega)
      obtain ⟨fn, tmps, assign, body, hy, hR⟩ := HY.out P i _ HJ4.out hi HPl.out HB2.out (by have := HS4.out; omega)
      unfold spotV at hen hy ⊢
      gi_wp2_with fail
      refine hR.mono ?_
      rintro e W3 ⟨rfl, hJ5, hb5, hs5⟩
      have HEnd := Lib.hid (show KyR J w0 M W.heap.size nn (fun z => left z && !z.sameKey (spotK 0 i)) cnt1 (P ++ [i]) W3 from
        ⟨ranges_same HR4.out (fun o ho => (hb5.block _ HMl.out).trans ho) (fun o ho hc => hs5 _ _ (Nat.le_refl _) ho hc), HT.out, hJ5, HB2.out.trans hb5, Nat.lt_of_lt_of_le HS4.out hb5.size⟩)
      clear hJ5 hb5 hs5 hen hy hR
      gi_wp2
      go_roundw
      case rel => exact ⟨_, cnt1, P ++ [i], HEnd⟩
      case measure => rw [HEnd.out.rg.left_eq, hrg.out.left_eq]; exact HLt1.out
end Go.Proofs.Ytnmeehhjfcciiaa
