/-
  The iterator of maps.Keys at any loose sectors of file 0: each key is one of them.
-/
import Derived.Test.YtnmeehhjfcciiaaDsH
namespace Go.Proofs.Ytnmeehhjfcciiaa
open Go Go.RowKit Go.Maps Go.WideMaps Go.Shelf

attribute [local go_sem] Oper.semAt_some

theorem ranges_cnt {P : Program} {k : TypeId} {w : World} {b r n : Nat} {D : DataW Value} {left : Lit → Bool} {cnt : Nat} (h : w.ranges P k heldE b r n D left cnt) : cnt ≤ n := by
  obtain ⟨es, clock, since, seen, c0, h1, h2, h3, h4, h5, h6, h7, h8⟩ := h
  rw [← h7]
  unfold leftOf
  exact Nat.le_trans (Array.size_filter_le) h3
/-- The loop's state. -/
structure KyG (oo : DataW Value) (sf : Nat → Option (List UInt8)) (J : List Nat → World → Prop) (w0 : World) (M r nn : Nat) (left : Lit → Bool) (cnt : Nat) (P : List Nat) (wr : World) : Prop where
  rg : wr.ranges Try.prog 92 heldE M r nn oo left cnt
  lft : ∀ z, left z = true → Maps.has oo z = true
  all : ∀ i ∈ P, (sf i).isSome = true
  len : P.length + cnt ≤ nn
  j : J P wr
  below : Below w0.heap.size w0 wr
  lt : r < wr.heap.size
set_option maxRecDepth 100000 in
set_option maxHeartbeats 2000000 in
theorem keys_gen (f : Nat) (hf : 2 ≤ f) (l Bs M nn n1 : Nat) (oo : DataW Value) (sf : Nat → Option (List UInt8)) (w0 W : World) (ho : Olds w0 n1 oo sf) (hb0 : Below w0.heap.size w0 W) (hm : MapAt w0 Try.prog 92 M nn oo) (hBs : W.cell? ⟨Bs, 0, none⟩ = some (.map (some M)))
    (J : List Nat → World → Prop) (hJ1 : ∀ P A B, J P A → Below A.heap.size A B → J P B) (hJ2 : ∀ P A B r, J P A → W.heap.size ≤ r → (∃ o, A.heap[r]? = some o ∧ o.isCells = false) → A.grownBy B (some r) → J P B)
    (hY : ∀ P i W1, J P W1 → (i ≤ 1000000 ∧ (sf i).isSome = true) → P.length < nn → Below w0.heap.size w0 W1 → W.heap.size ≤ W1.heap.size → YieldAt Fence.wide (f - 1) Try.prog l #[spotV i] W1 fun e W' => e = .returned (.bool true) ∧ J (P ++ [i]) W' ∧ Below w0.heap.size W1 W' ∧ Stays W.heap.size W1 W')
    (h0 : J [] W) :
    CallsIn Fence.wide f Try.prog 56 #[.func (.yield l) #[] #[], .pointer (some ⟨Bs, 0, none⟩)] W fun e W' => (∃ v, e = .returned v) ∧ ∃ P, ((∀ i ∈ P, (sf i).isSome = true) ∧ P.length ≤ nn) ∧ J P W' := by
  have HJ1 := Lib.hid hJ1
  have HO := Lib.hid ho
  have HJ2 := Lib.hid hJ2
  have HY := Lib.hid hY
  have HB0 := Lib.hid hb0
  have HM := Lib.hid hm
  have HMl := Lib.hid (show M < w0.heap.size from hm.lt)
  have HMW := Lib.hid (show MapAt W Try.prog 92 M nn oo from hm.below hb0 hm.lt)
  have h1 : 1 ≤ f := by omega
  have h2 : 1 ≤ f - 1 := by omega
  clear hJ1 hJ2 hY hb0 hm ho
  refine callsIn_of_wp Try.func56 rfl trivial ?_ rfl
  simp only [Try.ntmps56, List.size_toArray, List.length_cons, List.length_nil, Nat.reduceAdd, Nat.reduceSub, Array.replicate_succ, Array.replicate_zero, List.push_toArray, List.append_toArray, List.nil_append, List.cons_append]
  gi_wp2_with (gi_at_range; refine wpListIn_range_own _ rfl _ 60 rfl 92 22 keySp Try.underlying60 heldE M nn _ rfl HMW.out ?_; intro w1 hrg0 hg0 hs0)
  have HRg := Lib.hid hrg0
  have hb1 : Below W.heap.size W w1 := (Below.refl _ _).grown hg0 (Nat.le_refl _) (fun k e => by cases e)
  have HJ0 := Lib.hid (HJ1.out _ _ _ h0 hb1)
  have HBl := Lib.hid (HB0.out.trans (hb1.mono HB0.out.size))
  have HLt := Lib.hid (show W.heap.size < w1.heap.size by omega)
  clear hrg0 hg0 hs0 hb1 h0 hBs
  go_frame
  gi_loopw [6] (fun _ wr => ∃ (left : Lit → Bool) (cnt : Nat) (P : List Nat), Hid (KyG oo sf J w0 M W.heap.size nn left cnt P wr)) (fun _ wr => wr.rangeLeft M W.heap.size)
  case atStart => exact ⟨_, _, [], Lib.hid ⟨HRg.out, fun z h => h, fun i h => (by cases h), by have := ranges_cnt HRg.out; simpa using this, HJ0.out, HBl.out, HLt.out⟩⟩
  case round =>
    obtain ⟨left, cnt, P, hJ⟩ := hrel
    have hrg := Lib.hid hJ.out.rg
    gi_wp2_with (gi_at_next; refine wpListIn_next_ranges _ rfl _ rfl 92 keySp heldE (fun v : Value => v) (fun v : Value => v) (fun key kl _ => ⟨key, rfl⟩) (fun v y _ => ⟨v, rfl⟩) M W.heap.size nn _ _ _ rfl hrg.out ?_ ?_)
    · intro _ hl0
      have HE := Lib.hid (show (∀ i ∈ P, (sf i).isSome = true) ∧ P.length ≤ nn from ⟨hJ.out.all, by have := hJ.out.len; omega⟩)
      clear hl0
      gi_wp2
      go_end0
      exact ⟨⟨_, rfl⟩, P, HE.out, hJ.out.j⟩
    · intro kx c kl yd yp w1 cnt1 hkey hlk hv hat hrg1 hlt hg1 hs1 hen
      obtain ⟨i, l', hi0, hsf, hkv⟩ := HO.out.key hkey (hJ.out.lft _ hlk)
      have hi : i ≤ 1000000 ∧ (sf i).isSome = true := ⟨hi0, by rw [hsf]; rfl⟩
      have hPl : P.length < nn := by have := hJ.out.len; omega
      have hT : (∀ z, (left z && !z.sameKey kl) = true → Maps.has oo z = true) ∧ (∀ j ∈ P ++ [i], (sf j).isSome = true) ∧ (P ++ [i]).length + cnt1 ≤ nn := by
        refine ⟨fun z hz => hJ.out.lft z (by simp only [Bool.and_eq_true] at hz; exact hz.1), fun j hj => ?_, ?_⟩
        · rcases List.mem_append.1 hj with hj | hj
          · exact hJ.out.all j hj
          · rw [List.mem_singleton.1 hj]; exact hi.2
        · have := hJ.out.len
          rw [List.length_append, List.length_singleton]
          omega
      subst hkv
      clear hsf hi0
      have HJ3 := Lib.hid (HJ2.out _ _ _ _ hJ.out.j (Nat.le_refl _) (ranges_iter hJ.out.rg) hg1)
      have HT := Lib.hid hT
      have HPl := Lib.hid hPl
      have HRg1 := Lib.hid hrg1
      have HLt1 := Lib.hid hlt
      have HB1 := Lib.hid (show Below w0.heap.size w0 w1 from hJ.out.below.grown hg1 hJ.out.below.size (fun k e => by cases e; exact HB0.out.size))
      have HS1 := Lib.hid (show W.heap.size < w1.heap.size by have := hJ.out.lt; omega)
      clear hkey hlk hv hat hrg1 hlt hg1 hs1 hT hPl
      have HB2 := Lib.hid (HB1.out.trans ((below_new w1 (.cells #[.int .i64 0, .int .i64 (i : Int)] 92)).mono HB1.out.size))
      have HJ4 := Lib.hid (HJ1.out _ _ _ HJ3.out (below_new w1 (.cells #[.int .i64 0, .int .i64 (i : Int)] 92)))
      have HR4 := Lib.hid (HRg1.out.kept (World.grownBy_alloc w1 (.cells #[.int .i64 0, .int .i64 (i : Int)] 92) none) (by simp) (by simp))
      have HS4 := Lib.hid (show W.heap.size < (w1.alloc (.cells #[.int .i64 0, .int .i64 (i : Int)] 92)).heap.size by have := HS1.out; simp; omega)
      obtain ⟨fn, tmps, assign, body, hy, hR⟩ := HY.out P i _ HJ4.out hi HPl.out HB2.out (by have := HS4.out; omega)
      unfold spotV at hen hy ⊢
      gi_wp2_with fail
      refine hR.mono ?_
      rintro e W3 ⟨rfl, hJ5, hb5, hs5⟩
      have HEnd := Lib.hid (show KyG oo sf J w0 M W.heap.size nn (fun z => left z && !z.sameKey kl) cnt1 (P ++ [i]) W3 from
        ⟨ranges_same HR4.out (fun o ho => (hb5.block _ HMl.out).trans ho) (fun o ho hc => hs5 _ _ (Nat.le_refl _) ho hc), HT.out.1, HT.out.2.1, HT.out.2.2, hJ5, HB2.out.trans hb5, Nat.lt_of_lt_of_le HS4.out hb5.size⟩)
      clear hJ5 hb5 hs5 hen hy hR
      gi_wp2
      go_roundw
      case rel => exact ⟨_, cnt1, P ++ [i], HEnd⟩
      case measure => rw [HEnd.out.rg.left_eq, hrg.out.left_eq]; exact HLt1.out
end Go.Proofs.Ytnmeehhjfcciiaa
