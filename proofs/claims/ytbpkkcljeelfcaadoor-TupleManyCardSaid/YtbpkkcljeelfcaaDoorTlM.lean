/-
  For every byte the law TupleMany returns true: too many tuples are no relation.
  Conditions: those that the row and its tied card print (the library's listed variables hold what their initialisers laid; the size of memory that is read); none of the proof's own.
-/
import Derived.Test.YtbpkkcljeelfcaaDoorTlF
import Derived.Test.YtbpkkcljeelfcaaDoorTck1
import Derived.Test.YtbpkkcljeelfcaaDoorTie
import Derived.Test.YtbpkkcljeelfcaaDoorCards
import Derived.Deep.RegionHeld3
import Derived.Laws.OwnMore
namespace Go.Proofs.YtbpkkcljeelfcaaDoor
open Go Go.RowKit

theorem Tryd.infoTT : (Tryd.prog.info? 23).map (fun i => (i.zero, i.size, i.bytes)) = some (some (.slice none 0 0), 1, 24) := by kernel_rfl
theorem oneT_ok (n : Int) : OkT (oneT n) := ⟨by simp [oneT], fun x hx => by
  simp only [oneT, List.mem_singleton] at hx
  subst hx
  exact .inl ⟨rfl, by rw [Lib.toList_data]⟩⟩
theorem oneT_lt (n : Int) : cmpT (oneT n) (oneT (n + 1)) = -1 := by
  unfold oneT
  rw [cmpT_cons]
  have h : cmp3 ⟨1, n, ⟨#[]⟩⟩ ⟨1, n + 1, ⟨#[]⟩⟩ = -1 := (cmpV_lt _ _ _ _ _ _).2 (.inr ⟨rfl, .inl (by show n < n + 1; omega)⟩)
  rw [h]
  rfl
/-- A row of K slice values in block g, the first k of which read as the ints from 0 on. -/
def ManyTo (B g K k : Nat) (W : World) : Prop :=
  ∃ xs, W.ownsRow B 23 1 (.slice (some ⟨g, 0, none⟩) K K) K xs ∧ ∀ j : Nat, j < k → ∃ b, xs[j]? = some (.slice (some ⟨b, 0, none⟩) 1 1) ∧ b ≠ g ∧ TupIn W.heap.size W (.slice (some ⟨b, 0, none⟩) 1 1) (oneT j) ∧ b < W.heap.size
theorem many_own {B g K k : Nat} {W : World} (h : ManyTo B g K k W) : g < W.heap.size ∧ B ≤ g := by
  obtain ⟨xs, ho, -⟩ := h
  have := World.ownsRow.lt ho g rfl
  omega
theorem many_cell {B g K k : Nat} {W : World} (h : ManyTo B g K k W) {j : Nat} (hj : j < K) : (∃ u, W.cell? ⟨g, j, none⟩ = some u) ∧ W.frozen? ⟨g, j, none⟩ = false := by
  obtain ⟨xs, ho, -⟩ := h
  have hl : xs.length = K * 1 := ho.1
  refine ⟨⟨xs[j]'(by omega), ?_⟩, World.ownsRow.frozenAt ho j⟩
  rw [World.ownsRow.cellAt ho j (by omega), List.getElem?_eq_getElem (by omega)]
theorem many_at {B g K k : Nat} {W : World} (h : ManyTo B g K k W) (hk : k ≤ K) {j : Nat} (hj : j < k) : ∃ b, W.cell? ⟨g, j, none⟩ = some (.slice (some ⟨b, 0, none⟩) 1 1) ∧ TupIn W.heap.size W (.slice (some ⟨b, 0, none⟩) 1 1) (oneT j) := by
  obtain ⟨xs, ho, ha⟩ := h
  obtain ⟨b, hx, -, ht, -⟩ := ha j hj
  exact ⟨b, by rw [World.ownsRow.cellAt ho j (by omega)]; exact hx, ht⟩
theorem far_in {W : World} {g j b : Nat} {u : Value} {T : List V3} {c : Nat} (h : TupIn W.heap.size W (.slice (some ⟨b, 0, none⟩) T.length c) T) (hb : b ≠ g) : TupIn (W.setCell ⟨g, j, none⟩ u).heap.size (W.setCell ⟨g, j, none⟩ u) (.slice (some ⟨b, 0, none⟩) T.length c) T := by
  obtain ⟨p, cap, e, hl, h⟩ := h
  injection e with e1 _ e3
  subst e1 e3
  refine ⟨_, _, rfl, hl, ?_⟩
  rcases h with h | ⟨b', off, e, hlt, hc⟩
  · exact .inl h
  · injection e with e
    injection e with e1 e2
    subst e1 e2
    have far : ∀ i, (W.setCell ⟨g, j, none⟩ u).cell? ⟨b, i, none⟩ = W.cell? ⟨b, i, none⟩ := fun i => World.cell?_setCell_other W _ _ u (fun e => hb (by injection e with e1; exact e1.symm))
    exact .inr ⟨b, 0, rfl, by simpa using hlt, fun i hi => ⟨(far _).trans (hc i hi).1, (far _).trans (hc i hi).2.1, (far _).trans (hc i hi).2.2⟩⟩
/-- One round of the law's loop. -/
theorem many_step {B g K k : Nat} {W : World} (h : ManyTo B g K k W) (hk : k < K) :
    ManyTo B g K (k + 1) ((W.alloc (.cells #[.int .i64 1, .int .i64 k, .string ⟨#[]⟩] 45)).setCell ⟨g, k, none⟩ (.slice (some ⟨W.heap.size, 0, none⟩) 1 1)) := by
  have hg := many_own h
  obtain ⟨xs, ho, ha⟩ := h
  have hl : xs.length = K * 1 := ho.1
  have ho1 := World.ownsRow.alloc ho (.cells #[.int .i64 1, .int .i64 k, .string ⟨#[]⟩] 45)
  refine ⟨_, (World.ownsRow.stored ho1 k (.slice (some ⟨W.heap.size, 0, none⟩) 1 1)).1, fun j hj => ?_⟩
  by_cases e : j = k
  · subst e
    have h1 := one_in (j : Int) W
    refine ⟨W.heap.size, by rw [List.getElem?_set_self (by omega)], by omega, ?_, by simp⟩
    exact far_in (T := oneT j) (h1.mono (by simp)) (by omega)
  · obtain ⟨b, hx, hbg, ht, hb⟩ := ha j (by omega)
    refine ⟨b, by rw [List.getElem?_set_ne (by omega)]; exact hx, hbg, ?_, by simp; omega⟩
    exact far_in (T := oneT j) ((ht.below ((Below.refl _ _).alloc (Nat.le_refl _) _)).mono (by simp)) hbg

set_option maxHeartbeats 1000000 in
set_option maxRecDepth 100000 in
theorem crel_many (B g K : Nat) (w : World) (h : ManyTo B g K K w) (hK : K ≤ 100000) :
    Calls Tryd.prog 17 #[.slice (some ⟨g, 0, none⟩) K K] w fun e w' => e = .returned (.int .i64 (if K ≤ 65536 then 0 else 3)) ∧ Below w.heap.size w w' := by
  have HM := Lib.hid h
  have hgw : g < w.heap.size := (many_own h).1
  have hK' : (K : Int) ≤ 100000 := by omega
  have hK0 : (0 : Int) ≤ (K : Int) := by omega
  clear h
  by_cases h6 : K ≤ 65536
  case neg =>
    have h6' : (65536 : Int) < (K : Int) := by omega
    rw [if_neg h6]
    go_enter Tryd.func17, Tryd.ntmps17
    go_wp2_with fail
    go_ret
    exact ⟨rfl, Below.refl _ _⟩
  have h6' : (K : Int) ≤ 65536 := by omega
  rw [if_pos h6]
  clear h6
  go_enter Tryd.func17, Tryd.ntmps17
  go_wp2_with fail
  go_loopw [4, 5, 12] (fun _ _ i wr => ∃ k : Nat, k ≤ K ∧ i = .int .i64 k ∧ Hid (Below w.heap.size w wr)) (fun _ _ i _ => K - (intOf i).toNat)
  case atStart => exact ⟨0, Nat.zero_le _, rfl, Lib.hid (Below.refl _ _)⟩
  case round =>
    obtain ⟨k, hk, rfl, hB⟩ := hrel
    have h0 : (0 : Int) ≤ (k : Int) := by omega
    by_cases hlt : k < K
    · have hlt' : (k : Int) < (K : Int) := by omega
      obtain ⟨b, hc, ht⟩ := many_at HM.out (Nat.le_refl _) hlt
      have c0 := (hB.out.cell (p := ⟨g, k, none⟩) hgw).trans hc
      have HT := Lib.hid (ht.below hB.out)
      clear hc ht
      go_wp2_with fail
      refine (tcheck_any _ (oneT k) _ wr HT.out hB.out.size).mono ?_
      rintro e w2 ⟨⟨-, rfl⟩ | ⟨no, -⟩, hb2⟩
      case inr => exact absurd (oneT_ok _) no
      have HB2 := Lib.hid (hB.out.trans (hb2.mono hB.out.size))
      clear hb2
      go_wp2_with fail
      go_roundw
      case rel => exact ⟨k + 1, by omega, by go_num, HB2⟩
      case measure => simp [intOf]; omega
    · have hge : (K : Int) ≤ (k : Int) := by omega
      obtain ⟨wo, hwo⟩ : ∃ wo : World, wo = wr := ⟨_, rfl⟩
      subst hwo
      go_wp2_with fail
      go_loopw [6] (fun i wr => ∃ m : Nat, i = .int .i64 ((m : Int) + 1) ∧ Hid (Below w.heap.size w wr)) (fun i _ => K - (intOf i).toNat)
      case atStart => exact ⟨0, rfl, hB⟩
      case round =>
        obtain ⟨m, rfl, hB2⟩ := hrel
        have h0m : (0 : Int) ≤ (m : Int) := by omega
        by_cases hltm : m + 1 < K
        · have hm1 : (m : Int) + 1 < (K : Int) := by omega
          have hm0 : (m : Int) < (K : Int) := by omega
          obtain ⟨b0, hc0, ht0⟩ := many_at HM.out (Nat.le_refl _) (show m < K by omega)
          obtain ⟨b1, hc1, ht1⟩ := many_at HM.out (Nat.le_refl _) hltm
          have c0 : wr.drew.cell? ⟨g, m, none⟩ = some (.slice (some ⟨b0, 0, none⟩) 1 1) := (hB2.out.cell (p := ⟨g, m, none⟩) hgw).trans hc0
          have c1 : wr.drew.cell? ⟨g, m + 1, none⟩ = some (.slice (some ⟨b1, 0, none⟩) 1 1) := (hB2.out.cell (p := ⟨g, m + 1, none⟩) hgw).trans hc1
          have HD := Lib.hid hB2.out.drew
          have HT0 := Lib.hid (ht0.below HD.out)
          have HT1 := Lib.hid (ht1.below HD.out)
          have HC0 := Lib.hid hc0
          have HC1 := Lib.hid hc1
          have HL : Hid (cmpT (oneT m) (oneT ((m + 1 : Nat) : Int)) = -1) := Lib.hid (by have := oneT_lt m; simpa using this)
          have hw1 : IntKind.i64.wrap ((m : Int) + 1 - 1) = (m : Int) := by rw [show (m : Int) + 1 - 1 = (m : Int) by omega]; exact IntWalk.i64_in _ (by omega)
          have hw2 : IntKind.i64.wrap (m : Int) = (m : Int) := IntWalk.i64_in _ (by omega)
          have p1 : (0 : Int) ≤ (m : Int) + 1 := by omega
          have t1 : ((m : Int) + 1).toNat = m + 1 := by omega
          clear hc0 hc1 ht0 ht1
          go_wp2_with fail
          go_region_held3 (fun W => W.cell? ⟨g, m, none⟩ = some (.slice (some ⟨b0, 0, none⟩) 1 1) ∧ W.cell? ⟨g, m + 1, none⟩ = some (.slice (some ⟨b1, 0, none⟩) 1 1))
            (first | exact ⟨c0, c1⟩ | exact ⟨d0, d1⟩)
            (first | (go_at_call 13; refine (tcompare_any _ _ (oneT m) (oneT ((m + 1 : Nat) : Int)) _ _ HT0.out HT1.out HD.out.size).mono ?_; rintro e w2 ⟨rfl, g2⟩; rw [HL.out]; have HB3 := Lib.hid (HD.out.trans (g2.below.mono HD.out.size)); have d0 := (HB3.out.cell (p := ⟨g, m, none⟩) hgw).trans HC0.out; have d1 := (HB3.out.cell (p := ⟨g, m + 1, none⟩) hgw).trans HC1.out; clear g2))
          go_wp2
          go_roundw
          case rel => exact ⟨m + 1, by go_num, HB3⟩
          case measure => simp [intOf]; omega
        · have hge2 : (K : Int) ≤ (m : Int) + 1 := by omega
          go_wp2_with fail
          go_ret
          exact ⟨rfl, hB2.out⟩

theorem many_start {B g K : Nat} {W : World} {xs : List Value} (h : W.ownsRow B 23 1 (.slice (some ⟨g, 0, none⟩) K K) K xs) : ManyTo B g K 0 W := ⟨xs, h, fun j hj => absurd hj (by omega)⟩
set_option maxHeartbeats 1000000 in
set_option maxRecDepth 100000 in
theorem lmany (n : Nat) (w : World) (hn : n ≤ 255) (G : Glob w) :
    Calls Tryd.prog 4 #[.int .u8 n] w fun e w' => e = .returned (.bool true) ∧ Below w.heap.size w w' := by
  obtain ⟨i0, hi, hz0, hz1, hz2⟩ := info_parts Tryd.infoTT
  have HI := Lib.hid hi
  have HZ := Lib.hid (And.intro hz0 (And.intro hz1 hz2))
  have HG := Lib.hid G
  clear hi hz0 hz1 hz2 G
  obtain ⟨K, hK⟩ : ∃ K : Nat, K = 65436 + n := ⟨_, rfl⟩
  have HKN := Lib.hid hK
  have hK2 : K ≤ 100000 := by omega
  have n0 : (0 : Int) ≤ (n : Int) := by omega
  have n1 : (n : Int) ≤ 255 := by omega
  have K0 : (0 : Int) ≤ (K : Int) := by omega
  have K1 : (K : Int) ≤ 100000 := by omega
  have hkk : (65436 : Int) + (n : Int) = (K : Int) := by omega
  clear hK
  go_enter Tryd.func4, Tryd.ntmps4
  go_wp2_with fail
  refine (awake_true w HG.out).mono ?_
  rintro e w1 ⟨rfl, b1⟩
  have B1 := Lib.hid b1
  clear b1
  go_wp2_with (at_make; refine wpList_make_full _ rfl (.tmp 12) (.tmp 12) 32 rfl w1.heap.size 23 i0 (.slice none 0 0) 1 Tryd.underlying32 HI.out HZ.out.1 HZ.out.2.1 .i64 .i64 (K : Int) (K : Int) K rfl rfl rfl rfl (by rw [HZ.out.2.2]; omega) (by unfold maxLen; omega) (Nat.le_refl _) ?_; intro w2 ho hg; have M2 := Lib.hid (many_start ho); have B2 := Lib.hid (B1.out.grown hg B1.out.size (fun k hk => by cases hk)); clear ho hg)
  clear hkk
  obtain ⟨g, hg⟩ : ∃ g, g = w1.heap.size := ⟨_, rfl⟩
  have HGW : Hid (w.heap.size ≤ g) := Lib.hid (by rw [hg]; exact B1.out.size)
  rw [← hg] at M2
  rw [← hg]
  clear hg
  go_loopw [5] (fun i wr => ∃ k : Nat, k ≤ K ∧ i = .int .i64 k ∧ Hid (ManyTo g g K k wr ∧ Below w.heap.size w wr)) (fun i _ => K - (intOf i).toNat)
  case atStart => exact ⟨0, Nat.zero_le _, rfl, Lib.hid ⟨M2.out, B2.out⟩⟩
  case round =>
    obtain ⟨k, hk, rfl, H⟩ := hrel
    have h0 : (0 : Int) ≤ (k : Int) := by omega
    by_cases hlt : k < K
    · have hlt' : (k : Int) < (K : Int) := by omega
      obtain ⟨⟨u, hu⟩, hf⟩ := many_cell H.out.1 hlt
      have hgl := (many_own H.out.1).1
      have HCF : Hid (∀ o, (wr.alloc o).cell? ⟨g, k, none⟩ = some u ∧ (wr.alloc o).frozen? ⟨g, k, none⟩ = false) := Lib.hid fun o => ⟨(((Below.refl _ _).alloc (Nat.le_refl _) o).cell (p := ⟨g, k, none⟩) hgl).trans hu, (((Below.refl _ _).alloc (Nat.le_refl _) o).frozen (p := ⟨g, k, none⟩) hgl).trans hf⟩
      have HST := Lib.hid (by have h := many_step H.out.1 hlt; rw [World.setCell_alloc_past (hn := hgl)] at h; exact h)
      clear hu hf
      go_wp2_with (go_at_call 16; refine (one_any _ _).mono ?_; rintro e w' ⟨rfl, rfl⟩; obtain ⟨hc, hfz⟩ := HCF.out (.cells #[.int .i64 1, .int .i64 k, .string ⟨#[]⟩] 45))
      go_roundw
      case rel => exact ⟨k + 1, by omega, by go_num, Lib.hid ⟨HST.out, (H.out.2.setCell (p := ⟨g, k, none⟩) HGW.out _).alloc (by have := H.out.2.size; simpa using this) _⟩⟩
      case measure => simp [intOf]; omega
    · obtain rfl : k = K := by omega
      have hge : (k : Int) ≤ (k : Int) := by omega
      go_wp2_with fail
      refine (crel_many g g k wr H.out.1 hK2).mono ?_
      rintro e w3 ⟨rfl, b3⟩
      have B3 := Lib.hid (H.out.2.trans (b3.mono H.out.2.size))
      clear b3
      by_cases h6 : k ≤ 65536
      · have h6' : (k : Int) ≤ 65536 := by omega
        rw [if_pos h6]
        go_wp2_with fail
        go_ret
        exact ⟨by simp, B3.out⟩
      · have h6' : (65536 : Int) < (k : Int) := by omega
        rw [if_neg h6]
        go_wp2_with fail
        go_ret
        exact ⟨by simp; exact h6', B3.out⟩

open Go.ChangeShapes Go.WideShapes Go.ChangeAt
set_option maxRecDepth 100000 in
theorem lifted_lmany (os : Os) (started : os.Started) (H : Type) (enc : TypeId × Value → H) :
    ReturnsInHanded {} Tryd.checked os 4 .any (fun w args => (Rows.tupleManySpec.pre enc Tryd.prog Tryd.f4 [] false w args ∧ laidMetH Tryd.prog laid3 w) ∧ sizedMet enc Tryd.prog Tryd.f4 (OpenSpec.ofChange Rows.tupleManySpec) false w args)
      (Rows.tupleManySpec.post enc Tryd.prog Tryd.f4 false true false false) := by
  refine returnsInHanded_of_change_and (C := Tryd.checked) (X := fun w _ => laidMetH Tryd.prog laid3 w) (fun _ _ _ hh h => h.of_heap hh) own started (by kernel_rfl) Tryd.func4
    (ChangeSpec.witness_shaped (enc := enc) (C := Tryd.checked) (os := os) (X := fun w _ => laidMetH Tryd.prog laid3 w) false (World.doorLaid Tryd.prog 400 os) #[.int .u8 0] 8 rfl (World.shaped_of_RefB (by kernel_rfl) (by kernel_rfl)) (by kernel_rfl) (by kernel_rfl) (by kernel_rfl) (door_met os _)) ?_
  intro W base args ds gs before hval0 hW _ _ hL _
  have hval : ∀ (j : Nat) t v, Tryd.f4.params[j]? = some t → args[j]? = some v → Value.okWide Tryd.prog W .any base t v := hval0
  have hW' := hW
  obtain ⟨p, q, hA0, hV, rfl, hfz, hnd⟩ := hW
  have hA : DataW.TrodAll enc Tryd.prog W 0 (fun _ => true) true Tryd.f4.params.toList args.toList ds p := hA0
  rw [Tryd.params4] at hA hval
  obtain ⟨v0, vs0, d0, ds0, p0, q0, hargs, rfl, rfl, h0, r0⟩ := trodAll_cons hA
  obtain ⟨rfl, rfl, rfl⟩ := trodAll_nil r0
  obtain rfl : args = #[v0] := by cases args; simp_all
  obtain ⟨rfl, rfl⟩ := trodVars_none hV
  have t0 := h0
  have lt0 : ∀ x ∈ p0, x.block < W.heap.size := by obtain ⟨m, hm⟩ := t0; exact DataW.trod_lt m _ _ _ hm
  obtain ⟨x0v, rfl, -, -, wf0⟩ := open_int Tryd.underlying5 (hval 0 5 v0 rfl rfl) h0
  have wg0 : 0 ≤ x0v ∧ x0v ≤ 255 := by simpa [Lit.wf, IntKind.min, IntKind.max, IntKind.signed, IntKind.bits] using wf0
  obtain ⟨n0, rfl⟩ := Int.eq_ofNat_of_zero_le wg0.1
  clear hA0 hval0
  refine (lmany n0 W (by have := wg0.2; omega) (glob_of_laid hL)).mono fun e W' ⟨he, bel⟩ => ?_
  subst he
  exact ⟨_, rfl, _, _, _, [], _, [], hW', trodAll_mk1 (shut_bool Tryd.underlying4 _), (trodAll_cons_mk (Below.trod laidOut (by kernel_rfl) (of_decide_eq_true (by kernel_rfl)) t0 bel lt0) trodAll_mk0), rfl, bel.frame _, fun h => by cases h⟩

theorem holds_lmany : Rows.TupleManySaid :=
  OpenClaim.holds_of_wide 4 Tryd.f4 rfl rfl rfl rfl rfl rfl rfl ⟨rfl, rfl, rfl, rfl, rfl⟩ rfl rfl rfl rfl rfl (by kernel_rfl) Tryd.func4 (by kernel_rfl)
    (of_decide_eq_true (by kernel_rfl)) (by unfold Func.isWrapper; rw [if_neg (of_decide_eq_false (by kernel_rfl))]; exact ⟨rfl, rfl⟩)
    (fun os started H enc _ => lifted_lmany os started H enc)

theorem card_lmany : Rows.TupleManyCardSaid :=
  Claim7.holds_tied_plain_at .later [] Rows.tupleManyCard.laidKinds true Rows.tupleManyCard.stood.harness Rows.tupleManyCard.stood.looks
    holds_lmany (fun _ h => by cases h) (by kernel_rfl) (fun _ h => by cases h) tupleMany_row_tie rfl ⟨rfl, rfl⟩ (by kernel_rfl) rfl
    (fun f fn hf hfn => by
      obtain rfl : f = 4 := Option.some.inj ((show Tryd.prog.funcNamed "pedigree/pedigreelaw02.TupleMany" = some 4 by kernel_rfl).symm.trans hf) |>.symm
      obtain rfl : fn = Tryd.f4 := (Option.some.inj (Tryd.func4.symm.trans hfn)).symm
      exact ⟨by kernel_rfl, fun j t ht => by
        rw [Tryd.params4] at ht
        have hm : t ∈ [5] := by simpa using Array.mem_of_getElem? ht
        have hall : ([5].all fun u => !Tryd.prog.wantsStandIn u) = true := by kernel_rfl
        exact (show Tryd.prog.wantsStandIn t = false by simpa using List.all_eq_true.1 hall t hm)⟩)
    (by kernel_rfl)
#print axioms card_lmany

end Go.Proofs.YtbpkkcljeelfcaaDoor
