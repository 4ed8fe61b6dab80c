/-
  For every two values the law ValueThree returns true and leaves its arguments as they were: of less, equal and greater just one holds, and the other comparisons are their negations.
  Conditions: those that the row and its tied card print (the library's listed variables hold what their initialisers laid; the size of memory that is read); none of the proof's own.
-/
import Derived.Test.YtehobjcdlaifdaaDoorFrame
import Derived.Test.YtehobjcdlaifdaaDoorCut
import Derived.Test.YtehobjcdlaifdaaDoorTie
import Derived.Test.YtehobjcdlaifdaaDoorCards
import Derived.Deep.RegionHeld3
import Derived.Deep.RegionWith
import Derived.Deep.DeepCutAuto
namespace Go.Proofs.YtehobjcdlaifdaaDoor
open Go Go.RowKit

/-- A block known whole, none of it frozen. -/
def Whole (w : World) (g : Nat) (t : TypeId) (cs : Array Value) : Prop := w.heap[g]? = some (.cells cs t (0, 0))
theorem Whole.lt {w : World} {g : Nat} {t : TypeId} {cs : Array Value} (h : Whole w g t cs) : g < w.heap.size := by
  rcases Nat.lt_or_ge g w.heap.size with h1 | h1
  · exact h1
  · unfold Whole at h
    rw [Array.getElem?_eq_none h1] at h
    cases h
theorem Whole.cell {w : World} {g : Nat} {t : TypeId} {cs : Array Value} (h : Whole w g t cs) (i : Nat) : w.cell? ⟨g, i, none⟩ = cs[i]? := cell_of_row w g i cs t (0, 0) h
theorem Whole.free {w : World} {g : Nat} {t : TypeId} {cs : Array Value} (h : Whole w g t cs) (i : Nat) : w.frozen? ⟨g, i, none⟩ = false := by
  unfold Whole at h
  simp [World.frozen?, h]
theorem Whole.on {w w' : World} {g : Nat} {t : TypeId} {cs : Array Value} (h : Whole w g t cs) (hb : Below w.heap.size w w') : Whole w' g t cs := (hb.block g h.lt).trans h
theorem Whole.put {w : World} {g : Nat} {t : TypeId} {cs : Array Value} (h : Whole w g t cs) (i : Nat) (u : Value) : Whole (w.setCell ⟨g, i, none⟩ u) g t (cs.setIfInBounds i u) := by
  unfold Whole at h ⊢
  simp [World.setCell, Array.getElem?_modify, h]
/-- The boxes stay, whatever is stored elsewhere. -/
theorem Two.put {w w1 : World} {k n : Int} {s : ByteArray} {k' n' : Int} {s' : ByteArray} (h : Two w w1 k n s k' n' s') {g : Nat} (hg : w.heap.size + 1 < g) (i : Nat) (u : Value) : Two w (w1.setCell ⟨g, i, none⟩ u) k n s k' n' s' := by
  have hb : Below g w1 (w1.setCell ⟨g, i, none⟩ u) := (Below.refl g w1).setCell (p := ⟨g, i, none⟩) (Nat.le_refl g) u
  have hz := h.size
  have hz2 := hb.size
  exact ⟨h.below.trans (hb.mono (by omega)), by omega, h.fst.keep hb (by omega), h.snd.keep hb (by omega)⟩
/-- What the law's array holds behind the ops below j. -/
def gv (c : Int) (j i : Nat) : Value := .bool (decide (i < j) && holdB i c)
def gotArr (c : Int) (j : Nat) : Array Value := #[.bool false, gv c j 1, gv c j 2, gv c j 3, gv c j 4, gv c j 5, gv c j 6]
/-- How many of less, equal, greater held so far. -/
def cnt (c : Int) : Nat → Int
  | 0 => 0
  | j + 1 => cnt c j + if (j = 1 ∨ j = 3 ∨ j = 5) ∧ holdB j c = true then 1 else 0

theorem arr_put {w : World} {g : Nat} {t : TypeId} {c : Int} (j : Nat) (hj : 1 ≤ j) (hj6 : j ≤ 6) {b : Bool} (hb : holdB j c = b) (h : Whole w g t (gotArr c j)) : Whole (w.setCell ⟨g, j, none⟩ (.bool b)) g t (gotArr c (j + 1)) := by
  subst hb
  have h2 := h.put j (.bool (holdB j c))
  obtain rfl | rfl | rfl | rfl | rfl | rfl : j = 1 ∨ j = 2 ∨ j = 3 ∨ j = 4 ∨ j = 5 ∨ j = 6 := by omega
  all_goals exact h2
theorem not_true {b : Bool} (h : ¬ b = true) : b = false := by simpa using h
theorem cnt_bd (c : Int) : ∀ j : Nat, 0 ≤ cnt c j ∧ cnt c j ≤ j
  | 0 => ⟨Int.le_refl _, Int.le_refl _⟩
  | j + 1 => by
    have := cnt_bd c j
    unfold cnt
    split <;> omega
theorem cnt_yes {c : Int} {j : Nat} (h : holdB j c = true) (g : j = 1 ∨ j = 3 ∨ j = 5) : cnt c (j + 1) = cnt c j + 1 := by
  rw [cnt, if_pos ⟨g, h⟩]
theorem cnt_no {c : Int} {j : Nat} (h : ¬ ((j = 1 ∨ j = 3 ∨ j = 5) ∧ holdB j c = true)) : cnt c (j + 1) = cnt c j := by
  rw [cnt, if_neg h]; omega

set_option maxHeartbeats 4000000 in
set_option maxRecDepth 100000 in
theorem three (k n : Int) (s : ByteArray) (k' n' : Int) (s' : ByteArray) (w : World) (_ : I64 k) (_ : I64 n) (hm : s.size ≤ maxLen) (_ : I64 k') (_ : I64 n') (hm' : s'.size ≤ maxLen) (G : Glob w) :
    Calls Tryd.prog 9 #[.agg #[.int .i64 k, .int .i64 n, .string s], .agg #[.int .i64 k', .int .i64 n', .string s']] w fun e w' => e = .returned (.bool true) ∧ Below w.heap.size w w' := by
  obtain ⟨c, hcd⟩ : ∃ c, c = cmpV k n (cutS s) k' n' (cutS s') := ⟨_, rfl⟩
  have hcc := cmpV_cases k n (cutS s) k' n' (cutS s')
  have HH := fun op w => holds_any op k n (cutS s) k' n' (cutS s') w
  rw [← hcd] at HH hcc
  have HC := Lib.hid HH
  have HCC := Lib.hid hcc
  clear HH hcc hcd
  go_enter Tryd.func9, Tryd.ntmps9
  go_upto_region 1 with fail
  go_cut [2] (fun s2 wx => s2 = .pointer (some ⟨w.heap.size, 0, none⟩) ∧ Two w wx k n (cutS s) k' n' (cutS s'))
  case first =>
    go_region_with (first
      | (go_at_call_of 11 (Value.agg #[.int .i64 k, .int .i64 n, .string s]); refine (cut_any k n s _ hm).mono ?_; rintro e w1 ⟨rfl, rfl⟩)
      | (go_at_call_of 11 (Value.agg #[.int .i64 k', .int .i64 n', .string s']); refine (cut_any k' n' s' _ hm').mono ?_; rintro e w1 ⟨rfl, rfl⟩))
    all_goals (go_wp2_with fail; go_meet; exact ⟨rfl, Two.mk_ (t := 24) (by repeat (first | exact Below.refl _ _ | refine Below.drew ?_ | refine Below.alloc ?_ (by simp) _))⟩)
  case rest =>
    obtain ⟨rfl, hT⟩ := hcut
    have hT' := hT
    obtain ⟨hb, hz, ⟨c0, c1, c2⟩, ⟨d0, d1, d2⟩⟩ := hT'
    have hA0 : w.heap.size + 1 < wc.heap.size := hz
    clear c0 c1 c2 d0 d1 d2
    go_wp2
    go_loopw [6, 7] (fun x y wr => ∃ j : Nat, 1 ≤ j ∧ j ≤ 7 ∧ y = .int .i64 j ∧ x = .int .i64 (cnt c j) ∧ Two w wr k n (cutS s) k' n' (cutS s') ∧ Whole wr wc.heap.size 60 (gotArr c j)) (fun _ y _ => 7 - (intOf y).toNat)
    case atStart => exact ⟨1, by decide, by decide, rfl, rfl, hT.on ((Below.refl _ _).alloc (Nat.le_refl _) _), heap_alloc_new wc _⟩
    case round =>
      obtain ⟨j, hj1, hj7, rfl, rfl, hT2, hA⟩ := hrel
      have hT3 := hT2
      obtain ⟨hb2, hz2, ⟨c0, c1, c2⟩, ⟨d0, d1, d2⟩⟩ := hT3
      obtain rfl | rfl | rfl | rfl | rfl | rfl | rfl : j = 1 ∨ j = 2 ∨ j = 3 ∨ j = 4 ∨ j = 5 ∨ j = 6 ∨ j = 7 := by omega
      · have e0 : holdE 1 = 0 := rfl
        have hn := cnt_bd c 1
        obtain ⟨hn0, hn1⟩ := hn
        go_wp2_with (go_at_call 19; refine (HC.out _ _).mono ?_; rintro e w1 ⟨rfl, hb1⟩; have hT4 := hT2.on hb1; have hA4 := hA.on hb1; have a0 : w1.cell? ⟨wc.heap.size, 1, none⟩ = some (gv c 1 1) := hA4.cell 1; have f0 := hA4.free 1)
        all_goals
          go_roundw
          case measure => simp [intOf]
          case rel =>
            first
            | exact ⟨2, by decide, by decide, rfl, by rw [cnt_yes (j := 1) (by assumption) (by decide)], hT4.put hA0 1 _, arr_put 1 (by decide) (by decide) (by assumption) hA4⟩
            | exact ⟨2, by decide, by decide, rfl, by rw [cnt_no (j := 1) (fun h => absurd h.2 (by assumption))], hT4.put hA0 1 _, arr_put 1 (by decide) (by decide) (not_true (by assumption)) hA4⟩
      · have e0 : holdE 2 = 0 := rfl
        have hn := cnt_bd c 2
        obtain ⟨hn0, hn1⟩ := hn
        go_wp2_with (go_at_call 19; refine (HC.out _ _).mono ?_; rintro e w1 ⟨rfl, hb1⟩; have hT4 := hT2.on hb1; have hA4 := hA.on hb1; have a0 : w1.cell? ⟨wc.heap.size, 2, none⟩ = some (gv c 2 2) := hA4.cell 2; have f0 := hA4.free 2)
        all_goals
          go_roundw
          case measure => simp [intOf]
          case rel =>
            exact ⟨3, by decide, by decide, rfl, by rw [cnt_no (j := 2) (fun h => absurd h.1 (by decide))], hT4.put hA0 2 _, arr_put 2 (by decide) (by decide) (by first | assumption | exact not_true (by assumption) | rfl) hA4⟩
      · have e0 : holdE 3 = 0 := rfl
        have hn := cnt_bd c 3
        obtain ⟨hn0, hn1⟩ := hn
        go_wp2_with (go_at_call 19; refine (HC.out _ _).mono ?_; rintro e w1 ⟨rfl, hb1⟩; have hT4 := hT2.on hb1; have hA4 := hA.on hb1; have a0 : w1.cell? ⟨wc.heap.size, 3, none⟩ = some (gv c 3 3) := hA4.cell 3; have f0 := hA4.free 3)
        all_goals
          go_roundw
          case measure => simp [intOf]
          case rel =>
            first
            | exact ⟨4, by decide, by decide, rfl, by rw [cnt_yes (j := 3) (by assumption) (by decide)], hT4.put hA0 3 _, arr_put 3 (by decide) (by decide) (by assumption) hA4⟩
            | exact ⟨4, by decide, by decide, rfl, by rw [cnt_no (j := 3) (fun h => absurd h.2 (by assumption))], hT4.put hA0 3 _, arr_put 3 (by decide) (by decide) (not_true (by assumption)) hA4⟩
      · have e0 : holdE 4 = 0 := rfl
        have hn := cnt_bd c 4
        obtain ⟨hn0, hn1⟩ := hn
        go_wp2_with (go_at_call 19; refine (HC.out _ _).mono ?_; rintro e w1 ⟨rfl, hb1⟩; have hT4 := hT2.on hb1; have hA4 := hA.on hb1; have a0 : w1.cell? ⟨wc.heap.size, 4, none⟩ = some (gv c 4 4) := hA4.cell 4; have f0 := hA4.free 4)
        all_goals
          go_roundw
          case measure => simp [intOf]
          case rel =>
            exact ⟨5, by decide, by decide, rfl, by rw [cnt_no (j := 4) (fun h => absurd h.1 (by decide))], hT4.put hA0 4 _, arr_put 4 (by decide) (by decide) (by first | assumption | exact not_true (by assumption) | rfl) hA4⟩
      · have e0 : holdE 5 = 0 := rfl
        have hn := cnt_bd c 5
        obtain ⟨hn0, hn1⟩ := hn
        go_wp2_with (go_at_call 19; refine (HC.out _ _).mono ?_; rintro e w1 ⟨rfl, hb1⟩; have hT4 := hT2.on hb1; have hA4 := hA.on hb1; have a0 : w1.cell? ⟨wc.heap.size, 5, none⟩ = some (gv c 5 5) := hA4.cell 5; have f0 := hA4.free 5)
        all_goals
          go_roundw
          case measure => simp [intOf]
          case rel =>
            first
            | exact ⟨6, by decide, by decide, rfl, by rw [cnt_yes (j := 5) (by assumption) (by decide)], hT4.put hA0 5 _, arr_put 5 (by decide) (by decide) (by assumption) hA4⟩
            | exact ⟨6, by decide, by decide, rfl, by rw [cnt_no (j := 5) (fun h => absurd h.2 (by assumption))], hT4.put hA0 5 _, arr_put 5 (by decide) (by decide) (not_true (by assumption)) hA4⟩
      · have e0 : holdE 6 = 0 := rfl
        have hn := cnt_bd c 6
        obtain ⟨hn0, hn1⟩ := hn
        go_wp2_with (go_at_call 19; refine (HC.out _ _).mono ?_; rintro e w1 ⟨rfl, hb1⟩; have hT4 := hT2.on hb1; have hA4 := hA.on hb1; have a0 : w1.cell? ⟨wc.heap.size, 6, none⟩ = some (gv c 6 6) := hA4.cell 6; have f0 := hA4.free 6)
        all_goals
          go_roundw
          case measure => simp [intOf]
          case rel =>
            exact ⟨7, by decide, by decide, rfl, by rw [cnt_no (j := 6) (fun h => absurd h.1 (by decide))], hT4.put hA0 6 _, arr_put 6 (by decide) (by decide) (by first | assumption | exact not_true (by assumption) | rfl) hA4⟩
      · have hcc := HCC.out
        clear HC HCC
        rcases hcc with rfl | rfl | rfl
        · have ec : cnt (-1) 7 = 1 := rfl
          have a1 : wr.cell? ⟨wc.heap.size, 1, none⟩ = some (.bool false) := hA.cell 1
          have a2 : wr.cell? ⟨wc.heap.size, 2, none⟩ = some (.bool true) := hA.cell 2
          have a3 : wr.cell? ⟨wc.heap.size, 3, none⟩ = some (.bool true) := hA.cell 3
          have a4 : wr.cell? ⟨wc.heap.size, 4, none⟩ = some (.bool true) := hA.cell 4
          have a5 : wr.cell? ⟨wc.heap.size, 5, none⟩ = some (.bool false) := hA.cell 5
          have a6 : wr.cell? ⟨wc.heap.size, 6, none⟩ = some (.bool false) := hA.cell 6
          have hbT := hT2.below
          clear hA
          go_wp2_with (go_at_call 18; refine (alive_true _ (G.below hbT)).mono ?_; rintro e w7 ⟨rfl, hb7⟩)
          go_ret
          exact ⟨by simp, hbT.trans (hb7.mono hbT.size)⟩
        · have ec : cnt 0 7 = 1 := rfl
          have a1 : wr.cell? ⟨wc.heap.size, 1, none⟩ = some (.bool true) := hA.cell 1
          have a2 : wr.cell? ⟨wc.heap.size, 2, none⟩ = some (.bool false) := hA.cell 2
          have a3 : wr.cell? ⟨wc.heap.size, 3, none⟩ = some (.bool false) := hA.cell 3
          have a4 : wr.cell? ⟨wc.heap.size, 4, none⟩ = some (.bool true) := hA.cell 4
          have a5 : wr.cell? ⟨wc.heap.size, 5, none⟩ = some (.bool false) := hA.cell 5
          have a6 : wr.cell? ⟨wc.heap.size, 6, none⟩ = some (.bool true) := hA.cell 6
          have hbT := hT2.below
          clear hA
          go_wp2_with (go_at_call 18; refine (alive_true _ (G.below hbT)).mono ?_; rintro e w7 ⟨rfl, hb7⟩)
          go_ret
          exact ⟨by simp, hbT.trans (hb7.mono hbT.size)⟩
        · have ec : cnt 1 7 = 1 := rfl
          have a1 : wr.cell? ⟨wc.heap.size, 1, none⟩ = some (.bool false) := hA.cell 1
          have a2 : wr.cell? ⟨wc.heap.size, 2, none⟩ = some (.bool true) := hA.cell 2
          have a3 : wr.cell? ⟨wc.heap.size, 3, none⟩ = some (.bool false) := hA.cell 3
          have a4 : wr.cell? ⟨wc.heap.size, 4, none⟩ = some (.bool false) := hA.cell 4
          have a5 : wr.cell? ⟨wc.heap.size, 5, none⟩ = some (.bool true) := hA.cell 5
          have a6 : wr.cell? ⟨wc.heap.size, 6, none⟩ = some (.bool true) := hA.cell 6
          have hbT := hT2.below
          clear hA
          go_wp2_with (go_at_call 18; refine (alive_true _ (G.below hbT)).mono ?_; rintro e w7 ⟨rfl, hb7⟩)
          go_ret
          exact ⟨by simp, hbT.trans (hb7.mono hbT.size)⟩

open Go.ChangeShapes Go.WideShapes Go.ChangeAt
set_option maxRecDepth 100000 in
theorem lifted_three (os : Os) (started : os.Started) (H : Type) (enc : TypeId × Value → H) :
    ReturnsInHanded {} Tryd.checked os 9 .any (fun w args => (Rows.valueThreeSpec.pre enc Tryd.prog Tryd.f9 [] false w args ∧ laidMetH Tryd.prog laid5 w) ∧ sizedMet enc Tryd.prog Tryd.f9 (OpenSpec.ofChange Rows.valueThreeSpec) false w args)
      (Rows.valueThreeSpec.post enc Tryd.prog Tryd.f9 false true false false) := by
  refine returnsInHanded_of_change_and (C := Tryd.checked) (X := fun w _ => laidMetH Tryd.prog laid5 w) (fun _ _ _ hh h => h.of_heap hh) own started (by kernel_rfl) Tryd.func9
    (ChangeSpec.witness_shaped (enc := enc) (C := Tryd.checked) (os := os) (X := fun w _ => laidMetH Tryd.prog laid5 w) false (World.doorLaid Tryd.prog 400 os) #[.agg #[.int .i64 0, .int .i64 0, .string ⟨#[]⟩], .agg #[.int .i64 0, .int .i64 0, .string ⟨#[]⟩]] 8 rfl (World.shaped_of_RefB (by kernel_rfl) (by kernel_rfl)) (by kernel_rfl) (by kernel_rfl) (by kernel_rfl) (door_met os _)) ?_
  intro W base args ds gs before hval0 hW _ _ hL _
  have hval : ∀ (j : Nat) t v, Tryd.f9.params[j]? = some t → args[j]? = some v → Value.okWide Tryd.prog W .any base t v := hval0
  have hW' := hW
  obtain ⟨p, q, hA0, hV, rfl, hfz, hnd⟩ := hW
  have hA : DataW.TrodAll enc Tryd.prog W 0 (fun _ => true) true Tryd.f9.params.toList args.toList ds p := hA0
  rw [Tryd.params9] at hA hval
  obtain ⟨v0, vs0, d0, ds0, p0, q0, hargs, rfl, rfl, h0, r0⟩ := trodAll_cons hA
  obtain ⟨v1, vs1, d1, ds1, p1, q1, rfl, rfl, rfl, h1, r1⟩ := trodAll_cons r0
  obtain ⟨rfl, rfl, rfl⟩ := trodAll_nil r1
  obtain rfl : args = #[v0, v1] := by cases args; simp_all
  obtain ⟨rfl, rfl⟩ := trodVars_none hV
  have t0 := h0
  have lt0 : ∀ x ∈ p0, x.block < W.heap.size := by obtain ⟨m, hm⟩ := t0; exact DataW.trod_lt m _ _ _ hm
  have t1 := h1
  have lt1 : ∀ x ∈ p1, x.block < W.heap.size := by obtain ⟨m, hm⟩ := t1; exact DataW.trod_lt m _ _ _ hm
  obtain ⟨k0v, n0v, s0v, rfl, ik0, in0, iz0⟩ := open_val (hval 0 24 v0 rfl rfl) h0
  obtain ⟨k1v, n1v, s1v, rfl, ik1, in1, iz1⟩ := open_val (hval 1 24 v1 rfl rfl) h1
  clear hA0 hval0
  refine (three k0v n0v s0v k1v n1v s1v W ik0 in0 iz0 ik1 in1 iz1 (glob_of_laid hL)).mono fun e W' ⟨he, bel⟩ => ?_
  subst he
  exact ⟨_, rfl, _, _, _, [], _, [], hW', trodAll_mk1 (shut_bool Tryd.underlying4 _), (trodAll_cons_mk (Below.trod laidOut (by kernel_rfl) (of_decide_eq_true (by kernel_rfl)) t0 bel lt0) (trodAll_cons_mk (Below.trod laidOut (by kernel_rfl) (of_decide_eq_true (by kernel_rfl)) t1 bel lt1) trodAll_mk0)), rfl, bel.frame _, fun h => by cases h⟩

theorem holds_three : Rows.ValueThreeSaid :=
  OpenClaim.holds_of_wide 9 Tryd.f9 rfl rfl rfl rfl rfl rfl rfl ⟨rfl, rfl, rfl, rfl, rfl⟩ rfl rfl rfl rfl rfl (by kernel_rfl) Tryd.func9 (by kernel_rfl)
    (of_decide_eq_true (by kernel_rfl)) (by unfold Func.isWrapper; rw [if_neg (of_decide_eq_false (by kernel_rfl))]; exact ⟨rfl, rfl⟩)
    (fun os started H enc _ => lifted_three os started H enc)

theorem card_three : Rows.ValueThreeCardSaid :=
  Claim7.holds_tied_plain_at .later [] Rows.valueThreeCard.laidKinds true Rows.valueThreeCard.stood.harness true
    holds_three (fun _ h => by cases h) (by kernel_rfl) (fun _ h => by cases h) valueThree_row_tie rfl ⟨rfl, rfl⟩ (by kernel_rfl) rfl
    (fun f fn hf hfn => by
      obtain rfl : f = 9 := Option.some.inj ((show Tryd.prog.funcNamed "pedigree/pedigreelaw01.ValueThree" = some 9 by kernel_rfl).symm.trans hf) |>.symm
      obtain rfl : fn = Tryd.f9 := (Option.some.inj (Tryd.func9.symm.trans hfn)).symm
      exact ⟨by kernel_rfl, fun j t ht => by
        rw [Tryd.params9] at ht
        have hm : t ∈ [24, 24] := by simpa using Array.mem_of_getElem? ht
        have hall : ([24, 24].all fun u => !Tryd.prog.wantsStandIn u) = true := by kernel_rfl
        exact (show Tryd.prog.wantsStandIn t = false by simpa using List.all_eq_true.1 hall t hm)⟩)
    (by kernel_rfl)
#print axioms card_three


end Go.Proofs.YtehobjcdlaifdaaDoor
