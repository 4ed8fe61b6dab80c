/-
  The walk of the law PrintLong.
  For every input the law PrintLong returns true and leaves its arguments as they were.
  Conditions: those that the row and its tied card print; none of the proof's own.
-/
import Derived.Test.YtpemmgbopknopaaDoorG10
import Derived.Laws.MakeOwn
import Derived.Test.YtpemmgbopknopaaDoorG11
import Derived.Test.YtpemmgbopknopaaDoorTie
import Derived.Test.YtpemmgbopknopaaDoorCards
namespace Go.Proofs.YtpemmgbopknopaaDoor
section
open Go Go.RowKit Go.Shelf

def lgD : DeL := ⟨true, [112], []⟩
def lgT : List UInt8 := [98, 97, 115, 101, 32, 112, 40, 41, 46, 10]
theorem lg_line : lineP declP lgD = some lgT := by
  unfold lineP declP namedP rowP
  rw [show nameP lgD.name = some [112] from exName (by decide) (by unfold solid; decide) (by decide) (by decide) (by decide)]
  rfl
theorem lg_all : ∀ k : Nat, allO ((List.replicate k lgD).map (lineP declP)) = some (List.replicate k lgT)
  | 0 => rfl
  | k + 1 => by
    rw [List.replicate_succ, List.map_cons, lg_line, allO, lg_all k]
    rfl
theorem lg_len : ∀ k : Nat, (joinS [] (List.replicate k lgT)).length = 10 * k
  | 0 => rfl
  | k + 1 => by
    rw [List.replicate_succ, joinS]
    by_cases h : List.replicate k lgT = []
    · have hk : k = 0 := by
        rcases k with _ | k
        · rfl
        · rw [List.replicate_succ] at h; cases h
      subst hk
      rw [if_pos h]
      rfl
    · rw [if_neg h, List.length_append, List.nil_append, lg_len k]
      show 10 + 10 * k = _
      omega
theorem lg_prog (k : Nat) : progP ⟨List.replicate k lgD, [], []⟩ = some (joinS [] (List.replicate k lgT)) := by
  unfold progP linesP rowP
  rw [lg_all k]
  show some ((joinS [] (List.replicate k lgT) ++ []) ++ []) = _
  rw [List.append_nil, List.append_nil]
theorem lg_sm (k : Nat) (hk : k ≤ 7000) : SmP ⟨List.replicate k lgD, [], []⟩ :=
  ⟨by simp; omega, fun X h => by obtain rfl := (List.mem_replicate.1 h).2; exact ⟨by decide, by decide⟩, by simp, fun X h => (by cases h), by simp, fun X h => (by cases h)⟩
theorem make_decls (k : Nat) (hk : k ≤ 7000) (w : World) : (Instr.makeSlice 23 (.int .i64 (k : Int)) (.int .i64 (k : Int))).run Tryd.prog w = .ok (.slice (some ⟨w.heap.size, 0, none⟩) k k) (w.alloc (.cells (madeCells (Value.agg #[.string ⟨#[]⟩, .bool false, .slice none 0 0]).cells (k * 3)) 30)) := by
  obtain ⟨i, hi, hz, hs, hb⟩ := info_parts Tryd.infoDe
  have h := run_make (P := Tryd.prog) w 23 30 i _ Tryd.underlying23 hi hz .i64 .i64 k k (by omega) (Int.le_refl _) (by rw [hb]; omega) (by omega)
  rw [Int.toNat_natCast, hs] at h
  exact h
/-- What the loop of the law keeps: the first declarations are laid. -/
structure LgS (b : Nat) (k i : Nat) (w W : World) : Prop where
  cells : ∃ cs : Array Value, W.heap[b]? = some (.cells cs 30 (0, 0)) ∧ cs.size = k * 3 ∧ ∀ j, j < i → cs[j * 3]? = some (.string ⟨#[112]⟩) ∧ cs[j * 3 + 1]? = some (.bool true) ∧ cs[j * 3 + 2]? = some (.slice none 0 0)
  prog : W.heap[b + 1]? = some (.cells #[.slice (some ⟨b, 0, none⟩) k k, .slice none 0 0, .slice none 0 0] 27 (0, 0))
  below : Below w.heap.size w W
  at_ : w.heap.size ≤ b
theorem LgS.next {b k i : Nat} {w W : World} (h : LgS b k i w W) (hi : i < k) : LgS b k (i + 1) w (((W.setCell ⟨b, i * 3, none⟩ (.string ⟨#[112]⟩)).setCell ⟨b, i * 3 + 1, none⟩ (.bool true)).setCell ⟨b, i * 3 + 2, none⟩ (.slice none 0 0)) := by
  obtain ⟨cs, h1, h2, h3⟩ := h.cells
  have e1 := Go.heap_setCell_same W b (i * 3) _ _ (.string ⟨#[112]⟩) h1
  have e2 := Go.heap_setCell_same _ b (i * 3 + 1) _ _ (.bool true) e1
  have e3 := Go.heap_setCell_same _ b (i * 3 + 2) _ _ (.slice none 0 0) e2
  refine ⟨⟨_, e3, by simp [h2], fun j hj => ?_⟩, ?_, ((h.below.setCell (p := ⟨b, i * 3, none⟩) h.at_ _).setCell (p := ⟨b, i * 3 + 1, none⟩) h.at_ _).setCell (p := ⟨b, i * 3 + 2, none⟩) h.at_ _, h.at_⟩
  · by_cases e : j = i
    · subst e
      refine ⟨?_, ?_, ?_⟩
      · rw [Array.getElem?_setIfInBounds_ne (by omega), Array.getElem?_setIfInBounds_ne (by omega), Array.getElem?_setIfInBounds_self_of_lt (by omega)]
      · rw [Array.getElem?_setIfInBounds_ne (by omega), Array.getElem?_setIfInBounds_self_of_lt (by simp; omega)]
      · rw [Array.getElem?_setIfInBounds_self_of_lt (by simp; omega)]
    · obtain ⟨g1, g2, g3⟩ := h3 j (by omega)
      refine ⟨?_, ?_, ?_⟩
      · rw [Array.getElem?_setIfInBounds_ne (by omega), Array.getElem?_setIfInBounds_ne (by omega), Array.getElem?_setIfInBounds_ne (by omega)]; exact g1
      · rw [Array.getElem?_setIfInBounds_ne (by omega), Array.getElem?_setIfInBounds_ne (by omega), Array.getElem?_setIfInBounds_ne (by omega)]; exact g2
      · rw [Array.getElem?_setIfInBounds_ne (by omega), Array.getElem?_setIfInBounds_ne (by omega), Array.getElem?_setIfInBounds_ne (by omega)]; exact g3
  · exact (heap_setCell_other _ ⟨b, i * 3 + 2, none⟩ _ _ (show b + 1 ≠ b by omega)).trans ((heap_setCell_other _ ⟨b, i * 3 + 1, none⟩ _ _ (show b + 1 ≠ b by omega)).trans ((heap_setCell_other _ ⟨b, i * 3, none⟩ _ _ (show b + 1 ≠ b by omega)).trans h.prog))
theorem LgS.old {b k i : Nat} {w W : World} (h : LgS b k i w W) (j : Nat) (hj : j < k * 3) : (∃ v, W.cell? ⟨b, j, none⟩ = some v) ∧ W.frozen? ⟨b, j, none⟩ = false := by
  obtain ⟨cs, h1, h2, -⟩ := h.cells
  exact ⟨⟨cs[j], (cell_of_row W b j _ _ (0, 0) h1).trans (Array.getElem?_eq_getElem (by omega))⟩, frozen_of_row W b j _ _ h1⟩
theorem LgS.row {b k : Nat} {w W : World} (h : LgS b k k w W) (hk : k ≤ 7000) : RowIn deY (fun _ => True) W (.slice (some ⟨b, 0, none⟩) (List.replicate k lgD).length k) (List.replicate k lgD) := by
  obtain ⟨cs, h1, h2, h3⟩ := h.cells
  refine ⟨_, k, rfl, by simp, by unfold maxLen; omega, .inr ⟨b, 0, rfl, trivial, (Array.getElem?_eq_some_iff.1 h1).1, fun j hj => ?_⟩⟩
  have hj' : j < k := by simpa using hj
  obtain ⟨g1, g2, g3⟩ := h3 j hj'
  refine ⟨[.string ⟨#[112]⟩, .bool true, .slice none 0 0], ?_, fun i u e => ?_⟩
  · rw [List.getElem_replicate]
    exact ⟨_, rfl, RowIn.nil _ _ _⟩
  · rw [Nat.zero_add]
    refine (cell_of_row W b _ _ _ (0, 0) h1).trans ?_
    rcases i with _ | _ | _ | i
    · exact g1.trans e
    · exact g2.trans e
    · exact g3.trans e
    · simp at e
set_option maxRecDepth 100000 in
set_option maxHeartbeats 4000000 in
theorem lprintLong (n : Nat) (w : World) (hn : n ≤ 255) (G : Glob w) : Calls Tryd.prog 3 #[.int .u8 (n : Int)] w fun e w' => e = .returned (.bool true) ∧ Below w.heap.size w w' := by
  have HG := Lib.hid G
  obtain ⟨k, hk⟩ : ∃ k : Nat, k = 6453 + n := ⟨_, rfl⟩
  have HK := Lib.hid hk
  have hk7 : k ≤ 7000 := by omega
  have hki : (6453 : Int) + (n : Int) = (k : Int) := by omega
  have hn0 : (0 : Int) ≤ (n : Int) := by omega
  have hn1 : (n : Int) ≤ 255 := by omega
  have hk1 : (k : Int) ≤ 7000 := by omega
  clear G hk
  go_enter Tryd.func3, Tryd.ntmps3
  go_wp2_with fail
  refine (pawake_any w HG.out).mono ?_
  rintro y w1 ⟨rfl, hb⟩
  have HB1 := Lib.hid hb
  have hmk := make_decls k hk7 w1
  clear hb
  obtain ⟨b, hb⟩ : ∃ b, b = w1.heap.size := ⟨_, rfl⟩
  have hsz := size_madeCells (Value.agg #[.string ⟨#[]⟩, .bool false, .slice none 0 0]).cells (k * 3)
  generalize madeCells (Value.agg #[.string ⟨#[]⟩, .bool false, .slice none 0 0]).cells (k * 3) = cs0 at *
  obtain ⟨w2, hw2⟩ : ∃ w2, (w1.alloc (.cells cs0 30)).alloc (.cells #[.slice (some ⟨w1.heap.size, 0, none⟩) k k, .slice none 0 0, .slice none 0 0] 27) = w2 := ⟨_, rfl⟩
  have H0 : Hid (LgS w1.heap.size k 0 w w2) := Lib.hid (by
    have hx := two_newA w1 (.cells cs0 30) (.cells #[.slice (some ⟨w1.heap.size, 0, none⟩) k k, .slice none 0 0, .slice none 0 0] 27)
    rw [hw2] at hx
    exact ⟨⟨cs0, hx.1, hsz, fun j hj => absurd hj (Nat.not_lt_zero j)⟩, hx.2, HB1.out.trans (by rw [← hw2]; exact (below_box2 w1 _ _).mono HB1.out.size), HB1.out.size⟩)
  have HW2 := Lib.hid hw2
  clear hsz hw2 hb b
  go_wp2_with fail
  try rw [HW2.out]
  go_loopw [5] (fun i wr => ∃ j : Nat, j ≤ k ∧ i = .int .i64 j ∧ Hid (LgS w1.heap.size k j w wr)) (fun i _ => k - (intOf i).toNat)
  case atStart => exact ⟨0, Nat.zero_le _, rfl, H0⟩
  case round =>
    obtain ⟨j, hj, rfl, HJ⟩ := hrel
    have h0 : (0 : Int) ≤ (j : Int) := by omega
    obtain ⟨⟨p0, p1, p2⟩, -⟩ := cells3 HJ.out.prog
    by_cases hlt : j < k
    · have hlt' : (j : Int) < (k : Int) := by omega
      obtain ⟨⟨v0, c0⟩, f0⟩ := HJ.out.old (j * 3) (by omega)
      obtain ⟨⟨v1, c1⟩, f1⟩ := HJ.out.old (j * 3 + 1) (by omega)
      obtain ⟨⟨v2, c2⟩, f2⟩ := HJ.out.old (j * 3 + 2) (by omega)
      go_wp2_with fail
      go_roundw
      case rel => exact ⟨j + 1, hlt, by go_num, Lib.hid (HJ.out.next hlt)⟩
      case measure => simp [intOf]; omega
    · obtain rfl : j = k := by omega
      have hlt' : ¬ ((j : Nat) : Int) < (j : Int) := by omega
      have HP := Lib.hid ((pProgram_any ⟨List.replicate j lgD, [], []⟩ (.slice (some ⟨w1.heap.size, 0, none⟩) (List.replicate j lgD).length j) (.slice none 0 0) (.slice none 0 0) (fun _ => True) wr (HJ.out.row hk7) (RowIn.nil _ _ _) (RowIn.nil _ _ _) (lg_sm j hk7) (HG.out.below HJ.out.below)))
      rw [List.length_replicate, lg_prog] at HP
      have HB := Lib.hid HJ.out.below
      obtain ⟨S, hS⟩ : ∃ S, S = joinS [] (List.replicate j lgT) := ⟨_, rfl⟩
      have HSl := Lib.hid (show S.length = 10 * j by rw [hS]; exact lg_len j)
      rw [← hS] at HP
      clear hS
      go_wp2_with fail
      refine HP.out.mono ?_
      rintro y w3 ⟨⟨s, hs, hle, rfl⟩ | ⟨s, hs, hle, rfl⟩ | ⟨hs, -⟩, hb3⟩
      · have hsz : (s.size : Int) = 10 * (j : Int) := by
          injection hs with hs
          have := HSl.out
          rw [hs, ← Lib.size_eq] at this
          omega
        have hno : ¬ (65536 : Int) < 10 * (j : Int) := by omega
        have HB3 := Lib.hid (HB.out.trans (hb3.mono HB.out.size))
        clear hs hle hb3
        go_wp2_with fail
        go_ret
        exact ⟨rfl, HB3.out⟩
      · have hyes : (65536 : Int) < 10 * (j : Int) := by
          injection hs with hs
          have := HSl.out
          rw [hs, ← Lib.size_eq] at this
          omega
        have HB3 := Lib.hid (HB.out.trans (hb3.mono HB.out.size))
        clear hs hle hb3
        go_wp2_with fail
        go_ret
        exact ⟨rfl, HB3.out⟩
      · cases hs
end
section
open Go Go.RowKit

open Go.ChangeShapes Go.WideShapes Go.ChangeAt
set_option maxRecDepth 100000 in
theorem lifted_lprintLong (os : Os) (started : os.Started) (H : Type) (enc : TypeId × Value → H) :
    ReturnsInHanded {} Tryd.checked os 3 .any (fun w args => (Rows.printLongSpec.pre enc Tryd.prog Tryd.f3 [] false w args ∧ laidMetH Tryd.prog laid6 w) ∧ sizedMet enc Tryd.prog Tryd.f3 (OpenSpec.ofChange Rows.printLongSpec) false w args)
      (Rows.printLongSpec.post enc Tryd.prog Tryd.f3 false true false false) := by
  refine returnsInHanded_of_change_and (C := Tryd.checked) (X := fun w _ => laidMetH Tryd.prog laid6 w) (fun _ _ _ hh h => h.of_heap hh) own started (by kernel_rfl) Tryd.func3
    (ChangeSpec.witness_shaped (enc := enc) (C := Tryd.checked) (os := os) (X := fun w _ => laidMetH Tryd.prog laid6 w) false (World.doorLaid Tryd.prog 400 os) #[.int .u8 0] 8 rfl (World.shaped_of_RefB (by kernel_rfl) (by kernel_rfl)) (by kernel_rfl) (by kernel_rfl) (by kernel_rfl) (door_met os _)) ?_
  intro W base args ds gs before hval0 hW _ _ hL _
  have hval : ∀ (j : Nat) t v, Tryd.f3.params[j]? = some t → args[j]? = some v → Value.okWide Tryd.prog W .any base t v := hval0
  have hW' := hW
  obtain ⟨p, q, hA0, hV, rfl, hfz, hnd⟩ := hW
  have hA : DataW.TrodAll enc Tryd.prog W 0 (fun _ => true) true Tryd.f3.params.toList args.toList ds p := hA0
  rw [Tryd.params3] at hA hval
  obtain ⟨v0, vs0, d0, ds0, p0, q0, hargs, rfl, rfl, h0, r0⟩ := trodAll_cons hA
  obtain ⟨rfl, rfl, rfl⟩ := trodAll_nil r0
  obtain rfl : args = #[v0] := by cases args; simp_all
  obtain ⟨rfl, rfl⟩ := trodVars_none hV
  have t0 := h0
  have lt0 : ∀ x ∈ p0, x.block < W.heap.size := by obtain ⟨m, hm⟩ := t0; exact DataW.trod_lt m _ _ _ hm
  obtain ⟨x0v, rfl, -, -, wf0⟩ := open_int Tryd.underlying5 (hval 0 5 v0 rfl rfl) h0
  have wg0 : 0 ≤ x0v ∧ x0v ≤ 255 := by simpa [Lit.wf, IntKind.min, IntKind.max, IntKind.signed, IntKind.bits] using wf0
  obtain ⟨n0, rfl⟩ := Int.eq_ofNat_of_zero_le wg0.1
  clear hA0 hval0
  refine (lprintLong n0 W (by have := wg0.2; omega) (glob_of_laid hL)).mono fun e W' ⟨he, bel⟩ => ?_
  subst he
  exact ⟨_, rfl, _, _, _, [], _, [], hW', trodAll_mk1 (shut_bool Tryd.underlying4 _), (trodAll_cons_mk (Below.trod laidOut (by kernel_rfl) (of_decide_eq_true (by kernel_rfl)) t0 bel lt0) trodAll_mk0), rfl, bel.frame _, fun h => by cases h⟩

theorem holds_lprintLong : Rows.PrintLongSaid :=
  OpenClaim.holds_of_wide 3 Tryd.f3 rfl rfl rfl rfl rfl rfl rfl ⟨rfl, rfl, rfl, rfl, rfl⟩ rfl rfl rfl rfl rfl (by kernel_rfl) Tryd.func3 (by kernel_rfl)
    (of_decide_eq_true (by kernel_rfl)) (by unfold Func.isWrapper; rw [if_neg (of_decide_eq_false (by kernel_rfl))]; exact ⟨rfl, rfl⟩)
    (fun os started H enc _ => lifted_lprintLong os started H enc)

theorem card_lprintLong : Rows.PrintLongCardSaid :=
  Claim7.holds_tied_plain_at .later [] Rows.printLongCard.laidKinds true Rows.printLongCard.stood.harness Rows.printLongCard.stood.looks
    holds_lprintLong (fun _ h => by cases h) (by kernel_rfl) (fun _ h => by cases h) printLong_row_tie rfl ⟨rfl, rfl⟩ (by kernel_rfl) rfl
    (fun f fn hf hfn => by
      obtain rfl : f = 3 := Option.some.inj ((show Tryd.prog.funcNamed "pedigree/pedigreelaw14.PrintLong" = some 3 by kernel_rfl).symm.trans hf) |>.symm
      obtain rfl : fn = Tryd.f3 := (Option.some.inj (Tryd.func3.symm.trans hfn)).symm
      exact ⟨by kernel_rfl, fun j t ht => by
        rw [Tryd.params3] at ht
        have hm : t ∈ [5] := by simpa using Array.mem_of_getElem? ht
        have hall : ([5].all fun u => !Tryd.prog.wantsStandIn u) = true := by kernel_rfl
        exact (show Tryd.prog.wantsStandIn t = false by simpa using List.all_eq_true.1 hall t hm)⟩)
    (by kernel_rfl)
#print axioms card_lprintLong

end
end Go.Proofs.YtpemmgbopknopaaDoor
