/-
  For every text the law ValueReads returns true and leaves its argument as it was.
  Conditions: those that the row and its tied card print; none of the proof's own.
-/
import Derived.Test.YtgblnkogglagdaaDoorFrame
import Derived.Test.YtgblnkogglagdaaDoorCut
import Derived.Test.YtgblnkogglagdaaDoorRead
import Derived.Test.YtgblnkogglagdaaDoorSym
import Derived.Test.YtgblnkogglagdaaDoorRread
import Derived.Test.YtgblnkogglagdaaDoorTie
import Derived.Test.YtgblnkogglagdaaDoorCards
import Derived.Deep.RegionHeld3
import Derived.Deep.RegionWith
import Derived.Deep.DeepCutAuto
import Derived.Outline
namespace Go.Proofs.YtgblnkogglagdaaDoor
open Go Go.RowKit

theorem whole_of (s : ByteArray) (hmax : s.size ≤ 1000000) : WholeIs s ((wholeL s.data.toList).getD 0) (wholeL s.data.toList).isSome := fun w => whole_any s w hmax
theorem sym_of (s : ByteArray) (hmax : s.size ≤ 1000000) : SymIs s ⟨(symL s.data.toList).1.toArray⟩ (symL s.data.toList).2 := fun w => symbol_any s w hmax
theorem beq_of_ne {a b : ByteArray} (h : b ≠ a) : (a.toList == b.toList) = false := by
  rw [beq_eq_false_iff_ne]
  exact fun e => h (str_ext e).symm
theorem rread_own (k n : Int) (S : ByteArray) (w : World) (h : IsV k n S) (hI : I64 n) :
    Calls Tryd.prog 8 #[.string (textS k n S)] w fun e w' => e = .returned (.tuple #[.agg #[.int .i64 k, .int .i64 n, .string S], .int .i64 0]) ∧ Below w.heap.size w w' := by
  have hz := textS_size h hI
  have ht : RTextIs k n S (textS k n S) 0 := fun w => rtext_yes k n S w h hI
  have hw := whole_of (textS k n S) (by omega)
  rcases h with ⟨rfl, hS⟩ | ⟨rfl, rfl, hS⟩
  · obtain rfl := emp_of hS
    have e : wholeL (textS 1 n ⟨#[]⟩).data.toList = some n := whole_itoa n hI.1 hI.2
    rw [e] at hw
    exact rr_int_hit _ n w (Lib.hid hw) (Lib.hid ht)
  · have e : wholeL (textS 2 0 S).data.toList = none := whole_quote _
    rw [e] at hw
    have hs := sym_of (textS 2 0 S) (by omega)
    have e2 : symL (textS 2 0 S).data.toList = (S.data.toList, true) := sym_quote _
    rw [e2] at hs
    exact rr_sym_hit _ S 0 w (Lib.hid hw) (Lib.hid hs) (Lib.hid ht)
theorem rread_none (s : ByteArray) (w : World) (hmax : s.size ≤ 1000000) (hno : ∀ k n S, IsV k n S → I64 n → s ≠ textS k n S) :
    Calls Tryd.prog 8 #[.string s] w fun e w' => e = .returned (.tuple #[.agg #[.int .i64 0, .int .i64 0, .string ⟨#[]⟩], .int .i64 10]) ∧ Below w.heap.size w w' := by
  have hw := whole_of s hmax
  cases hwl : wholeL s.data.toList with
  | some n =>
    rw [hwl] at hw
    have hI : I64 n := whole_range hwl
    have hv : IsV 1 n ⟨#[]⟩ := .inl ⟨rfl, emp_toList⟩
    exact rr_int_miss s n (textS 1 n ⟨#[]⟩) w (Lib.hid hw) (Lib.hid fun w => rtext_yes 1 n ⟨#[]⟩ w hv hI) (beq_of_ne (hno _ _ _ hv hI))
  | none =>
    rw [hwl] at hw
    have hs := sym_of s hmax
    have hI : I64 0 := by unfold I64; omega
    generalize (⟨(symL s.data.toList).1.toArray⟩ : ByteArray) = S at hs
    generalize (symL s.data.toList).2 = b at hs
    by_cases hv : IsV 2 0 S
    · have ht : RTextIs 2 0 S (textS 2 0 S) 0 := fun w => rtext_yes 2 0 S w hv hI
      cases b with
      | true => exact rr_sym_missT s S 0 (textS 2 0 S) w (Lib.hid hw) (Lib.hid hs) (Lib.hid ht) (beq_of_ne (hno _ _ _ hv hI))
      | false => exact rr_sym_missB s S 0 (textS 2 0 S) 0 w (Lib.hid hw) (Lib.hid hs) (Lib.hid ht)
    · have ht : RTextIs 2 0 S ⟨#[]⟩ 10 := fun w => rtext_no 2 0 S w hv
      cases b with
      | true => exact rr_sym_missE s S 0 ⟨#[]⟩ w (Lib.hid hw) (Lib.hid hs) (Lib.hid ht)
      | false => exact rr_sym_missB s S 0 ⟨#[]⟩ 10 w (Lib.hid hw) (Lib.hid hs) (Lib.hid ht)

/-- Both readings of a text answer the same. -/
def BothRead (s : ByteArray) (k n : Int) (S : ByteArray) (g : Int) : Prop :=
  (∀ w, Glob w → Calls Tryd.prog 7 #[.string s] w fun e w' => e = .returned (.tuple #[.agg #[.int .i64 k, .int .i64 n, .string S], .int .i64 g]) ∧ Below w.heap.size w w') ∧
  (∀ w, Calls Tryd.prog 8 #[.string s] w fun e w' => e = .returned (.tuple #[.agg #[.int .i64 k, .int .i64 n, .string S], .int .i64 g]) ∧ Below w.heap.size w w')
theorem both_read (s : ByteArray) (hmax : s.size ≤ 1000000) : ∃ k n S g, BothRead s k n S g := by
  by_cases h : ∃ k n S, IsV k n S ∧ I64 n ∧ s = textS k n S
  · obtain ⟨k, n, S, hv, hI, rfl⟩ := h
    exact ⟨k, n, S, 0, fun w G => read_own k n S w hv hI G, fun w => rread_own k n S w hv hI⟩
  · have hno : ∀ k n S, IsV k n S → I64 n → s ≠ textS k n S := fun k n S hv hI e => h ⟨k, n, S, hv, hI, e⟩
    exact ⟨0, 0, ⟨#[]⟩, 10, fun w G => read_none s w hmax hno G, fun w => rread_none s w hmax hno⟩

/-- At most 900 bytes are looked at. -/
def cutR (s : ByteArray) : ByteArray := if s.size ≤ 900 then s else s.extract 0 900
theorem cutR_size (s : ByteArray) : (cutR s).size ≤ 900 := by
  unfold cutR
  split
  · assumption
  · rw [ByteArray.size_extract]; omega

set_option maxHeartbeats 1000000 in
set_option maxRecDepth 100000 in
theorem reads (s : ByteArray) (w : World) (hm : s.size ≤ maxLen) (G : Glob w) :
    Calls Tryd.prog 3 #[.string s] w fun e w' => e = .returned (.bool true) ∧ Below w.heap.size w w' := by
  unfold maxLen at hm
  obtain ⟨k, n, S, g, hB⟩ := both_read (cutR s) (by have := cutR_size s; omega)
  obtain ⟨D, hD⟩ : ∃ D, D = cutR s := ⟨_, rfl⟩
  have H1 := Lib.hid hB.1
  have H2 := Lib.hid hB.2
  have HD := Lib.hid hD
  rw [← hD] at H1 H2
  clear hB hD
  go_enter Tryd.func3, Tryd.ntmps3
  go_upto_if 9 with fail
  go_cut [0] (fun x wx => x = .string D ∧ wx = w)
  case first =>
    by_cases h : s.size ≤ 900
    · have h' : (s.size : Int) ≤ 900 := by omega
      have e1 : Hid (D = s) := Lib.hid (by rw [HD.out]; unfold cutR; rw [if_pos h])
      go_wp2_with fail
      go_meet
      exact ⟨by rw [e1.out], rfl⟩
    · have h' : (900 : Int) < (s.size : Int) := by omega
      have e1 : Hid (D = s.extract 0 900) := Lib.hid (by rw [HD.out]; unfold cutR; rw [if_neg h])
      go_wp2_with fail
      go_meet
      exact ⟨by rw [e1.out], rfl⟩
  case rest =>
    obtain ⟨rfl, rfl⟩ := hcut
    go_wp2_with fail
    refine (H1.out _ G).mono ?_
    rintro e w1 ⟨rfl, hb1⟩
    go_wp2_with fail
    refine (H2.out _).mono ?_
    rintro e w2 ⟨rfl, hb2⟩
    have hz1 := hb1.size
    have hz2 : w1.heap.size + 1 ≤ w2.heap.size := by have := hb2.size; simpa using this
    have K1 : Cells3 w2 w1.heap.size (.int .i64 k) (.int .i64 n) (.string S) := (Cells3.new w1 _ _ _ 24).keep hb2 (by simp)
    have K2 : Cells3 (w2.alloc (.cells #[.int .i64 k, .int .i64 n, .string S] 24)) w1.heap.size (.int .i64 k) (.int .i64 n) (.string S) := K1.keep (below_box _ _) (by omega)
    obtain ⟨c0, c1, c2⟩ := K1
    obtain ⟨d0, d1, d2⟩ := K2
    have hB2 : Below wc.heap.size wc w2 := hb1.trans ((below_then hb2).mono (by omega))
    have G2 := (G.below hB2).below (below_box w2 (.cells #[.int .i64 k, .int .i64 n, .string S] 24))
    go_wp2_with (go_at_call 9; refine (alive_true _ G2).mono ?_; rintro e w5 ⟨rfl, hb5⟩)
    all_goals (go_ret; exact ⟨by simp, hB2.trans ((below_then hb5).mono (by omega))⟩)

open Go.ChangeShapes Go.WideShapes Go.ChangeAt
set_option maxRecDepth 100000 in
theorem lifted_reads (os : Os) (started : os.Started) (H : Type) (enc : TypeId × Value → H) :
    ReturnsInHanded {} Tryd.checked os 3 .any (fun w args => (Rows.valueReadsSpec.pre enc Tryd.prog Tryd.f3 [] false w args ∧ laidMetH Tryd.prog laid5 w) ∧ sizedMet enc Tryd.prog Tryd.f3 (OpenSpec.ofChange Rows.valueReadsSpec) false w args)
      (Rows.valueReadsSpec.post enc Tryd.prog Tryd.f3 false true false false) := by
  refine returnsInHanded_of_change_and (C := Tryd.checked) (X := fun w _ => laidMetH Tryd.prog laid5 w) (fun _ _ _ hh h => h.of_heap hh) own started (by kernel_rfl) Tryd.func3
    (ChangeSpec.witness_shaped (enc := enc) (C := Tryd.checked) (os := os) (X := fun w _ => laidMetH Tryd.prog laid5 w) false (World.doorLaid Tryd.prog 400 os) #[.string ⟨#[]⟩] 8 rfl (World.shaped_of_RefB (by kernel_rfl) (by kernel_rfl)) (by kernel_rfl) (by kernel_rfl) (by kernel_rfl) (door_met os _)) ?_
  intro W base args ds gs before hval0 hW _ _ hL _
  have hval : ∀ (j : Nat) t v, Tryd.f3.params[j]? = some t → args[j]? = some v → Value.okWide Tryd.prog W .any base t v := hval0
  have hW' := hW
  obtain ⟨p, q, hA0, hV, rfl, hfz, hnd⟩ := hW
  have hA : DataW.TrodAll enc Tryd.prog W 0 (fun _ => true) true Tryd.f3.params.toList args.toList ds p := hA0
  rw [Tryd.params3] at hA hval
  obtain ⟨v0, vs0, d0, ds0, p0, q0, hargs, rfl, rfl, h0, r0⟩ := trodAll_cons hA
  obtain ⟨rfl, rfl, rfl⟩ := trodAll_nil r0
  obtain rfl : args = #[v0] := by cases args; simp_all
  obtain ⟨rfl, rfl⟩ := trodVars_none hV
  have t0 := h0
  have lt0 : ∀ x ∈ p0, x.block < W.heap.size := by obtain ⟨m, hm⟩ := t0; exact DataW.trod_lt m _ _ _ hm
  obtain ⟨s0v, rfl, -, -, iz0⟩ := ChangeMaps.open_string Tryd.underlying9 (hval 0 9 v0 rfl rfl) h0
  clear hA0 hval0
  refine (reads s0v W iz0 (glob_of_laid hL)).mono fun e W' ⟨he, bel⟩ => ?_
  subst he
  exact ⟨_, rfl, _, _, _, [], _, [], hW', trodAll_mk1 (shut_bool Tryd.underlying4 _), (trodAll_cons_mk (Below.trod laidOut (by kernel_rfl) (of_decide_eq_true (by kernel_rfl)) t0 bel lt0) trodAll_mk0), rfl, bel.frame _, fun h => by cases h⟩

theorem holds_reads : Rows.ValueReadsSaid :=
  OpenClaim.holds_of_wide 3 Tryd.f3 rfl rfl rfl rfl rfl rfl rfl ⟨rfl, rfl, rfl, rfl, rfl⟩ rfl rfl rfl rfl rfl (by kernel_rfl) Tryd.func3 (by kernel_rfl)
    (of_decide_eq_true (by kernel_rfl)) (by unfold Func.isWrapper; rw [if_neg (of_decide_eq_false (by kernel_rfl))]; exact ⟨rfl, rfl⟩)
    (fun os started H enc _ => lifted_reads os started H enc)

theorem card_reads : Rows.ValueReadsCardSaid :=
  Claim7.holds_tied_plain_at .later [] Rows.valueReadsCard.laidKinds true Rows.valueReadsCard.stood.harness true
    holds_reads (fun _ h => by cases h) (by kernel_rfl) (fun _ h => by cases h) valueReads_row_tie rfl ⟨rfl, rfl⟩ (by kernel_rfl) rfl
    (fun f fn hf hfn => by
      obtain rfl : f = 3 := Option.some.inj ((show Tryd.prog.funcNamed "pedigree/pedigreelaw01.ValueReads" = some 3 by kernel_rfl).symm.trans hf) |>.symm
      obtain rfl : fn = Tryd.f3 := (Option.some.inj (Tryd.func3.symm.trans hfn)).symm
      exact ⟨by kernel_rfl, fun j t ht => by
        rw [Tryd.params3] at ht
        have hm : t ∈ [9] := by simpa using Array.mem_of_getElem? ht
        have hall : ([9].all fun u => !Tryd.prog.wantsStandIn u) = true := by kernel_rfl
        exact (show Tryd.prog.wantsStandIn t = false by simpa using List.all_eq_true.1 hall t hm)⟩)
    (by kernel_rfl)
#print axioms card_reads

end Go.Proofs.YtgblnkogglagdaaDoor
