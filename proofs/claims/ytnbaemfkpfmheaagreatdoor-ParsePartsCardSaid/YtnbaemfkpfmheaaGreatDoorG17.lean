/-
  What a text says, as one answer; the walk of the law ParseParts.
  For every input the law ParseParts returns true and leaves its arguments as they were.
  Conditions: those that the row and its tied card print; none of the proof's own.
-/
import Derived.Test.YtnbaemfkpfmheaaGreatDoorG12
import Derived.Test.YtnbaemfkpfmheaaGreatDoorG10
import Derived.Test.YtnbaemfkpfmheaaGreatDoorG09
import Derived.Test.YtnbaemfkpfmheaaGreatDoorG16
import Derived.Test.YtnbaemfkpfmheaaGreatDoorTie
import Derived.Test.YtnbaemfkpfmheaaGreatDoorCards
namespace Go.Proofs.YtnbaemfkpfmheaaGreatDoor
section
open Go Go.RowKit Go.Shelf

set_option maxRecDepth 100000 in
theorem pcut_any (s : ByteArray) (w : World) (hm : s.size ≤ maxLen) : ∃ C : ByteArray, (C.size ≤ 1500 ∨ 65536 < C.size ∧ C.size ≤ maxLen) ∧ Calls Tryz.prog 6 #[.string s] w fun e w' => e = .returned (.string C) ∧ w = w' := by
  unfold maxLen at hm
  by_cases h1 : 1500 < s.size
  · have h1' : (1500 : Int) < (s.size : Int) := by omega
    by_cases h2 : s.size ≤ 65536
    · have h2' : (s.size : Int) ≤ 65536 := by omega
      have h3 : (1500 : Int) ≤ (s.size : Int) := by omega
      refine ⟨s.extract 0 1500, .inl (by rw [ByteArray.size_extract]; omega), ?_⟩
      go_enter Tryz.func6, Tryz.ntmps6
      go_wp2_with fail
      go_ret
      exact ⟨rfl, rfl⟩
    · have h2' : ¬ (s.size : Int) ≤ 65536 := by omega
      refine ⟨s, .inr ⟨by omega, hm⟩, ?_⟩
      go_enter Tryz.func6, Tryz.ntmps6
      go_wp2_with fail
      go_ret
      exact ⟨rfl, rfl⟩
  · have h1' : ¬ (1500 : Int) < (s.size : Int) := by omega
    refine ⟨s, .inl (by omega), ?_⟩
    go_enter Tryz.func6, Tryz.ntmps6
    go_wp2_with fail
    go_ret
    exact ⟨rfl, rfl⟩
section
variable {α : Type}
noncomputable def saA (p : Rd α) (d : α) (s : ByteArray) : α := if 65536 < s.size then d else match sayOf valL p s.data.toList with | .ok a => a | _ => d
noncomputable def saI (p : Rd α) (s : ByteArray) : Nat := if 65536 < s.size then 0 else match sayOf valL p s.data.toList with | .ok _ => 0 | .bad n => n | .lex n => n
noncomputable def saN (p : Rd α) (s : ByteArray) : Int := if 65536 < s.size then 2 else match sayOf valL p s.data.toList with | .ok _ => 0 | .bad _ => 130 | .lex _ => 120
theorem SayEnd.one {p : Rd α} {T : (Nat → Prop) → World → Value → α → Prop} {z : Value} {s : ByteArray} {w w' : World} {x : Ending} (h : SayEnd p T z s w x w') (d : α) (hz : ∀ S w, T S w z d) :
    ∃ v, x = .returned (.tuple #[v, .int .i64 (saI p s), .int .i64 (saN p s)]) ∧ T (fun k => w.heap.size ≤ k) w' v (saA p d s) ∧ Below w.heap.size w w' := by
  obtain ⟨hb, ⟨hs, a, v, e, rfl, hv⟩ | ⟨hs, n, e, rfl⟩ | ⟨hs, n, e, rfl⟩ | ⟨hl, rfl⟩⟩ := h
  · exact ⟨v, by unfold saI saN; rw [if_neg (by omega), if_neg (by omega), e]; rfl, by unfold saA; rw [if_neg (by omega), e]; exact hv, hb⟩
  · exact ⟨z, by unfold saI saN; rw [if_neg (by omega), if_neg (by omega), e], by unfold saA; rw [if_neg (by omega), e]; exact hz _ _, hb⟩
  · exact ⟨z, by unfold saI saN; rw [if_neg (by omega), if_neg (by omega), e], by unfold saA; rw [if_neg (by omega), e]; exact hz _ _, hb⟩
  · exact ⟨z, by unfold saI saN; rw [if_pos hl, if_pos hl]; rfl, by unfold saA; rw [if_pos hl]; exact hz _ _, hb⟩
end
theorem box_on {W W' : World} {k : Nat} {o : Obj} (h : W.heap[k]? = some o) (hb : Below W.heap.size W W') : W'.heap[k]? = some o := (hb.block k (Array.getElem?_eq_some_iff.1 h).1).trans h
theorem box_al {W : World} {k : Nat} {o : Obj} (h : W.heap[k]? = some o) (o' : Obj) : (W.alloc o').heap[k]? = some o := box_on h ((Below.refl _ W).alloc (Nat.le_refl _) o')
theorem below_al {w W : World} (h : Below w.heap.size w W) (o : Obj) : Below w.heap.size w (W.alloc o) := h.alloc h.size o
theorem below_tr {w W W' : World} (h : Below w.heap.size w W) (h' : Below W.heap.size W W') : Below w.heap.size w W' := h.trans (h'.mono h.size)
set_option maxRecDepth 100000 in
set_option maxHeartbeats 4000000 in
theorem parseParts_walk (s : ByteArray) (w : World) (hm : s.size ≤ maxLen) (G : Glob w) :
    Calls Tryz.prog 4 #[.string s] w fun e w' => e = .returned (.bool true) ∧ Below w.heap.size w w' := by
  obtain ⟨C, -, hC⟩ := pcut_any s w hm
  have HC := Lib.hid hC
  have HG := Lib.hid G
  clear hC G hm
  obtain ⟨I, hI⟩ : ∃ I : Int, I = (saI ruleR C : Int) := ⟨_, rfl⟩
  obtain ⟨N, hN⟩ : ∃ N, N = saN ruleR C := ⟨_, rfl⟩
  obtain ⟨R, hR⟩ : ∃ R, R = saA ruleR ⟨⟨[], []⟩, []⟩ C := ⟨_, rfl⟩
  obtain ⟨J, hJ⟩ : ∃ I : Int, I = (saI atomR C : Int) := ⟨_, rfl⟩
  obtain ⟨M, hM⟩ : ∃ N, N = saN atomR C := ⟨_, rfl⟩
  obtain ⟨A, hA⟩ : ∃ A, A = saA atomR ⟨[], []⟩ C := ⟨_, rfl⟩
  have H1 : Hid (∀ W, Below w.heap.size w W → Calls Tryz.prog 11 #[.string C] W fun x w' => ∃ pn p m c q n d, x = .returned (.tuple #[.agg #[.string pn, .slice p m c, .slice q n d], .int .i64 I, .int .i64 N]) ∧ pn = ⟨R.head.pred.toArray⟩ ∧ RowIn tmY (fun k => W.heap.size ≤ k) w' (.slice p m c) R.head.args ∧ RowIn liY (fun k => W.heap.size ≤ k) w' (.slice q n d) R.body ∧ Below W.heap.size W w') := Lib.hid (fun W hb => (parseRule_any C W (HG.out.below hb)).mono fun x w' h => by
    obtain ⟨v, rfl, ⟨u, x, rfl, h1, h2⟩, h3⟩ := h.one ⟨⟨[], []⟩, []⟩ (fun S w => ⟨_, _, rfl, RowIn.nil _ _ _, RowIn.nil _ _ _⟩)
    rw [← hR] at h1 h2
    obtain ⟨p, c, rfl⟩ := RowIn.shapeQ h1
    obtain ⟨q, d, rfl⟩ := RowIn.shapeQ h2
    exact ⟨_, p, _, c, q, _, d, by rw [hI, hN, hR], rfl, h1, h2, h3⟩)
  have H2 : Hid (∀ W, Calls Tryz.prog 12 #[.string C] W fun x w' => ∃ pn p m c q n d, x = .returned (.tuple #[.agg #[.string pn, .slice p m c, .slice q n d], .int .i64 I, .int .i64 N]) ∧ pn = ⟨R.head.pred.toArray⟩ ∧ RowIn tmY (fun k => W.heap.size ≤ k) w' (.slice p m c) R.head.args ∧ RowIn liY (fun k => W.heap.size ≤ k) w' (.slice q n d) R.body ∧ Below W.heap.size W w') := Lib.hid (fun W => (qRule_any C W).mono fun x w' h => by
    obtain ⟨v, rfl, ⟨u, x, rfl, h1, h2⟩, h3⟩ := h.one ⟨⟨[], []⟩, []⟩ (fun S w => ⟨_, _, rfl, RowIn.nil _ _ _, RowIn.nil _ _ _⟩)
    rw [← hR] at h1 h2
    obtain ⟨p, c, rfl⟩ := RowIn.shapeQ h1
    obtain ⟨q, d, rfl⟩ := RowIn.shapeQ h2
    exact ⟨_, p, _, c, q, _, d, by rw [hI, hN, hR], rfl, h1, h2, h3⟩)
  have H3 : Hid (∀ W, Below w.heap.size w W → Calls Tryz.prog 13 #[.string C] W fun x w' => ∃ pn p m c, x = .returned (.tuple #[.agg #[.string pn, .slice p m c], .int .i64 J, .int .i64 M]) ∧ pn = ⟨A.pred.toArray⟩ ∧ RowIn tmY (fun k => W.heap.size ≤ k) w' (.slice p m c) A.args ∧ Below W.heap.size W w') := Lib.hid (fun W hb => (parseAtom_any C W (HG.out.below hb)).mono fun x w' h => by
    obtain ⟨v, rfl, ⟨u, rfl, h1⟩, h3⟩ := h.one ⟨[], []⟩ (fun S w => ⟨_, rfl, RowIn.nil _ _ _⟩)
    rw [← hA] at h1
    obtain ⟨p, c, rfl⟩ := RowIn.shapeQ h1
    exact ⟨_, p, _, c, by rw [hJ, hM, hA], rfl, h1, h3⟩)
  have H4 : Hid (∀ W, Calls Tryz.prog 14 #[.string C] W fun x w' => ∃ pn p m c, x = .returned (.tuple #[.agg #[.string pn, .slice p m c], .int .i64 J, .int .i64 M]) ∧ pn = ⟨A.pred.toArray⟩ ∧ RowIn tmY (fun k => W.heap.size ≤ k) w' (.slice p m c) A.args ∧ Below W.heap.size W w') := Lib.hid (fun W => (qAtom_any C W).mono fun x w' h => by
    obtain ⟨v, rfl, ⟨u, rfl, h1⟩, h3⟩ := h.one ⟨[], []⟩ (fun S w => ⟨_, rfl, RowIn.nil _ _ _⟩)
    rw [← hA] at h1
    obtain ⟨p, c, rfl⟩ := RowIn.shapeQ h1
    exact ⟨_, p, _, c, by rw [hJ, hM, hA], rfl, h1, h3⟩)
  clear hI hN hR hJ hM hA
  go_enter Tryz.func4, Tryz.ntmps4
  go_wp2_with fail
  refine HC.out.mono ?_
  rintro y w0 ⟨rfl, rfl⟩
  go_wp2_with fail
  refine (H1.out w (Below.refl _ _)).mono ?_
  rintro y w1 ⟨pn1, p1, m1, c1, q1, n1, d1, rfl, e1, r1, l1, b1⟩
  have X1 := Lib.hid (And.intro e1 (And.intro r1 (And.intro l1 b1)))
  clear e1 r1 l1 b1
  go_wp2_with fail
  refine (H2.out _).mono ?_
  rintro y w2 ⟨pn2, p2, m2, c2, q2, n2, d2, rfl, e2, r2, l2, b2⟩
  have X2 := Lib.hid (And.intro e2 (And.intro r2 (And.intro l2 b2)))
  clear e2 r2 l2 b2
  go_wp2_with fail
  have B2 := Lib.hid (below_tr (below_al X1.out.2.2.2 (.cells #[.string pn1, .slice p1 m1 c1, .slice q1 n1 d1] 41)) X2.out.2.2.2)
  refine (H3.out _ (below_al B2.out (.cells #[.string pn2, .slice p2 m2 c2, .slice q2 n2 d2] 41))).mono ?_
  rintro y w3 ⟨pn3, p3, m3, c3, rfl, e3, r3, b3⟩
  have X3 := Lib.hid (And.intro e3 (And.intro r3 b3))
  clear e3 r3 b3
  go_wp2_with fail
  refine (H4.out _).mono ?_
  rintro y w4 ⟨pn4, p4, m4, c4, rfl, e4, r4, b4⟩
  have X4 := Lib.hid (And.intro e4 (And.intro r4 b4))
  clear e4 r4 b4
  have B3 := Lib.hid (below_tr (below_al B2.out (.cells #[.string pn2, .slice p2 m2 c2, .slice q2 n2 d2] 41)) X3.out.2.2)
  have B4 := Lib.hid (below_tr (below_al B3.out (.cells #[.string pn3, .slice p3 m3 c3] 38)) X4.out.2.2)
  have K1 := Lib.hid (box_on (box_al (box_on (box_al (box_on (heap_alloc_new w1 (.cells #[.string pn1, .slice p1 m1 c1, .slice q1 n1 d1] 41)) X2.out.2.2.2) (.cells #[.string pn2, .slice p2 m2 c2, .slice q2 n2 d2] 41)) X3.out.2.2) (.cells #[.string pn3, .slice p3 m3 c3] 38)) X4.out.2.2)
  have K2 := Lib.hid (box_on (box_al (box_on (heap_alloc_new w2 (.cells #[.string pn2, .slice p2 m2 c2, .slice q2 n2 d2] 41)) X3.out.2.2) (.cells #[.string pn3, .slice p3 m3 c3] 38)) X4.out.2.2)
  have K3 := Lib.hid (box_al (box_on (heap_alloc_new w3 (.cells #[.string pn3, .slice p3 m3 c3] 38)) X4.out.2.2) (.cells #[.string pn4, .slice p4 m4 c4] 38))
  have K4 := Lib.hid (heap_alloc_new w4 (.cells #[.string pn4, .slice p4 m4 c4] 38))
  have C4 : Hid (Below w3.heap.size w3 (w4.alloc (.cells #[.string pn4, .slice p4 m4 c4] 38))) := Lib.hid (below_al (below_tr (below_al (Below.refl _ w3) (.cells #[.string pn3, .slice p3 m3 c3] 38)) X4.out.2.2) _)
  have C3 : Hid (Below w2.heap.size w2 (w4.alloc (.cells #[.string pn4, .slice p4 m4 c4] 38))) := Lib.hid (below_tr (below_tr (below_al (Below.refl _ w2) (.cells #[.string pn2, .slice p2 m2 c2, .slice q2 n2 d2] 41)) X3.out.2.2) C4.out)
  have C2 : Hid (Below w1.heap.size w1 (w4.alloc (.cells #[.string pn4, .slice p4 m4 c4] 38))) := Lib.hid (below_tr (below_tr (below_al (Below.refl _ w1) (.cells #[.string pn1, .slice p1 m1 c1, .slice q1 n1 d1] 41)) X2.out.2.2.2) C3.out)
  have HW : Hid (Below w4.heap.size w4 (w4.alloc (.cells #[.string pn4, .slice p4 m4 c4] 38))) := Lib.hid (below_al (Below.refl _ w4) _)
  have HBo : Hid (Below w.heap.size w (w4.alloc (.cells #[.string pn4, .slice p4 m4 c4] 38))) := Lib.hid (below_al B4.out _)
  have S1 : Hid (Calls Tryz.prog 15 #[.agg #[.string pn1, .slice p1 m1 c1, .slice q1 n1 d1], .agg #[.string pn2, .slice p2 m2 c2, .slice q2 n2 d2]] (w4.alloc (.cells #[.string pn4, .slice p4 m4 c4] 38)) fun e w' => e = .returned (.bool true) ∧ Below (w4.alloc (.cells #[.string pn4, .slice p4 m4 c4] 38)).heap.size (w4.alloc (.cells #[.string pn4, .slice p4 m4 c4] 38)) w') := Lib.hid (by
    rw [X1.out.1, X2.out.1]
    exact rsamerule_yes (X1.out.2.1.in_below C2.out) (X2.out.2.1.in_below C3.out) (X1.out.2.2.1.in_below C2.out) (X2.out.2.2.1.in_below C3.out))
  have S2 : Hid (∀ W, Below (w4.alloc (.cells #[.string pn4, .slice p4 m4 c4] 38)).heap.size (w4.alloc (.cells #[.string pn4, .slice p4 m4 c4] 38)) W → Calls Tryz.prog 16 #[.agg #[.string pn3, .slice p3 m3 c3], .agg #[.string pn4, .slice p4 m4 c4]] W fun e w' => e = .returned (.bool true) ∧ Below W.heap.size W w') := Lib.hid (by
    intro W hb
    rw [X3.out.1, X4.out.1]
    exact rsameatom_yes (X3.out.2.1.in_below (below_tr C4.out hb)) (X4.out.2.1.in_below (below_tr HW.out hb)))
  obtain ⟨⟨x0, x1, x2⟩, -⟩ := cellsQ3 K1.out
  obtain ⟨⟨y0, y1, y2⟩, -⟩ := cellsQ3 K2.out
  have hz1 : w1.heap.size < w4.heap.size := (Array.getElem?_eq_some_iff.1 K1.out).1
  have hz2 : w2.heap.size < w4.heap.size := (Array.getElem?_eq_some_iff.1 K2.out).1
  go_wp2_with fail
  refine S1.out.mono ?_
  rintro y w6 ⟨rfl, b6⟩
  have B6 := Lib.hid b6
  obtain ⟨⟨u0, u1⟩, -⟩ := cells2 (box_on K3.out b6)
  obtain ⟨⟨v0, v1⟩, -⟩ := cells2 (box_on K4.out b6)
  clear b6 x0 x1 x2 y0 y1 y2 hz1 hz2
  have eI : (I == I) = true := by simp
  have eN : (N == N) = true := by simp
  have eJ : (J == J) = true := by simp
  have eM : (M == M) = true := by simp
  go_wp2_with fail
  refine (S2.out w6 B6.out).mono ?_
  rintro y w7 ⟨rfl, b7⟩
  have B7 := Lib.hid (below_tr (below_tr HBo.out B6.out) b7)
  clear b7 u0 u1 v0 v1
  go_wp2_with fail
  refine (alive_any w7 (HG.out.below B7.out)).mono ?_
  rintro y w8 ⟨rfl, b8⟩
  have B8 := Lib.hid (below_tr B7.out b8)
  clear b8
  go_wp2_with fail
  go_ret
  exact ⟨rfl, B8.out⟩
end
section
open Go Go.RowKit

open Go.ChangeShapes Go.WideShapes Go.ChangeAt
set_option maxRecDepth 100000 in
theorem lifted_parseParts_walk (os : Os) (started : os.Started) (H : Type) (enc : TypeId × Value → H) :
    ReturnsInHanded {} Tryz.checked os 4 .any (fun w args => (Rows.parsePartsSpec.pre enc Tryz.prog Tryz.f4 [] false w args ∧ laidMetH Tryz.prog laid6 w) ∧ sizedMet enc Tryz.prog Tryz.f4 (OpenSpec.ofChange Rows.parsePartsSpec) false w args)
      (Rows.parsePartsSpec.post enc Tryz.prog Tryz.f4 false true false false) := by
  refine returnsInHanded_of_change_and (C := Tryz.checked) (X := fun w _ => laidMetH Tryz.prog laid6 w) (fun _ _ _ hh h => h.of_heap hh) own started (by kernel_rfl) Tryz.func4
    (ChangeSpec.witness_shaped (enc := enc) (C := Tryz.checked) (os := os) (X := fun w _ => laidMetH Tryz.prog laid6 w) false (World.doorLaid Tryz.prog 400 os) #[.string ⟨#[]⟩] 8 rfl (World.shaped_of_RefB (by kernel_rfl) (by kernel_rfl)) (by kernel_rfl) (by kernel_rfl) (by kernel_rfl) (door_met os _)) ?_
  intro W base args ds gs before hval0 hW _ _ hL _
  have hval : ∀ (j : Nat) t v, Tryz.f4.params[j]? = some t → args[j]? = some v → Value.okWide Tryz.prog W .any base t v := hval0
  have hW' := hW
  obtain ⟨p, q, hA0, hV, rfl, hfz, hnd⟩ := hW
  have hA : DataW.TrodAll enc Tryz.prog W 0 (fun _ => true) true Tryz.f4.params.toList args.toList ds p := hA0
  rw [Tryz.params4] at hA hval
  obtain ⟨v0, vs0, d0, ds0, p0, q0, hargs, rfl, rfl, h0, r0⟩ := trodAll_cons hA
  obtain ⟨rfl, rfl, rfl⟩ := trodAll_nil r0
  obtain rfl : args = #[v0] := by cases args; simp_all
  obtain ⟨rfl, rfl⟩ := trodVars_none hV
  have t0 := h0
  have lt0 : ∀ x ∈ p0, x.block < W.heap.size := by obtain ⟨m, hm⟩ := t0; exact DataW.trod_lt m _ _ _ hm
  obtain ⟨s0v, rfl, -, -, iz0⟩ := ChangeMaps.open_string Tryz.underlying9 (hval 0 9 v0 rfl rfl) h0
  clear hA0 hval0
  refine (parseParts_walk s0v W iz0 (glob_of_laid hL)).mono fun e W' ⟨he, bel⟩ => ?_
  subst he
  exact ⟨_, rfl, _, _, _, [], _, [], hW', trodAll_mk1 (shut_bool Tryz.underlying4 _), (trodAll_cons_mk (Below.trod laidOut (by kernel_rfl) (of_decide_eq_true (by kernel_rfl)) t0 bel lt0) trodAll_mk0), rfl, bel.frame _, fun h => by cases h⟩

theorem holds_parseParts_walk : Rows.ParsePartsSaid :=
  OpenClaim.holds_of_wide 4 Tryz.f4 rfl rfl rfl rfl rfl rfl rfl ⟨rfl, rfl, rfl, rfl, rfl⟩ rfl rfl rfl rfl rfl (by kernel_rfl) Tryz.func4 (by kernel_rfl)
    (of_decide_eq_true (by kernel_rfl)) (by unfold Func.isWrapper; rw [if_neg (of_decide_eq_false (by kernel_rfl))]; exact ⟨rfl, rfl⟩)
    (fun os started H enc _ => lifted_parseParts_walk os started H enc)

theorem card_parseParts_walk : Rows.ParsePartsCardSaid :=
  Claim7.holds_tied_plain_at .later [] Rows.parsePartsCard.laidKinds true Rows.parsePartsCard.stood.harness Rows.parsePartsCard.stood.looks
    holds_parseParts_walk (fun _ h => by cases h) (by kernel_rfl) (fun _ h => by cases h) parseParts_row_tie rfl ⟨rfl, rfl⟩ (by kernel_rfl) rfl
    (fun f fn hf hfn => by
      obtain rfl : f = 4 := Option.some.inj ((show Tryz.prog.funcNamed "pedigree/pedigreelaw13.ParseParts" = some 4 by kernel_rfl).symm.trans hf) |>.symm
      obtain rfl : fn = Tryz.f4 := (Option.some.inj (Tryz.func4.symm.trans hfn)).symm
      exact ⟨by kernel_rfl, fun j t ht => by
        rw [Tryz.params4] at ht
        have hm : t ∈ [9] := by simpa using Array.mem_of_getElem? ht
        have hall : ([9].all fun u => !Tryz.prog.wantsStandIn u) = true := by kernel_rfl
        exact (show Tryz.prog.wantsStandIn t = false by simpa using List.all_eq_true.1 hall t hm)⟩)
    (by kernel_rfl)
#print axioms card_parseParts_walk

end
end Go.Proofs.YtnbaemfkpfmheaaGreatDoor
