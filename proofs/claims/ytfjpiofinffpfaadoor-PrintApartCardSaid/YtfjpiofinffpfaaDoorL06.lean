/-
  Inside of print: lines (De).
  Inside of print: lines (On).
  Inside of print: lines (Ru).
  All that print exports, but Program.
  print.Program at any program of a size.
  Print: what its texts are, line by line; two terms compared.
-/
import Derived.Test.YtfjpiofinffpfaaDoorL05
import Derived.Test.YtfjpiofinffpfaaDoorL04
namespace Go.Proofs.YtfjpiofinffpfaaDoor
section
open Go Go.RowKit Go.Shelf

end
section
open Go Go.RowKit Go.Shelf

end
section
open Go Go.RowKit Go.Shelf

end
section
open Go Go.RowKit Go.Shelf

set_option maxRecDepth 100000 in
set_option maxHeartbeats 4000000 in
theorem pDecl_any (X : DeL) (u : Value) (S : Nat → Prop) (w : World) (hu : RowIn tyY S w u X.types) (hs : SmD X) (G : Glob w) : Calls Tryd.prog 10 #[.agg #[.string ⟨X.name.toArray⟩, .bool X.base, u]] w (SayP (declP X) w) := by
  have H1 : Hid (∀ W, Below w.heap.size w W → Calls Tryd.prog 22 #[.agg #[.string ⟨X.name.toArray⟩, .bool X.base, u]] W (InP 400 (declP X) W)) := Lib.hid (fun W hb => pdecl_text X u S W (hu.in_below hb) hs (G.below hb))
  obtain ⟨pu, cu, rfl⟩ := hu.shape
  generalize declP X = o at *
  clear hu hs G
  have HB := Lib.hid (below_box w (.cells #[.string ⟨X.name.toArray⟩, .bool X.base, .slice pu X.types.length cu] 34))
  go_enter Tryd.func10, Tryd.ntmps10
  go_wp2_with fail
  refine (H1.out _ HB.out).mono ?_
  rintro y w1 ⟨r, b, rfl, g1, g2, g3⟩
  have HE := Lib.hid (And.intro g2 (HB.out.trans (g3.mono HB.out.size)))
  have HY := Lib.hid (answer_yes r w1)
  have HN := Lib.hid (answer_no r w1)
  clear g1 g2 g3
  cases b with
  | false =>
    go_wp2_with fail
    refine HN.out.mono ?_
    rintro y w2 ⟨rfl, rfl⟩
    go_wp2_with fail
    go_ret2
    exact ⟨.inr ⟨HE.out.1, rfl⟩, HE.out.2⟩
  | true =>
    go_wp2_with fail
    refine HY.out.mono ?_
    rintro y w2 ⟨rfl, rfl⟩
    go_wp2_with fail
    go_ret2
    exact ⟨.inl ⟨r, HE.out.1, rfl⟩, HE.out.2⟩
set_option maxRecDepth 100000 in
set_option maxHeartbeats 4000000 in
theorem pOn_any (X : OnL) (u x : Value) (S : Nat → Prop) (w : World) (hu : RowIn paY S w u X.params) (hx : RowIn acY S w x X.acts) (hs : SmO X) (G : Glob w) : Calls Tryd.prog 9 #[.agg #[.string ⟨X.event.toArray⟩, u, x]] w (SayP (onP X) w) := by
  have H1 : Hid (∀ W, Below w.heap.size w W → Calls Tryd.prog 21 #[.agg #[.string ⟨X.event.toArray⟩, u, x]] W (InP 130000 (onP X) W)) := Lib.hid (fun W hb => pon_text X u x S W (hu.in_below hb) (hx.in_below hb) hs (G.below hb))
  obtain ⟨pu, cu, rfl⟩ := hu.shape
  obtain ⟨px, cx, rfl⟩ := hx.shape
  generalize onP X = o at *
  clear hu hx hs G
  have HB := Lib.hid (below_box w (.cells #[.string ⟨X.event.toArray⟩, .slice pu X.params.length cu, .slice px X.acts.length cx] 31))
  go_enter Tryd.func9, Tryd.ntmps9
  go_wp2_with fail
  refine (H1.out _ HB.out).mono ?_
  rintro y w1 ⟨r, b, rfl, g1, g2, g3⟩
  have HE := Lib.hid (And.intro g2 (HB.out.trans (g3.mono HB.out.size)))
  have HY := Lib.hid (answer_yes r w1)
  have HN := Lib.hid (answer_no r w1)
  clear g1 g2 g3
  cases b with
  | false =>
    go_wp2_with fail
    refine HN.out.mono ?_
    rintro y w2 ⟨rfl, rfl⟩
    go_wp2_with fail
    go_ret2
    exact ⟨.inr ⟨HE.out.1, rfl⟩, HE.out.2⟩
  | true =>
    go_wp2_with fail
    refine HY.out.mono ?_
    rintro y w2 ⟨rfl, rfl⟩
    go_wp2_with fail
    go_ret2
    exact ⟨.inl ⟨r, HE.out.1, rfl⟩, HE.out.2⟩
set_option maxRecDepth 100000 in
set_option maxHeartbeats 4000000 in
theorem pRule_any (X : RuL) (u x : Value) (S : Nat → Prop) (w : World) (hu : RowIn tmY S w u X.head.args) (hx : RowIn liY S w x X.body) (hs : SmR X) (G : Glob w) : Calls Tryd.prog 8 #[.agg #[.string ⟨X.head.pred.toArray⟩, u, x]] w (SayP (ruleP X) w) := by
  have H1 : Hid (∀ W, Below w.heap.size w W → Calls Tryd.prog 20 #[.agg #[.string ⟨X.head.pred.toArray⟩, u, x]] W (InP 135000 (ruleP X) W)) := Lib.hid (fun W hb => prule_text X u x S W (hu.in_below hb) (hx.in_below hb) hs (G.below hb))
  obtain ⟨pu, cu, rfl⟩ := hu.shape
  obtain ⟨px, cx, rfl⟩ := hx.shape
  generalize ruleP X = o at *
  clear hu hx hs G
  have HB := Lib.hid (below_box w (.cells #[.string ⟨X.head.pred.toArray⟩, .slice pu X.head.args.length cu, .slice px X.body.length cx] 27))
  go_enter Tryd.func8, Tryd.ntmps8
  go_wp2_with fail
  refine (H1.out _ HB.out).mono ?_
  rintro y w1 ⟨r, b, rfl, g1, g2, g3⟩
  have HE := Lib.hid (And.intro g2 (HB.out.trans (g3.mono HB.out.size)))
  have HY := Lib.hid (answer_yes r w1)
  have HN := Lib.hid (answer_no r w1)
  clear g1 g2 g3
  cases b with
  | false =>
    go_wp2_with fail
    refine HN.out.mono ?_
    rintro y w2 ⟨rfl, rfl⟩
    go_wp2_with fail
    go_ret2
    exact ⟨.inr ⟨HE.out.1, rfl⟩, HE.out.2⟩
  | true =>
    go_wp2_with fail
    refine HY.out.mono ?_
    rintro y w2 ⟨rfl, rfl⟩
    go_wp2_with fail
    go_ret2
    exact ⟨.inl ⟨r, HE.out.1, rfl⟩, HE.out.2⟩
set_option maxRecDepth 100000 in
theorem pName_any (s : ByteArray) (w : World) (hs : s.size ≤ 300) (G : Glob w) : Calls Tryd.prog 14 #[.string s] w fun e w' => e = .returned (.bool (nameB s.data.toList)) ∧ Below w.heap.size w w' := by
  have H1 := Lib.hid (name_any s 300 w (by omega) hs G)
  have HO : Hid (∀ (b : Bool) (r : ByteArray), nameP s.data.toList = (if b = true then some r.data.toList else none) → nameB s.data.toList = b) := Lib.hid (fun b r h => by
    unfold nameP at h
    cases b <;> cases e : nameB s.data.toList
    · rfl
    · rw [e] at h; simp at h
    · rw [e] at h; simp at h
    · rfl)
  generalize nameP s.data.toList = o at *
  clear hs G
  go_enter Tryd.func14, Tryd.ntmps14
  go_wp2_with fail
  refine H1.out.mono ?_
  rintro y w1 ⟨r, b, rfl, g1, g2, g3⟩
  have HE := Lib.hid (And.intro (HO.out b r g2) g3)
  clear g1 g2 g3
  go_wp2_with fail
  go_ret
  rw [HE.out.1]
  exact ⟨rfl, HE.out.2⟩
set_option maxRecDepth 100000 in
theorem pVar_any (s : ByteArray) (w : World) (hs : s.size ≤ 300) (G : Glob w) : Calls Tryd.prog 15 #[.string s] w fun e w' => e = .returned (.bool (varB s.data.toList)) ∧ Below w.heap.size w w' := by
  have H1 := Lib.hid (variable_any s 300 w (by omega) hs G)
  have HO : Hid (∀ (b : Bool) (r : ByteArray), varP s.data.toList = (if b = true then some r.data.toList else none) → varB s.data.toList = b) := Lib.hid (fun b r h => by
    unfold varP at h
    cases b <;> cases e : varB s.data.toList
    · rfl
    · rw [e] at h; simp at h
    · rw [e] at h; simp at h
    · rfl)
  generalize varP s.data.toList = o at *
  clear hs G
  go_enter Tryd.func15, Tryd.ntmps15
  go_wp2_with fail
  refine H1.out.mono ?_
  rintro y w1 ⟨r, b, rfl, g1, g2, g3⟩
  have HE := Lib.hid (And.intro (HO.out b r g2) g3)
  clear g1 g2 g3
  go_wp2_with fail
  go_ret
  rw [HE.out.1]
  exact ⟨rfl, HE.out.2⟩
end
section
open Go Go.RowKit Go.Shelf

structure SmP (p : PrL) : Prop where
  dfew : p.decls.length ≤ 7000
  ds : ∀ X ∈ p.decls, SmD X
  ofew : p.ons.length ≤ 8
  os : ∀ X ∈ p.ons, SmO X
  rfew : p.rules.length ≤ 12
  rs : ∀ X ∈ p.rules, SmR X
/-- The answer at a program: its text, none, or too long. -/
def SayL (o : Option (List UInt8)) (w : World) (e : Ending) (w' : World) : Prop :=
  ((∃ s : ByteArray, o = some s.data.toList ∧ s.size ≤ 65536 ∧ e = .returned (.tuple #[.string s, .int .i64 0])) ∨ (∃ s : ByteArray, o = some s.data.toList ∧ 65536 < s.size ∧ e = .returned (.tuple #[.string ⟨#[]⟩, .int .i64 2])) ∨ (o = none ∧ e = .returned (.tuple #[.string ⟨#[]⟩, .int .i64 140]))) ∧ Below w.heap.size w w'
end
section
open Go Go.RowKit Go.Shelf

theorem barr_eq {a b : ByteArray} : a = b ↔ a.toList = b.toList := by
  constructor
  · intro h; rw [h]
  · intro h
    rw [Lib.toList_data, Lib.toList_data] at h
    obtain ⟨x⟩ := a
    obtain ⟨y⟩ := b
    have : x = y := Array.toList_inj.1 h
    rw [this]
/-- Two terms compared. -/
theorem neqTT_run (x y : TmL) : ∃ b : Bool, (b = true ↔ x = y) ∧ (∀ W : World, (binOp .neq 53 (valT x) (valT y)).run Tryd.prog W = .ok (.bool (!b)) W) ∧ ∀ W : World, (binOp .eql 53 (valT x) (valT y)).run Tryd.prog W = .ok (.bool b) W := by
  obtain ⟨k, n, a, b, c⟩ := x
  obtain ⟨k', n', a', b', c'⟩ := y
  refine ⟨k == k' && (n == n' && (a == a' && (b == b' && c.toList == c'.toList))), ?_, fun W => ?_, fun W => ?_⟩
  · simp [barr_eq]
  · rw [run_neq_struct]
    simp [go_sem]
    by_cases h0 : k = k'
    · by_cases h1 : n = n'
      · by_cases h2 : a = a'
        · by_cases h3 : b = b'
          · by_cases h4 : c.toList = c'.toList
            · simp [h0, h1, h2, h3, h4]
            · simp [h0, h1, h2, h3, h4]
          · simp [h0, h1, h2, h3]
        · simp [h0, h1, h2]
      · simp [h0, h1]
    · simp [h0]
  · rw [run_eql_struct]
    simp [go_sem]
    by_cases h0 : k = k'
    · by_cases h1 : n = n'
      · by_cases h2 : a = a'
        · by_cases h3 : b = b'
          · by_cases h4 : c.toList = c'.toList
            · simp [h0, h1, h2, h3, h4]
            · simp [h0, h1, h2, h3, h4]
          · simp [h0, h1, h2, h3]
        · simp [h0, h1, h2]
      · simp [h0, h1]
    · simp [h0]
noncomputable def clP : DeL ⊕ (OnL ⊕ RuL) → Option (List UInt8)
  | .inl d => declP d
  | .inr (.inl o) => onP o
  | .inr (.inr r) => ruleP r
def allC (p : PrL) : List (DeL ⊕ (OnL ⊕ RuL)) := p.decls.map .inl ++ (p.ons.map (fun o => .inr (.inl o)) ++ p.rules.map (fun r => .inr (.inr r)))
theorem joinS_flat : ∀ ts : List (List UInt8), joinS [] ts = ts.flatten
  | [] => rfl
  | t :: ts => by
    rw [joinS, List.flatten_cons]
    by_cases h : ts = []
    · rw [if_pos h, h]; rfl
    · rw [if_neg h, joinS_flat ts]; rfl
theorem allO_append : ∀ a b : List (Option (List UInt8)), allO (a ++ b) = match allO a, allO b with | some x, some y => some (x ++ y) | _, _ => none
  | [], b => by cases h : allO b <;> simp [allO, h]
  | none :: a, b => by simp [allO]
  | some x :: a, b => by
    rw [List.cons_append]
    simp only [allO, allO_append a b]
    cases allO a <;> cases allO b <;> rfl
theorem allO_lines {α : Type} (P : α → Option (List UInt8)) : ∀ L : List α, allO (L.map (lineP P)) = (allO (L.map P)).map (List.map (· ++ [10]))
  | [] => rfl
  | x :: L => by
    simp only [List.map_cons]
    have h : lineP P x = (P x).map (· ++ [10]) := rfl
    rw [h]
    cases P x with
    | none => rfl
    | some t =>
      simp only [Option.map_some, allO, allO_lines P L]
      cases allO (L.map P) <;> rfl
/-- Texts, a line each. -/
def flatL (ts : List (List UInt8)) : List UInt8 := (ts.map (· ++ [10])).flatten
theorem linesP_flat {α : Type} (P : α → Option (List UInt8)) (L : List α) : linesP P L = (allO (L.map P)).map flatL := by
  unfold linesP rowP
  rw [allO_lines]
  cases allO (L.map P) with
  | none => rfl
  | some ts => simp [joinS_flat, flatL]
theorem progP_all (p : PrL) : progP p = (allO ((allC p).map clP)).map flatL := by
  unfold progP allC
  rw [linesP_flat, linesP_flat, linesP_flat, List.map_append, List.map_append, allO_append, allO_append, List.map_map, List.map_map, List.map_map]
  rw [show (clP ∘ Sum.inl) = declP from rfl, show (clP ∘ fun o => Sum.inr (Sum.inl o)) = onP from rfl, show (clP ∘ fun r => Sum.inr (Sum.inr r)) = ruleP from rfl]
  cases allO (p.decls.map declP) <;> cases allO (p.ons.map onP) <;> cases allO (p.rules.map ruleP) <;> simp [two, flatL]
end
end Go.Proofs.YtfjpiofinffpfaaDoor
