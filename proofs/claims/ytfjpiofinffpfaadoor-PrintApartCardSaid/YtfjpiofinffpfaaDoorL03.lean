/-
  The contract of the builder's WriteString.
  What print writes: the text of each part, or that there is none. No function is named here.
  What a part is answered inside of print; words, names and variables, and the answer told outside.
  Inside of print: names, variables, types, signs, terms, comparisons.
  Inside of print: terms and comparisons.
  What the loop of print's join keeps.
-/
import Derived.Test.YtfjpiofinffpfaaDoorLxW
import Derived.Test.YtfjpiofinffpfaaDoorShelfL
import Derived.Shelf.Strings.BuilderX
import Derived.Lib.Builder
import Derived.Lib.AppendStr
import Derived.Lib.UnsafeStr
import Derived.Lib.Walk
import Derived.Laws.Externs
import Derived.Test.YtfjpiofinffpfaaDoorLxV
import Derived.Test.YtfjpiofinffpfaaDoorL02
import Derived.Test.YtfjpiofinffpfaaDoorLxH
import Derived.Test.YtfjpiofinffpfaaDoorRead
import Derived.BigQuiet
import Derived.Laws.Unary
namespace Go.Proofs.YtfjpiofinffpfaaDoor
section
open Go Go.RowKit

theorem bsize : (Tryd.prog.info? 104).map (·.size) = some 2 := by kernel_rfl
theorem blies : liesAt Tryd.prog Tryd.prog.depth 104 (2 / Tryd.prog.cellsOf 104) 0 104 1 = true := by kernel_rfl
abbrev BuAt (B b : Nat) (p : Value) (bs : List Value) (w : World) : Prop := Lib.BuilderAt 104 5 B b p bs w
abbrev IsBu (B b : Nat) (bs : List Value) (w : World) : Prop := Lib.IsBuilder 104 5 B b bs w
set_option maxHeartbeats 1000000 in
set_option maxRecDepth 100000 in
theorem check_used (b : Nat) (w : World) (h0 : w.cell? ⟨b, 0, none⟩ = some (.pointer (some ⟨b, 0, none⟩))) :
    Calls Tryd.prog 55 #[.pointer (some ⟨b, 0, none⟩)] w fun e w' => e = .returned (.tuple #[]) ∧ w' = w := by
  obtain ⟨j, hj, -⟩ := Option.map_eq_some_iff.1 bsize
  go_enter Tryd.func55, Tryd.ntmps55
  go_wp2
  rw [Lib.run_neq_ptr_same w _ Tryd.underlying101 hj]
  go_wp2
  go_end0
  exact ⟨rfl, rfl⟩
set_option maxHeartbeats 1000000 in
set_option maxRecDepth 100000 in
theorem check_fresh (b : Nat) (w : World) (h0 : w.cell? ⟨b, 0, none⟩ = some (.pointer none)) (hsh : w.shape? b = some (104, 2)) (hfz : w.frozen? ⟨b, 0, none⟩ = false) :
    Calls Tryd.prog 55 #[.pointer (some ⟨b, 0, none⟩)] w fun e w' => e = .returned (.tuple #[]) ∧ w' = w.setCell ⟨b, 0, none⟩ (.pointer (some ⟨b, 0, none⟩)) := by
  obtain ⟨j, hj, hjs⟩ := Option.map_eq_some_iff.1 bsize
  go_enter Tryd.func55, Tryd.ntmps55
  go_wp2
  rw [Lib.run_to_unsafe w ⟨b, 0, none⟩ Tryd.underlying101 Tryd.underlying123 hj (by rw [hjs]; decide) hsh (Nat.zero_lt_succ 1)]
  simp only [Result.andThen]
  rw [Oper.upon_value]
  go_wp2
  rw [run_callFunc_extern Tryd.func60 (by kernel_rfl) (by kernel_rfl) (by kernel_rfl) (e := Extern.AbiNoEscape.same) (by kernel_rfl)]
  rw [Lib.run_noEscape]
  simp only [Result.andThen]
  rw [Oper.upon_value]
  go_wp2
  rw [Lib.run_from_unsafe w ⟨b, 0, none⟩ Tryd.underlying123 Tryd.underlying101 hj hsh blies]
  simp only [Result.andThen]
  rw [Oper.upon_value]
  go_wp2
  go_end0
  exact ⟨rfl, rfl⟩
theorem check_bu (B b : Nat) (bs : List Value) (w : World) (h : IsBu B b bs w) :
    Calls Tryd.prog 55 #[.pointer (some ⟨b, 0, none⟩)] w fun e w' => e = .returned (.tuple #[]) ∧ (BuAt B b (.pointer (some ⟨b, 0, none⟩)) bs w' ∧ Below B w w' ∧ w.heap.size ≤ w'.heap.size ∧ ∀ k, k ≠ b → k < w.heap.size → w'.heap[k]? = w.heap[k]?) := by
  rcases h with h | h
  · refine (check_fresh b w h.cell0 h.shape h.frozen0).mono ?_
    rintro e w' ⟨rfl, rfl⟩
    exact ⟨rfl, h.used _, (Below.refl B w).setCell (p := ⟨b, 0, none⟩) h.1 _, by simp [World.setCell], fun k e _ => Below.heap_setCell _ _ _ _ e⟩
  · refine (check_used b w h.cell0).mono ?_
    rintro e w' ⟨rfl, rfl⟩
    exact ⟨rfl, h, Below.refl B _, Nat.le_refl _, fun _ _ _ => rfl⟩
theorem bu_slice {B : Nat} {bs : List Value} {w : World} {v : Value} (h : w.ownsRow B 5 1 v bs.length bs) : ∃ p n c, v = .slice p n c := by
  rcases h.2 with ⟨e, _⟩ | ⟨g, cap, cur, e, _⟩
  · exact ⟨_, _, _, e⟩
  · exact ⟨_, _, _, e⟩
/-- Blocks of cells of another type stand. -/
def KeepNb (b : Nat) (w w' : World) : Prop := ∀ k cs T fz, w.heap[k]? = some (.cells cs T fz) → T ≠ 5 → k ≠ b → w'.heap[k]? = w.heap[k]?
theorem nb_grown {B b : Nat} {w w1 w2 : World} {v : Value} {bs : List Value} {u : Value} (h1 : ∀ k, k ≠ b → k < w.heap.size → w1.heap[k]? = w.heap[k]?) (ho : w1.ownsRow B 5 1 v bs.length bs) (hg : w1.grownBy w2 v.ownBlock) (hs : w.heap.size ≤ w1.heap.size) : KeepNb b w (w2.setCell ⟨b, 1, none⟩ u) := by
  intro k cs T fz hk hT hb
  have hlt := (Array.getElem?_eq_some_iff.1 hk).1
  have e1 := h1 k hb hlt
  refine (Below.heap_setCell _ _ _ _ hb).trans ((hg.block k (by omega) (fun e => ?_)).trans e1)
  rcases ho.2 with ⟨rfl, -⟩ | ⟨g, cap, cur, rfl, hB, hg', -⟩
  · cases e
  · simp only [Value.ownBlock, Option.some.injEq] at e
    subst e
    rw [e1, hk] at hg'
    injection hg' with hg'
    injection hg' with _ h2 _
    exact hT h2
set_option maxHeartbeats 2000000 in
set_option maxRecDepth 100000 in
theorem wstr_bu (B b : Nat) (bs : List Value) (s : ByteArray) (w : World) (h : IsBu B b bs w) (hlen : bs.length + s.size ≤ 100000000) (hBw : B ≤ w.heap.size) :
    Calls Tryd.prog 48 #[.pointer (some ⟨b, 0, none⟩), .string s] w fun e w' => e = .returned (.tuple #[.int .i64 s.size, .nilIface]) ∧ (BuAt B b (.pointer (some ⟨b, 0, none⟩)) (bs ++ Lib.strCells s) w' ∧ Below B w w' ∧ KeepNb b w w') := by
  obtain ⟨i0, hi, hz0, hz1, hz2⟩ := info_parts Tryd.infoByte
  have HC := Lib.hid (check_bu B b bs w h)
  clear h
  go_enter Tryd.func48, Tryd.ntmps48
  go_wp2_with (go_at_call 55; refine HC.out.mono ?_)
  rintro e w1 ⟨rfl, h1, hb1, hs1, hn1⟩
  have HN1 := Lib.hid hn1
  clear hn1
  obtain ⟨hB, v, hbk, hown, hne⟩ := h1
  have c1 : w1.cell? ⟨b, 1, none⟩ = some v := by rw [Lib.cell_of_heap hbk]; rfl
  go_wp2_with (at_builtin; refine Lib.wpList_append_own_string _ rfl _ _ 102 9 rfl B 5 i0 Tryd.underlying102 Tryd.underlying9 hi hz0 hz1 hz2 _ _ _ rfl hown s rfl ?c3 ?c4 ?c5 ?_)
  case c3 => unfold maxLen; omega
  case c4 => omega
  case c5 => omega
  intro v' w2 hown' hgrow _
  have hlt : b < w1.heap.size := (Array.getElem?_eq_some_iff.1 hbk).1
  have hb2 : w2.heap[b]? = some (.cells #[.pointer (some ⟨b, 0, none⟩), v] 104 (0, 0)) := (hgrow.block b hlt (fun e => hne e.symm)).trans hbk
  have d1 : w2.cell? ⟨b, 1, none⟩ = some v := by rw [Lib.cell_of_heap hb2]; rfl
  have f1 : w2.frozen? ⟨b, 1, none⟩ = false := Lib.frozen_of_heap hb2 1
  have HO := Lib.hid hown'
  have HG := Lib.hid hgrow
  have HW := Lib.hid hown
  obtain ⟨ao, n', cap, rfl⟩ : ∃ ao n' cap, v' = .slice ao n' cap := by
    rcases hown'.2 with ⟨hv, _⟩ | ⟨g, cap, cur, hv, _⟩
    · exact ⟨_, _, _, hv⟩
    · exact ⟨_, _, _, hv⟩
  clear hown' hgrow hown
  go_wp2
  go_ret2
  refine ⟨rfl, ?_, ?_, nb_grown HN1.out HW.out HG.out hs1⟩
  · exact Lib.BuilderAt.put hB hb2 (bs' := bs ++ Lib.strCells s) (by simpa [Lib.strCells_length] using HO.out) (by decide)
  · exact (hb1.grown HG.out (by omega) (fun k hk => (HW.out.lt k hk).1)).setCell (p := ⟨b, 1, none⟩) hB _
theorem row_keep {D : Nat} {w w' : World} {e : TypeId} {s : Nat} {v : Value} {n : Nat} {xs : List Value} (h : w.ownsRow D e s v n xs) (hb : Below w.heap.size w w') : w'.ownsRow D e s v n xs := by
  refine ⟨h.1, ?_⟩
  rcases h.2 with hn | ⟨g, cap, cur, rfl, hB, hg, rest⟩
  · exact .inl hn
  · exact .inr ⟨g, cap, cur, rfl, hB, (hb.block g (Array.getElem?_eq_some_iff.1 hg).1).trans hg, rest⟩
theorem bu_keep {B b : Nat} {p : Value} {bs : List Value} {w w' : World} (h : BuAt B b p bs w) (hb : Below w.heap.size w w') : BuAt B b p bs w' := by
  obtain ⟨h1, v, h2, h3, h4⟩ := h
  exact ⟨h1, v, (hb.block b (Array.getElem?_eq_some_iff.1 h2).1).trans h2, row_keep h3 hb, h4⟩
theorem isbu_keep {B b : Nat} {bs : List Value} {w w' : World} (h : IsBu B b bs w) (hb : Below w.heap.size w w') : IsBu B b bs w' := h.elim (fun h => .inl (bu_keep h hb)) (fun h => .inr (bu_keep h hb))
theorem bu_lt {B b : Nat} {p : Value} {bs : List Value} {w : World} (h : BuAt B b p bs w) : b < w.heap.size := by
  obtain ⟨h1, v, h2, -⟩ := h
  exact (Array.getElem?_eq_some_iff.1 h2).1
theorem bytes_app (l m : List UInt8) : Lib.byteCells (l ++ m) = Lib.byteCells l ++ Lib.byteCells m := by simp [Lib.byteCells]
theorem str_cells (l : List UInt8) : Lib.strCells ⟨l.toArray⟩ = Lib.byteCells l := by simp [Lib.strCells, Lib.byteCells]
theorem bytes_len (l : List UInt8) : (Lib.byteCells l).length = l.length := by simp [Lib.byteCells]
end
section
open Go Go.RowKit

/-- The kind of the one token that a text is. -/
noncomputable def kindL (s : List UInt8) : Int := match lexS valL s 0 with
  | ([w], none) => if w.text = s then w.kind else 0
  | _ => 0
noncomputable def nameB (s : List UInt8) : Bool := kindL s == 1 && !reservedL s
noncomputable def varB (s : List UInt8) : Bool := kindL s == 2
noncomputable def nameP (s : List UInt8) : Option (List UInt8) := if nameB s = true then some s else none
noncomputable def varP (s : List UInt8) : Option (List UInt8) := if varB s = true then some s else none
open Classical in
noncomputable def termP (t : TmL) : Option (List UInt8) :=
  if t.kind = 1 then (if varB t.name = true ∧ t.val = zeroL then some t.name else none)
  else if t.kind = 2 then (if IsV t.val.1 t.val.2.1 t.val.2.2 ∧ t.name = [] then some (textL t.val.1 t.val.2.1 t.val.2.2) else none)
  else if t.kind = 3 then (if t.name = [] ∧ t.val = zeroL then some [95] else none) else none
/-- Texts with something between any two. -/
def joinS (sep : List UInt8) : List (List UInt8) → List UInt8
  | [] => []
  | t :: ts => t ++ (if ts = [] then [] else sep ++ joinS sep ts)
/-- All texts, if each part has one. -/
def allO : List (Option (List UInt8)) → Option (List (List UInt8))
  | [] => some []
  | none :: _ => none
  | some x :: r => (allO r).map (x :: ·)
def rowP {α : Type} (P : α → Option (List UInt8)) (sep : List UInt8) (L : List α) : Option (List UInt8) := (allO (L.map P)).map (joinS sep)
def two (a b : Option (List UInt8)) (f : List UInt8 → List UInt8 → List UInt8) : Option (List UInt8) :=
  match a, b with
  | some x, some y => some (f x y)
  | _, _ => none
def typeP (n : Int) : Option (List UInt8) := if n = 1 then some wInt else if n = 2 then some wSym else none
def opP (n : Int) : Option (List UInt8) :=
  if n = 1 then some [61] else if n = 2 then some [33, 61] else if n = 3 then some [60] else if n = 4 then some [60, 61] else if n = 5 then some [62] else if n = 6 then some [62, 61] else none
noncomputable def namedP {α : Type} (P : α → Option (List UInt8)) (s : List UInt8) (L : List α) : Option (List UInt8) := two (nameP s) (rowP P [44, 32] L) fun a b => a ++ [40] ++ b ++ [41]
noncomputable def atomP (a : AtL) : Option (List UInt8) := namedP termP a.pred a.args
noncomputable def cmpP (a : TmL) (o : Int) (b : TmL) : Option (List UInt8) := two (two (termP a) (opP o) fun x y => x ++ [32] ++ y) (termP b) fun x y => x ++ [32] ++ y
open Classical in
noncomputable def litP (l : LiL) : Option (List UInt8) :=
  if l.kind = 1 ∨ l.kind = 2 then (if l.op = 0 ∧ l.a = zeroT ∧ l.b = zeroT then (atomP l.atom).map ((if l.kind = 2 then wNot ++ [32] else []) ++ ·) else none)
  else if l.kind = 3 then (if l.atom.pred = [] ∧ l.atom.args = [] then cmpP l.a l.op l.b else none) else none
def tailP {α : Type} (mark : List UInt8) (P : α → Option (List UInt8)) (L : List α) : Option (List UInt8) := if L.length = 0 then some [] else (rowP P [44, 32] L).map (mark ++ ·)
noncomputable def ruleP (r : RuL) : Option (List UInt8) := two (atomP r.head) (tailP [32, 58, 45, 32] litP r.body) fun a b => a ++ b ++ [46]
noncomputable def declP (d : DeL) : Option (List UInt8) := (namedP typeP d.name d.types).map fun s => (if d.base = true then wBase ++ [32] else wView ++ [32]) ++ s ++ [46]
noncomputable def paramP (p : List UInt8 × Int) : Option (List UInt8) := two (varP p.1) (typeP p.2) fun a b => a ++ [32] ++ b
noncomputable def actP (a : ActL) : Option (List UInt8) := (atomP a.atom).map fun s => (if a.plus = true then [43] else [45]) ++ s
noncomputable def onP (o : OnL) : Option (List UInt8) := two (namedP paramP o.event o.params) (tailP [58, 32] actP o.acts) fun a b => wOn ++ [32] ++ a ++ b ++ [46]
def lineP {α : Type} (P : α → Option (List UInt8)) (x : α) : Option (List UInt8) := (P x).map (· ++ [10])
def linesP {α : Type} (P : α → Option (List UInt8)) (L : List α) : Option (List UInt8) := rowP (lineP P) [] L
noncomputable def progP (p : PrL) : Option (List UInt8) := two (two (linesP declP p.decls) (linesP onP p.ons) fun x y => x ++ y) (linesP ruleP p.rules) fun x y => x ++ y

/-! Rows -/
theorem joinS_snoc (sep : List UInt8) : ∀ (ts : List (List UInt8)) (t : List UInt8), joinS sep (ts ++ [t]) = joinS sep ts ++ (if ts.length = 0 then t else sep ++ t)
  | [], t => by simp [joinS]
  | a :: ts, t => by
    have hne : ts ++ [t] ≠ [] := by simp
    have hne2 : ¬ (a :: ts).length = 0 := by simp
    rw [List.cons_append, joinS, joinS, if_neg hne, if_neg hne2, joinS_snoc sep ts t]
    by_cases h : ts = []
    · subst h
      simp [joinS]
    · have h' : ¬ ts.length = 0 := by simp [h]
      rw [if_neg h, if_neg h']
      simp
theorem allO_snoc : ∀ (l : List (Option (List UInt8))) (o : Option (List UInt8)), allO (l ++ [o]) = match allO l, o with | some xs, some x => some (xs ++ [x]) | _, _ => none
  | [], none => rfl
  | [], some x => rfl
  | none :: r, o => by cases o <;> rfl
  | some a :: r, o => by
    rw [List.cons_append, allO, allO_snoc r o, allO]
    cases allO r <;> cases o <;> rfl
theorem allO_bad : ∀ (l : List (Option (List UInt8))), none ∈ l → allO l = none
  | none :: _, _ => rfl
  | some a :: r, h => by
    rw [allO, allO_bad r (by simpa using h)]
    rfl
theorem allO_len : ∀ (l : List (Option (List UInt8))) (xs : List (List UInt8)), allO l = some xs → xs.length = l.length
  | [], xs, h => by cases h; rfl
  | none :: _, xs, h => by cases h
  | some a :: r, xs, h => by
    rw [allO] at h
    cases e : allO r with
    | none => rw [e] at h; cases h
    | some ys =>
      rw [e] at h
      cases h
      simp [allO_len r ys e]
section
variable {α : Type} {P : α → Option (List UInt8)} {L : List α} {k : Nat}
/-- One text more. -/
theorem row_step {ts : List (List UInt8)} {x : List UInt8} (h : allO ((L.take k).map P) = some ts) (hk : k < L.length) (hx : P L[k] = some x) : allO ((L.take (k + 1)).map P) = some (ts ++ [x]) := by
  rw [List.take_succ_eq_append_getElem hk, List.map_append, List.map_singleton, allO_snoc, h, hx]
/-- One has none. -/
theorem row_none (sep : List UInt8) (hk : k < L.length) (hx : P L[k] = none) : rowP P sep L = none := by
  unfold rowP
  rw [allO_bad _ (List.mem_map.2 ⟨L[k], List.getElem_mem hk, hx⟩)]
  rfl
theorem row_all {ts : List (List UInt8)} (sep : List UInt8) (h : allO ((L.take k).map P) = some ts) (hk : L.length ≤ k) : rowP P sep L = some (joinS sep ts) := by
  rw [List.take_of_length_le hk] at h
  unfold rowP
  rw [h]
  rfl
theorem row_len {ts : List (List UInt8)} (h : allO ((L.take k).map P) = some ts) (hk : k ≤ L.length) : ts.length = k := by
  rw [allO_len _ _ h, List.length_map, List.length_take, Nat.min_eq_left hk]
end
theorem joinS_len (sep : List UInt8) (M : Nat) : ∀ ts : List (List UInt8), (∀ t ∈ ts, t.length ≤ M) → (joinS sep ts).length ≤ ts.length * (M + sep.length)
  | [], _ => by simp [joinS]
  | t :: ts, h => by
    have h1 := h t (List.mem_cons_self ..)
    have h2 := joinS_len sep M ts fun x hx => h x (List.mem_cons_of_mem _ hx)
    rw [joinS, List.length_append, List.length_cons, Nat.add_mul, Nat.one_mul]
    split
    · simp only [List.length_nil]; omega
    · rw [List.length_append]; omega
end
section
open Go Go.RowKit Go.Shelf

/-- Inside: a text of no more than M bytes, and whether it is one. -/
def InP (M : Nat) (o : Option (List UInt8)) (w : World) (e : Ending) (w' : World) : Prop :=
  ∃ (s : ByteArray) (b : Bool), e = .returned (.tuple #[.string s, .bool b]) ∧ s.size ≤ M ∧ o = (if b = true then some s.data.toList else none) ∧ Below w.heap.size w w'
/-- Outside: the text, or none and a code. -/
def SayP (o : Option (List UInt8)) (w : World) (e : Ending) (w' : World) : Prop :=
  ((∃ s : ByteArray, o = some s.data.toList ∧ e = .returned (.tuple #[.string s, .int .i64 0])) ∨ (o = none ∧ e = .returned (.tuple #[.string ⟨#[]⟩, .int .i64 140]))) ∧ Below w.heap.size w w'
theorem words_le {s : List UInt8} (h : s.length ≤ 65536) : (wordsL s).1 = match lexS valL s 0 with | (L, none) => L | (_, some _) => [] := by
  unfold wordsL
  rw [if_neg (by omega)]
  rcases lexS valL s 0 with ⟨L, _ | n⟩ <;> rfl
theorem kind_one {s : List UInt8} {x : Wd} (h : s.length ≤ 65536) (e : (wordsL s).1 = [x]) : kindL s = if x.text = s then x.kind else 0 := by
  rw [words_le h] at e
  unfold kindL
  revert e
  rcases lexS valL s 0 with ⟨L, _ | n⟩
  · intro e
    have e' : L = [x] := e
    subst e'
    rfl
  · intro e
    cases e
theorem kind_none {s : List UInt8} (h : s.length ≤ 65536) (e : (wordsL s).1.length ≠ 1) : kindL s = 0 := by
  rw [words_le h] at e
  unfold kindL
  revert e
  rcases lexS valL s 0 with ⟨L, _ | n⟩
  · rcases L with _ | ⟨a, _ | ⟨b, r⟩⟩
    · exact fun _ => rfl
    · intro e
      exact absurd rfl e
    · exact fun _ => rfl
  · rcases L with _ | ⟨a, _ | ⟨b, r⟩⟩ <;> exact fun _ => rfl
theorem str_of_list {s : ByteArray} {l : List UInt8} (h : l = s.data.toList) : (⟨l.toArray⟩ : ByteArray) = s := by subst h; rfl
/-- A token of a kind, or none. -/
def WordE (s : ByteArray) (k : Int) (w : World) (e : Ending) (w' : World) : Prop :=
  ((kindL s.data.toList = k ∧ e = .returned (.tuple #[.string s, .bool true])) ∨ (kindL s.data.toList ≠ k ∧ e = .returned (.tuple #[.string ⟨#[]⟩, .bool false]))) ∧ Below w.heap.size w w'
set_option maxRecDepth 100000 in
set_option maxHeartbeats 2000000 in
theorem word_any (s : ByteArray) (k : Int) (w : World) (hk : k ≠ 0) (hm : s.size ≤ 65536) (G : Glob w) :
    Calls Tryd.prog 37 #[.string s, .int .i64 k] w (WordE s k w) := by
  have HW := Lib.hid (words_any s w (by omega) G)
  have hl : s.data.toList.length ≤ 65536 := by rw [← Lib.size_eq]; exact hm
  obtain ⟨L, hL⟩ : ∃ L, (wordsL s.data.toList).1 = L := ⟨_, rfl⟩
  have HNo := Lib.hid (show L.length ≠ 1 → kindL s.data.toList ≠ k from fun h e => hk (e.symm.trans (kind_none hl (by rw [hL]; exact h))))
  have HOne := Lib.hid (show ∀ x, L = [x] → kindL s.data.toList = if x.text = s.data.toList then x.kind else 0 from fun x e => kind_one hl (by rw [hL]; exact e))
  clear G hm
  go_enter Tryd.func37, Tryd.ntmps37
  go_wp2_with fail
  refine HW.out.mono ?_
  rintro y w1 ⟨⟨v, rfl, ho⟩, hb⟩
  rw [hL] at ho
  have hin : WIn (fun k => w.heap.size ≤ k ∧ k < w1.heap.size) w1 v L := ho.in_ _ (fun k e => ho.lt k e)
  have HB := Lib.hid hb
  clear ho hb HW hl hL
  rcases L with _ | ⟨x, _ | ⟨x2, r⟩⟩
  · obtain ⟨p, c, rfl, -⟩ := hin
    go_wp2_with fail
    go_ret2
    exact ⟨.inr ⟨HNo.out (by simp), rfl⟩, HB.out⟩
  · obtain ⟨b, off, c, rfl, -, -, hbl, -, hat⟩ := hin.at_ (by simp)
    obtain ⟨a0, a1, -⟩ := hat 0 (by simp)
    clear hat hin
    simp only [List.getElem_cons_zero, Nat.zero_mul, Nat.add_zero] at a0 a1
    by_cases h1 : x.kind = k
    · by_cases h2 : x.text = s.data.toList
      · have HE := Lib.hid (show kindL s.data.toList = k by rw [HOne.out x rfl, if_pos h2]; exact h1)
        subst h1
        rw [str_of_list h2] at a1
        clear h2
        go_wp2_with fail
        go_ret2
        exact ⟨.inl ⟨HE.out, rfl⟩, HB.out⟩
      · have HE := Lib.hid (show kindL s.data.toList ≠ k by rw [HOne.out x rfl, if_neg h2]; exact fun e => hk e.symm)
        subst h1
        have h3 : (x.text == s.toList) = false := by
          rw [Lib.toList_data]
          simpa using h2
        clear h2
        go_wp2_with fail
        go_ret2
        exact ⟨.inr ⟨HE.out, rfl⟩, HB.out⟩
    · have HE := Lib.hid (show kindL s.data.toList ≠ k by
        rw [HOne.out x rfl]
        split
        · exact h1
        · exact fun e => hk e.symm)
      go_wp2_with fail
      go_ret2
      exact ⟨.inr ⟨HE.out, rfl⟩, HB.out⟩
  · obtain ⟨p, c, rfl, -⟩ := hin
    have h2 : ¬ (((x :: x2 :: r).length : Nat) : Int) = 1 := by simp; omega
    have HN2 := Lib.hid (HNo.out (by simp))
    clear HNo HOne
    generalize (x :: x2 :: r).length = m at *
    go_wp2_with fail
    go_ret2
    exact ⟨.inr ⟨HN2.out, rfl⟩, HB.out⟩
end
section
open Go Go.RowKit Go.Shelf

theorem InP.yes {M : Nat} {o : Option (List UInt8)} {w w' : World} {s : ByteArray} (ho : o = some s.data.toList) (hs : s.size ≤ M) (hb : Below w.heap.size w w') : InP M o w (.returned (.tuple #[.string s, .bool true])) w' := ⟨s, true, rfl, hs, by rw [ho]; rfl, hb⟩
theorem InP.no {M : Nat} {o : Option (List UInt8)} {w w' : World} {s : ByteArray} (ho : o = none) (hs : s.size ≤ M) (hb : Below w.heap.size w w') : InP M o w (.returned (.tuple #[.string s, .bool false])) w' := ⟨s, false, rfl, hs, by rw [ho]; rfl, hb⟩
theorem empty_le (M : Nat) : (⟨#[]⟩ : ByteArray).size ≤ M := Nat.zero_le _
theorem WordE.inP {s : ByteArray} {k : Int} {w w' : World} {e : Ending} (h : WordE s k w e w') (M : Nat) (hs : s.size ≤ M) : InP M (if kindL s.data.toList = k then some s.data.toList else none) w e w' := by
  obtain ⟨⟨h1, rfl⟩ | ⟨h1, rfl⟩, hb⟩ := h
  · exact .yes (if_pos h1) hs hb
  · exact .no (if_neg h1) (empty_le _) hb
theorem varP_eq (s : List UInt8) : varP s = if kindL s = 2 then some s else none := by
  unfold varP varB
  by_cases h : kindL s = 2
  · simp [h]
  · simp [h]
theorem nameP_eq {s : List UInt8} (h : reservedL s = false) : nameP s = if kindL s = 1 then some s else none := by
  unfold nameP nameB
  by_cases h1 : kindL s = 1
  · simp [h1, h]
  · simp [h1]
set_option maxRecDepth 100000 in
set_option maxHeartbeats 2000000 in
theorem variable_any (s : ByteArray) (M : Nat) (w : World) (hm : s.size ≤ 65536) (hM : s.size ≤ M) (G : Glob w) :
    Calls Tryd.prog 26 #[.string s] w (InP M (varP s.data.toList) w) := by
  obtain ⟨o, ho⟩ : ∃ o, varP s.data.toList = o := ⟨_, rfl⟩
  rw [ho]
  have HW : Hid (Calls Tryd.prog 37 #[.string s, .int .i64 2] w (InP M o w)) := Lib.hid ((word_any s 2 w (by decide) hm G).mono fun y w1 h => by rw [← ho, varP_eq]; exact h.inP M hM)
  clear G hm hM ho
  go_enter Tryd.func26, Tryd.ntmps26
  go_wp2_with fail
  refine HW.out.mono ?_
  rintro y w1 ⟨r, b, rfl, h1, h2, h3⟩
  have HE := Lib.hid (And.intro h1 (And.intro h2 h3))
  clear h1 h2 h3
  go_wp2_with fail
  go_ret2
  exact ⟨r, b, rfl, HE.out.1, HE.out.2.1, HE.out.2.2⟩
set_option maxRecDepth 100000 in
set_option maxHeartbeats 2000000 in
theorem name_any (s : ByteArray) (M : Nat) (w : World) (hm : s.size ≤ 65536) (hM : s.size ≤ M) (G : Glob w) :
    Calls Tryd.prog 25 #[.string s] w (InP M (nameP s.data.toList) w) := by
  by_cases hr : reservedL s.data.toList = true
  · have hn : nameP s.data.toList = none := by unfold nameP nameB; simp [hr]
    have key : s.toList = wBase ∨ s.toList = wView ∨ s.toList = wOn ∨ s.toList = wNot := by
      rw [Lib.toList_data]
      simpa [reservedL, or_assoc] using hr
    have HN := Lib.hid hn
    clear hm hM G hr hn
    rcases key with h | h | h | h
    · have b1 : (s.toList == [98, 97, 115, 101]) = true := by rw [h]; decide
      clear h
      go_enter Tryd.func25, Tryd.ntmps25
      go_wp2_with fail
      go_ret2
      exact .no HN.out (empty_le _) (Below.refl _ _)
    · have b1 : (s.toList == [98, 97, 115, 101]) = false := by rw [h]; decide
      have b2 : (s.toList == [118, 105, 101, 119]) = true := by rw [h]; decide
      clear h
      go_enter Tryd.func25, Tryd.ntmps25
      go_wp2_with fail
      go_ret2
      exact .no HN.out (empty_le _) (Below.refl _ _)
    · have b1 : (s.toList == [98, 97, 115, 101]) = false := by rw [h]; decide
      have b2 : (s.toList == [118, 105, 101, 119]) = false := by rw [h]; decide
      have b3 : (s.toList == [111, 110]) = true := by rw [h]; decide
      clear h
      go_enter Tryd.func25, Tryd.ntmps25
      go_wp2_with fail
      go_ret2
      exact .no HN.out (empty_le _) (Below.refl _ _)
    · have b1 : (s.toList == [98, 97, 115, 101]) = false := by rw [h]; decide
      have b2 : (s.toList == [118, 105, 101, 119]) = false := by rw [h]; decide
      have b3 : (s.toList == [111, 110]) = false := by rw [h]; decide
      have b4 : (s.toList == [110, 111, 116]) = true := by rw [h]; decide
      clear h
      go_enter Tryd.func25, Tryd.ntmps25
      go_wp2_with fail
      go_ret2
      exact .no HN.out (empty_le _) (Below.refl _ _)
  · have hr' : reservedL s.data.toList = false := by simpa using hr
    have key : ((s.toList == [98, 97, 115, 101]) = false ∧ (s.toList == [118, 105, 101, 119]) = false) ∧ (s.toList == [111, 110]) = false ∧ (s.toList == [110, 111, 116]) = false := by
      rw [Lib.toList_data]
      have h := hr'
      simp only [reservedL, Bool.or_eq_false_iff, and_assoc] at h
      exact ⟨⟨h.1, h.2.1⟩, h.2.2.1, h.2.2.2⟩
    obtain ⟨⟨b1, b2⟩, b3, b4⟩ := key
    obtain ⟨o, ho⟩ : ∃ o, nameP s.data.toList = o := ⟨_, rfl⟩
    rw [ho]
    have HW : Hid (Calls Tryd.prog 37 #[.string s, .int .i64 1] w (InP M o w)) := Lib.hid ((word_any s 1 w (by decide) hm G).mono fun y w1 h => by rw [← ho, nameP_eq hr']; exact h.inP M hM)
    clear G hm hM hr hr' ho
    go_enter Tryd.func25, Tryd.ntmps25
    go_wp2_with fail
    refine HW.out.mono ?_
    rintro y w1 ⟨r, b, rfl, h1, h2, h3⟩
    have HE := Lib.hid (And.intro h1 (And.intro h2 h3))
    clear h1 h2 h3
    go_wp2_with fail
    go_ret2
    exact ⟨r, b, rfl, HE.out.1, HE.out.2.1, HE.out.2.2⟩
set_option maxRecDepth 100000 in
set_option maxHeartbeats 2000000 in
theorem ptyped_text (n : Int) (M : Nat) (w : World) (hM : 3 ≤ M) : Calls Tryd.prog 36 #[.int .i64 n] w (InP M (typeP n) w) := by
  by_cases h1 : n = 1
  · subst h1
    go_enter Tryd.func36, Tryd.ntmps36
    go_wp2_with fail
    go_ret2
    exact .yes rfl hM (Below.refl _ _)
  by_cases h2 : n = 2
  · subst h2
    go_enter Tryd.func36, Tryd.ntmps36
    go_wp2_with fail
    go_ret2
    exact .yes rfl hM (Below.refl _ _)
  have hn : typeP n = none := by unfold typeP; rw [if_neg h1, if_neg h2]
  have HN := Lib.hid hn
  clear hn
  go_enter Tryd.func36, Tryd.ntmps36
  go_wp2_with fail
  go_ret2
  exact .no HN.out (empty_le _) (Below.refl _ _)
set_option maxRecDepth 100000 in
set_option maxHeartbeats 2000000 in
theorem operator_any (n : Int) (w : World) : Calls Tryd.prog 50 #[.int .i64 n] w (InP 2 (opP n) w) := by
  by_cases hlo : n < 1
  · have hn : opP n = none := by unfold opP; (repeat rw [if_neg (by omega)])
    have HN := Lib.hid hn
    clear hn
    go_enter Tryd.func50, Tryd.ntmps50
    go_wp2_with fail
    go_ret2
    exact .no HN.out (empty_le _) (below_box _ _)
  by_cases hhi : 6 < n
  · have hn : opP n = none := by unfold opP; (repeat rw [if_neg (by omega)])
    have HN := Lib.hid hn
    clear hn
    go_enter Tryd.func50, Tryd.ntmps50
    go_wp2_with fail
    go_ret2
    exact .no HN.out (empty_le _) (below_box _ _)
  obtain rfl | rfl | rfl | rfl | rfl | rfl : n = 1 ∨ n = 2 ∨ n = 3 ∨ n = 4 ∨ n = 5 ∨ n = 6 := by omega
  all_goals
    clear hlo hhi
    go_enter Tryd.func50, Tryd.ntmps50
    go_wp2_with fail
    go_ret2
    exact .yes rfl (by decide) (below_box _ _)
end
section
open Go Go.RowKit Go.Shelf

/-- A term of a size. -/
structure SmT (t : TmL) : Prop where
  name : t.name.length ≤ 300
  int : I64 t.val.2.1
abbrev valT (t : TmL) : Value := .agg #[.int .i64 t.kind, .string ⟨t.name.toArray⟩, .int .i64 t.val.1, .int .i64 t.val.2.1, .string t.val.2.2]
theorem term_var {t : TmL} (h : t.kind = 1) : termP t = if t.val = zeroL then varP t.name else none := by
  unfold termP varP
  rw [if_pos h]
  by_cases h1 : t.val = zeroL <;> by_cases h2 : varB t.name = true <;> simp [h1, h2]
theorem zero_three {v : VL} : v = zeroL ↔ v.1 = 0 ∧ v.2.1 = 0 ∧ v.2.2.toList = [] := by
  obtain ⟨a, b, c⟩ := v
  constructor
  · intro h
    cases h
    exact ⟨rfl, rfl, by rw [Lib.toList_data]⟩
  · rintro ⟨rfl, rfl, h3⟩
    have : c = ⟨#[]⟩ := emp_of h3
    subst this
    rfl
/-- Two values compared. -/
theorem eqZ_run (v : VL) : ∃ b : Bool, (b = true ↔ v = zeroL) ∧ ∀ W : World, (binOp .eql 51 (.agg #[.int .i64 v.1, .int .i64 v.2.1, .string v.2.2]) (.agg #[.int .i64 0, .int .i64 0, .string ⟨#[]⟩])).run Tryd.prog W = .ok (.bool b) W := by
  obtain ⟨a, b, c⟩ := v
  refine ⟨a == 0 && (b == 0 && c.toList.isEmpty), by rw [zero_three]; simp, fun W => ?_⟩
  rw [run_eql_struct]
  simp [go_sem]
  by_cases h1 : a = 0
  · by_cases h2 : b = 0
    · by_cases h3 : c.toList = []
      · rw [if_pos h1, if_pos h2]; simp [h1, h2, h3]
      · rw [if_pos h1, if_pos h2]; simp [h3]
    · rw [if_pos h1, if_neg h2]; simp [h2]
  · rw [if_neg h1]; simp [h1]
/-- A term compared with one that bears a kind alone. -/
theorem eqT_run (t : TmL) (k : Int) : ∃ b : Bool, (b = true ↔ t.kind = k ∧ t.name = [] ∧ t.val = zeroL) ∧ ∀ W : World, (binOp .eql 53 (valT t) (.agg #[.int .i64 k, .string ⟨#[]⟩, .int .i64 0, .int .i64 0, .string ⟨#[]⟩])).run Tryd.prog W = .ok (.bool b) W := by
  obtain ⟨q, nm, a, b, c⟩ := t
  refine ⟨q == k && (nm.isEmpty && (a == 0 && (b == 0 && c.toList.isEmpty))), by rw [zero_three]; simp, fun W => ?_⟩
  rw [run_eql_struct]
  simp [go_sem]
  by_cases h0 : q = k
  · by_cases h4 : nm = []
    · by_cases h1 : a = 0
      · by_cases h2 : b = 0
        · by_cases h3 : c.toList = []
          · simp [h0, h1, h2, h4, h3]
          · simp [h0, h1, h2, h4, h3]
        · simp [h0, h1, h2, h4]
      · simp [h0, h1, h4]
    · simp [h0, h4]
  · simp [h0]
theorem five_cells {w : World} {b : Nat} {x0 x1 x2 x3 x4 : Value} {t : TypeId} (h : w.heap[b]? = some (.cells #[x0, x1, x2, x3, x4] t (0, 0))) :
    w.cell? ⟨b, 0, none⟩ = some x0 ∧ w.cell? ⟨b, 1, none⟩ = some x1 ∧ w.cell? ⟨b, 2, none⟩ = some x2 ∧ w.cell? ⟨b, 3, none⟩ = some x3 ∧ w.cell? ⟨b, 4, none⟩ = some x4 :=
  ⟨(cell_of_row _ _ 0 _ _ (0, 0) h).trans rfl, (cell_of_row _ _ 1 _ _ (0, 0) h).trans rfl, (cell_of_row _ _ 2 _ _ (0, 0) h).trans rfl, (cell_of_row _ _ 3 _ _ (0, 0) h).trans rfl, (cell_of_row _ _ 4 _ _ (0, 0) h).trans rfl⟩
theorem below_drewB {w w1 : World} (h : Below w.heap.size w w1) (n : Nat) : Below w.heap.size w (w1.drewN n) := ⟨h.os, h.tape, h.output, h.size, h.block⟩
theorem term_const {t : TmL} (h : t.kind = 2) : (IsV t.val.1 t.val.2.1 t.val.2.2 → termP t = if t.name = [] then some (textL t.val.1 t.val.2.1 t.val.2.2) else none) ∧ (¬ IsV t.val.1 t.val.2.1 t.val.2.2 → termP t = none) := by
  unfold termP
  rw [if_neg (by omega), if_pos h]
  exact ⟨fun h1 => by by_cases h2 : t.name = [] <;> simp [h1, h2], fun h1 => by simp [h1]⟩
set_option maxRecDepth 100000 in
set_option maxHeartbeats 4000000 in
theorem term_any (t : TmL) (w : World) (hs : SmT t) (G : Glob w) : Calls Tryd.prog 39 #[valT t] w (InP 1100 (termP t) w) := by
  obtain ⟨k, nm, v1, v2, v3⟩ := t
  obtain ⟨n, hn⟩ : ∃ n : ByteArray, n = ⟨nm.toArray⟩ := ⟨_, rfl⟩
  have hnl : n.data.toList = nm := by rw [hn]
  have hnm : n.size ≤ 300 := by rw [Lib.size_eq, hnl]; exact hs.name
  have hv2 : I64 v2 := hs.int
  clear hs
  show Calls Tryd.prog 39 #[.agg #[.int .i64 k, .string ⟨nm.toArray⟩, .int .i64 v1, .int .i64 v2, .string v3]] w (InP 1100 (termP ⟨k, nm, v1, v2, v3⟩) w)
  obtain ⟨b3, qb3, q3'⟩ := eqT_run ⟨k, nm, v1, v2, v3⟩ 3
  have q3 : ∀ W : World, (binOp .eql 53 (.agg #[.int .i64 k, .string n, .int .i64 v1, .int .i64 v2, .string v3]) (.agg #[.int .i64 3, .string ⟨#[]⟩, .int .i64 0, .int .i64 0, .string ⟨#[]⟩])).run Tryd.prog W = .ok (.bool b3) W := fun W => by
    rw [hn]
    exact q3' W
  have QB := Lib.hid qb3
  clear q3' qb3
  rw [← hn]
  have HG := Lib.hid (G.below (below_box w (.cells #[.int .i64 k, .string n, .int .i64 v1, .int .i64 v2, .string v3] 53)))
  obtain ⟨o, ho⟩ : ∃ o, termP ⟨k, nm, v1, v2, v3⟩ = o := ⟨_, rfl⟩
  rw [ho]
  by_cases h1 : k = 1
  · subst h1
    rw [term_var rfl] at ho
    have HV : Hid (∀ W, Glob W → Calls Tryd.prog 26 #[.string n] W (InP 1100 (varP nm) W)) := Lib.hid (fun W GW => by rw [← hnl]; exact variable_any n 1100 W (by omega) (by omega) GW)
    have HO := Lib.hid ho
    clear ho hn hnl hnm hv2 G q3
    go_enter Tryd.func39, Tryd.ntmps39
    go_wp2_with fail
    refine (HV.out _ HG.out).mono ?_
    rintro y w1 ⟨r, b, rfl, g1, g2, g3⟩
    have HE := Lib.hid (And.intro g1 (And.intro g2 (below_then g3)))
    obtain ⟨c0, c1, c2, c3, c4⟩ := five_cells ((g3.block w.heap.size (by simp)).trans (heap_alloc_new w (.cells #[.int .i64 1, .string n, .int .i64 v1, .int .i64 v2, .string v3] 53)))
    clear g1 g2 g3
    cases b with
    | false =>
      go_wp2_with fail
      go_quiet (fail)
      rename_i nq
      go_wp2_with fail
      go_ret2
      exact .no (by rw [← HO.out, HE.out.2.1]; simp) HE.out.1 (below_drewB HE.out.2.2 _)
    | true =>
      obtain ⟨bz, hz, qz⟩ := eqZ_run (v1, v2, v3)
      simp only at qz
      have HZ := Lib.hid hz
      clear hz
      go_wp2_with fail
      go_quiet (fail)
      rename_i nq
      go_wp2_with fail
      go_ret2
      cases bz with
      | true => exact .yes (by rw [← HO.out, HE.out.2.1, if_pos (HZ.out.1 rfl)]; rfl) HE.out.1 (below_drewB HE.out.2.2 _)
      | false => exact .no (by rw [← HO.out, if_neg (fun e => by have := HZ.out.2 e; cases this)]) HE.out.1 (below_drewB HE.out.2.2 _)
  by_cases h2 : k = 2
  · subst h2
    by_cases hV : IsV v1 v2 v3
    · rw [(term_const rfl).1 hV] at ho
      have HT : Hid (∀ W, Glob W → Calls Tryd.prog 47 #[.agg #[.int .i64 v1, .int .i64 v2, .string v3]] W fun e w' => e = .returned (.tuple #[.string (textS v1 v2 v3), .int .i64 0]) ∧ Below W.heap.size W w') := Lib.hid (fun W GW => text_yes v1 v2 v3 W hV hv2 GW)
      have HS := Lib.hid (textS_size hV hv2)
      have HO := Lib.hid ho
      have HL := Lib.hid (textS_data v1 v2 v3)
      have he : (n.toList == []) = decide (nm = []) := by rw [Lib.toList_data, hnl]; cases nm <;> rfl
      have he' : n.toList.isEmpty = decide (nm = []) := by rw [Lib.toList_data, hnl]; cases nm <;> rfl
      generalize textS v1 v2 v3 = r at *
      clear ho hn hnl hnm hv2 G q3 hV h1
      go_enter Tryd.func39, Tryd.ntmps39
      go_wp2_with fail
      refine (HT.out _ HG.out).mono ?_
      rintro y w1 ⟨rfl, g3⟩
      have HE := Lib.hid (below_then g3)
      obtain ⟨c0, c1, c2, c3, c4⟩ := five_cells ((g3.block w.heap.size (by simp)).trans (heap_alloc_new w (.cells #[.int .i64 2, .string n, .int .i64 v1, .int .i64 v2, .string v3] 53)))
      clear g3
      go_wp2_with fail
      go_quiet (fail)
      rename_i nq
      go_wp2_with fail
      go_ret2
      by_cases hz : nm = []
      · rw [decide_eq_true hz]
        exact .yes (by rw [← HO.out, if_pos hz]; exact congrArg some HL.out.symm) HS.out (below_drewB HE.out _)
      · rw [decide_eq_false hz]
        exact .no (by rw [← HO.out, if_neg hz]) HS.out (below_drewB HE.out _)
    · rw [(term_const rfl).2 hV] at ho
      have HT : Hid (∀ W, Calls Tryd.prog 47 #[.agg #[.int .i64 v1, .int .i64 v2, .string v3]] W fun e w' => e = .returned (.tuple #[.string ⟨#[]⟩, .int .i64 10]) ∧ Below W.heap.size W w') := Lib.hid (fun W => text_no v1 v2 v3 W hV)
      have HO := Lib.hid ho
      clear ho hn hnl hnm hv2 G q3 hV h1
      go_enter Tryd.func39, Tryd.ntmps39
      go_wp2_with fail
      refine (HT.out _).mono ?_
      rintro y w1 ⟨rfl, g3⟩
      have HE := Lib.hid (below_then g3)
      obtain ⟨c0, c1, c2, c3, c4⟩ := five_cells ((g3.block w.heap.size (by simp)).trans (heap_alloc_new w (.cells #[.int .i64 2, .string n, .int .i64 v1, .int .i64 v2, .string v3] 53)))
      clear g3
      go_wp2_with fail
      go_quiet (fail)
      rename_i nq
      go_wp2_with fail
      go_ret2
      exact .no HO.out.symm (empty_le _) (below_drewB HE.out _)
  by_cases h3 : k = 3
  · subst h3
    have HO := Lib.hid (show (nm = [] ∧ (v1, v2, v3) = zeroL → some [95] = o) ∧ (¬ (nm = [] ∧ (v1, v2, v3) = zeroL) → none = o) by
      rw [← ho]
      unfold termP
      rw [if_neg (show ¬ (3 : Int) = 1 by decide), if_neg (show ¬ (3 : Int) = 2 by decide), if_pos rfl]
      exact ⟨fun hz => by simp [hz], fun hz => by simp only [hz, if_false]⟩)
    clear ho hn hnl hnm hv2 G h1 h2
    go_enter Tryd.func39, Tryd.ntmps39
    go_wp2_with fail
    go_quiet (fail)
    rename_i nq
    go_wp2_with fail
    go_ret2
    cases b3 with
    | true => exact .yes (HO.out.1 (QB.out.1 rfl).2).symm (by decide) (below_drewB (below_box w _) _)
    | false => exact .no (HO.out.2 (fun e => by have := QB.out.2 (by simpa using e); cases this)).symm (by decide) (below_drewB (below_box w _) _)
  · have HO := Lib.hid (show none = o by rw [← ho]; unfold termP; rw [if_neg h1, if_neg h2, if_neg h3])
    clear ho hn hnl hnm hv2 G
    go_enter Tryd.func39, Tryd.ntmps39
    go_wp2_with fail
    go_ret2
    exact .no HO.out.symm (empty_le _) (below_box w _)
end
section
open Go Go.RowKit Go.Shelf

theorem row_at {α : Type} {Y : Lay α} {S : Nat → Prop} {w : World} {v : Value} {L : List α} (h : RowIn Y S w v L) {j : Nat} (hj : j < L.length) : ∃ b off c us, v = .slice (some ⟨b, off, none⟩) L.length c ∧ b < w.heap.size ∧ Y.is S w us L[j] ∧ ∀ i u, us[i]? = some u → w.cell? ⟨b, off + (j * Y.sz + i), none⟩ = some u := by
  obtain ⟨p, c, rfl, -, -, h⟩ := h
  rcases h with h | ⟨b, off, rfl, -, hb, h⟩
  · subst h; simp at hj
  · obtain ⟨us, hu, hc⟩ := h j hj
    exact ⟨b, off, c, us, rfl, hb, hu, hc⟩
/-- What the loop keeps: the texts so far, and the builder. -/
structure JnS {α : Type} (P : α → Option (List UInt8)) (sep : ByteArray) (M : Nat) (L : List α) (w : World) (k : Nat) (ts : List (List UInt8)) (wr : World) : Prop where
  all_ : allO ((L.take k).map P) = some ts
  short : ∀ t ∈ ts, t.length ≤ M
  bu : IsBu w.heap.size w.heap.size (Lib.byteCells (joinS sep.data.toList ts)) wr
  below : Below w.heap.size w wr
  lt : w.heap.size < wr.heap.size
section
variable {α : Type} {P : α → Option (List UInt8)} {sep : ByteArray} {M : Nat} {L : List α} {w : World} {k : Nat} {ts : List (List UInt8)} {wr : World}
theorem JnS.len (h : JnS P sep M L w k ts wr) (hk : k ≤ L.length) : (joinS sep.data.toList ts).length ≤ k * (M + sep.size) := by
  have h1 := joinS_len sep.data.toList M ts h.short
  rw [row_len h.all_ hk, ← Lib.size_eq] at h1
  exact h1
theorem JnS.zero (w : World) : JnS P sep M L w 0 [] (w.alloc (.cells #[.pointer none, .slice none 0 0] 104)) :=
  ⟨rfl, fun t h => (by cases h), .inl ⟨Nat.le_refl _, _, heap_alloc_new w _, World.ownsRow_nil _ _ _ _, by simp [Value.ownBlock]⟩, (Below.refl _ w).alloc (Nat.le_refl _) _, by simp⟩
theorem mul_room {n z : Nat} (hk : k < n) : k * z + z ≤ n * z := by
  have : (k + 1) * z ≤ n * z := Nat.mul_le_mul_right z hk
  rwa [Nat.succ_mul] at this
theorem mul_le' {n z : Nat} (hk : k ≤ n) : k * z ≤ n * z := Nat.mul_le_mul_right z hk
end
theorem text_cells (s : ByteArray) : Lib.strCells s = Lib.byteCells s.data.toList := str_cells s.data.toList
end
end Go.Proofs.YtfjpiofinffpfaaDoor
