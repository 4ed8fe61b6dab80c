/-
  The frame of a law's proof: what the row's condition on the library's variables gives the walks ('Glob'), how an argument is opened, the start that meets the condition.
  The arguments of the laws of print, opened.
-/
import Derived.Test.YtfjpiofinffpfaaDoorL06
import Derived.ProofKit
import Derived.LaidMore
import Derived.OpenShut
import Derived.ShutString
import Derived.ChangeOld
import Derived.Stop.Joined
import Derived.Stop.LaidErr
import Derived.Lib.SmallJoins
import Derived.Deep.Slices
namespace Go.Proofs.YtfjpiofinffpfaaDoor
section
open Go Go.ChangeShapes Go.WideShapes Go.ChangeAt Go.RowKit

set_option maxRecDepth 100000
theorem own : ownKnob Tryd.prog.godebug = none := by kernel_rfl
theorem laidOut : laidOutB Tryd.prog = true := by kernel_rfl
theorem tyTab : (Tryd.prog.globals[0]?).map (·.type) = some 143 := by kernel_rfl
theorem tySyn : (Tryd.prog.globals[4]?).map (·.type) = some 106 := by kernel_rfl
theorem tyRng : (Tryd.prog.globals[5]?).map (·.type) = some 106 := by kernel_rfl
theorem cellsTab : Tryd.prog.cellsOf 143 = 20 := by kernel_rfl
theorem cellsU64 : Tryd.prog.cellsOf 131 = 1 := by kernel_rfl
theorem tyLet : (Tryd.prog.globals[1]?).map (·.type) = some 148 := by kernel_rfl
theorem cellsLet : Tryd.prog.cellsOf 148 = 123 := by kernel_rfl
theorem cellsCls : Tryd.prog.cellsOf 136 = 1 := by kernel_rfl
theorem cellsErr : Tryd.prog.cellsOf 171 = 1 := by kernel_rfl
theorem cellsStr : Tryd.prog.cellsOf 9 = 1 := by kernel_rfl
theorem cellsVal : Tryd.prog.cellsOf 51 = 3 := by kernel_rfl
theorem errStar : "*" ++ "errors.errorString" = "*errors.errorString" := by decide
theorem errRow (u : TypeId) (h : Tryd.prog.typeName? 3 u = some "*errors.errorString") : u = 169 :=
  typeName_ptr_named (nm := "errors.errorString") (by rw [errStar]; kernel_rfl) (by kernel_rfl) (by decide) u (by rw [errStar]; exact h)

/-- What every row of layers 13 and 14 lists. -/
def laid6 {H : Type} : List (String × DataW H) := [("math/bits.deBruijn32tab", Rows.laid_math_bits_deBruijn32tab), ("math/bits.deBruijn64tab", Rows.laid_math_bits_deBruijn64tab), ("internal/strconv.uint64pow10", Rows.laid_internal_strconv_uint64pow10), ("strconv.ErrRange", Rows.laid_strconv_ErrRange), ("strconv.ErrSyntax", Rows.laid_strconv_ErrSyntax), ("pedigree/lex.letters", Rows.laid_pedigree_lex_letters)]

theorem glob_of_laid {W : World} (h0 : laidMetH Tryd.prog laid6 W) : Glob W := by
  rw [MakeChecks.laidMetH_plain _ _ _ (by kernel_rfl)] at h0
  have h2 := h0.tail.tail
  have h3 := h2.tail
  have h4 := h3.tail
  have h5 := h4.tail
  have lett := Lib.tabIs_of_head (k := .u8) (zs := letTab) gLet tyLet Tryd.underlying148 Tryd.underlying136 cellsCls cellsLet h5
  have tab := Lib.tabIs_of_head (k := .u64) (zs := Lib.pow10Tab) gTab tyTab Tryd.underlying143 Tryd.underlying131 cellsU64 cellsTab h2
  obtain ⟨ar, sr, hr, -, -, -⟩ := laid_sentinel h3 gRng tyRng Tryd.underlying106 errRow Tryd.underlying169 Tryd.underlying171 rfl rfl Tryd.underlying9 cellsErr cellsStr
  obtain ⟨at_, ss, hs, -, -, -⟩ := laid_sentinel h4 gSyn tySyn Tryd.underlying106 errRow Tryd.underlying169 Tryd.underlying171 rfl rfl Tryd.underlying9 cellsErr cellsStr
  obtain ⟨ps, ⟨g0, t0, cs0, f0, p0, q0, hg0, ht0, hv0, -, ⟨g1, t1, cs1, f1, p1, q1, hg1, ht1, hv1, -, -, -⟩, -⟩, -, -⟩ := h0
  have g64 : Tryd.prog.globalNamed "math/bits.deBruijn64tab" = some 3 := by kernel_rfl
  have l1 : 3 < W.heap.size := by
    have hv := hv1
    unfold World.var? at hv
    rw [g64] at hv
    simp only [Option.bind_some] at hv
    rcases Nat.lt_or_ge 3 W.heap.size with hl | hl
    · exact hl
    · rw [Array.getElem?_eq_none hl] at hv
      cases hv
  have l2 : 5 < W.heap.size := by
    have hv := hr
    unfold World.var? at hv
    rw [gRng] at hv
    simp only [Option.bind_some] at hv
    rcases Nat.lt_or_ge 5 W.heap.size with hl | hl
    · exact hl
    · rw [Array.getElem?_eq_none hl] at hv
      cases hv
  exact ⟨tab, ⟨_, _, hs⟩, ⟨_, _, hr⟩, lett, by omega⟩

/-- The door's own heap meets the condition. -/
theorem door_met (os : Os) (args : Array Value) : laidMetH Tryd.prog laid6 ((World.doorLaid Tryd.prog 400 os).forCall (fun _ _ => 0) ⟨#[], args, []⟩).memory :=
  laidMetH_of_parts3 (fuel := 8) (laidMet_of_run' 8 (by kernel_rfl) (by kernel_rfl)) (by kernel_rfl) (by kernel_rfl)

theorem wf_I64 {n : Int} (h : (Lit.int .i64 n).wf = true) : I64 n := by
  have h' : IntKind.i64.min ≤ n ∧ n ≤ 9223372036854775807 := by simpa [Lit.wf] using h
  exact h'

/-- An argument that is a value: its kind, its number, its bytes. -/
theorem open_val {H : Type} {enc : TypeId × Value → H} {W : World} {base : Nat} {sp : Nat → Bool} {held : Bool} {r : Reach} {b0 : Nat} {v : Value} {d : DataW H} {p : List MemPlace}
    (hv : Value.okWide Tryd.prog W r b0 51 v) (h : DataW.Trod enc Tryd.prog W base sp held 51 v d p) :
    ∃ (k n : Int) (s : ByteArray), v = .agg #[.int .i64 k, .int .i64 n, .string s] ∧ I64 k ∧ I64 n ∧ s.size ≤ maxLen := by
  obtain ⟨v0, v1, v2, y0, y1, y2, m, rfl, -, -, h0, h1, h2⟩ := Joins.open_agg3 Tryd.underlying51 (by kernel_rfl) cellsVal hv h
  obtain ⟨k, e0, -, w0⟩ := DataW.trod_int Tryd.underlying49 h0
  obtain ⟨n, e1, -, w1⟩ := DataW.trod_int Tryd.underlying2 h1
  obtain ⟨s, e2, -, w2⟩ := DataW.trod_string Tryd.underlying9 h2
  simp only [List.cons.injEq, and_true] at e0 e1 e2
  subst e0 e1 e2
  refine ⟨k, n, s, rfl, ?_, ?_, w2⟩
  · exact wf_I64 w0
  · exact wf_I64 w1

end
section
open Go Go.RowKit Go.ChangeShapes Go.WideShapes Go.Deep

set_option maxRecDepth 100000
theorem list_ofY {α : Type} {p : Nat → α → Prop} : ∀ (n : Nat), (∀ i, i < n → ∃ x, p i x) → ∃ T : List α, T.length = n ∧ ∀ i (h : i < T.length), p i T[i]
  | 0, _ => ⟨[], rfl, fun i h => by simp at h⟩
  | n + 1, h => by
    obtain ⟨T, hl, hT⟩ := list_ofY n fun i hi => h i (by omega)
    obtain ⟨x, hx⟩ := h n (by omega)
    refine ⟨T ++ [x], by simp [hl], fun i hi => ?_⟩
    by_cases hin : i < T.length
    · rw [List.getElem_append_left hin]
      exact hT i hin
    · have : i = T.length := by simp at hi; omega
      subst this
      simp only [List.getElem_append_right (Nat.le_refl _), Nat.sub_self, List.getElem_cons_zero]
      rw [hl]
      exact hx
/-- A slice of things, whose things can be opened. -/
theorem open_rowY {α : Type} (Y : Lay α) (Ok : α → Prop) {st et : TypeId} (hu : Tryd.prog.underlying st = some (.slice et)) (hc : Tryd.prog.cellsOf et = Y.sz) (hsz : 0 < Y.sz) {H : Type} {enc : TypeId × Value → H} {W : World} {base : Nat} {sp : Nat → Bool} {held : Bool}
    (elem : ∀ (fuel : Nat) (cs : List Value) (x : DataW H × List MemPlace), DataW.trod enc Tryd.prog W base sp held fuel et cs = some x → ∃ a : α, Y.is (fun _ => True) W cs a ∧ Ok a)
    {fuel : Nat} {cs : List Value} {x : DataW H × List MemPlace} (h : DataW.trod enc Tryd.prog W base sp held fuel st cs = some x) : ∃ v L, cs = [v] ∧ RowIn Y (fun _ => True) W v L ∧ ∀ a ∈ L, Ok a := by
  rcases open_slice hu h with ⟨rfl, -⟩ | ⟨a', len, cap, m, n, D, Pl, rfl, -, hle, hcap, hm, -, hi⟩
  · exact ⟨_, [], rfl, RowIn.nil _ _ _, fun a ha => by cases ha⟩
  · have hlm : len ≤ m := by rw [hm]; split <;> omega
    have hx : ∀ i, i < len → ∃ a : α, (∃ us, Y.is (fun _ => True) W us a ∧ ∀ j u, us[j]? = some u → W.cell? ((a'.add (i * Y.sz)).add j) = some u) ∧ Ok a := by
      intro i hil
      obtain ⟨cs', h1, ht⟩ := hi i (by omega)
      rw [hc] at h1
      obtain ⟨a, ha, hok⟩ := elem _ _ _ ht
      obtain ⟨_, hl, hat⟩ := World.cells?_some h1
      exact ⟨a, ⟨cs', ha, fun j u e => by
        have hj := (List.getElem?_eq_some_iff.1 e).1
        rw [hat j (by omega), e]⟩, hok⟩
    obtain ⟨L, hl, hL⟩ := list_ofY _ hx
    subst hl
    refine ⟨_, L, rfl, ⟨_, cap, rfl, hle, hcap, ?_⟩, fun a ha => ?_⟩
    · by_cases hz : L = []
      · exact .inl hz
      · have h0 : 0 < L.length := List.length_pos_iff.2 hz
        obtain ⟨us0, hus0, hc0⟩ := (hL 0 h0).1
        have hlen0 := Y.len hus0
        have hcc := hc0 0 us0[0] (List.getElem?_eq_getElem (by omega))
        obtain ⟨b, off, spot⟩ := a'
        obtain rfl : spot = none := by
          have := World.cell?_spot hcc
          simpa [Addr.add] using this
        have hadd : ∀ i j, ((⟨b, off, none⟩ : Addr).add i).add j = ⟨b, off + i + j, none⟩ := fun i j => by
          unfold Addr.add
          split <;> split <;> simp_all
        refine .inr ⟨b, off, rfl, trivial, ?_, fun j hj => ?_⟩
        · have hb := World.block_lt_of_cell? W _ hcc
          rw [hadd] at hb
          exact hb
        · obtain ⟨us, hu1, hu2⟩ := (hL j hj).1
          refine ⟨us, hu1, fun i u e => ?_⟩
          have := hu2 i u e
          rw [hadd, Nat.add_assoc] at this
          exact this
    · obtain ⟨i, hi', rfl⟩ := List.getElem_of_mem ha
      exact (hL i hi').2
theorem tr_value {H : Type} {enc : TypeId × Value → H} {W : World} {base : Nat} {sp : Nat → Bool} {held : Bool} {fuel : Nat} {cs : List Value} {x : DataW H × List MemPlace} (h : DataW.trod enc Tryd.prog W base sp held fuel 51 cs = some x) : ∃ v : VL, cs = [.int .i64 v.1, .int .i64 v.2.1, .string v.2.2] ∧ I64 v.2.1 := by
  obtain ⟨ys, n', -, -, hlen, hyl, hf⟩ := DataW.trod_struct Tryd.underlying51 h
  rw [show Tryd.prog.cellsOf 51 = 3 by kernel_rfl] at hlen
  match cs, hlen with
  | [c0, c1, c2], _ =>
    match ys, (show ys.length = 3 from hyl) with
    | [y0, y1, y2], _ =>
      have e0 : DataW.trod enc Tryd.prog W base sp held n' 49 (([c0, c1, c2].drop 0).take (Tryd.prog.cellsOf 49)) = some y0 := hf 0 _ rfl
      rw [show Tryd.prog.cellsOf 49 = 1 by kernel_rfl] at e0
      have e1 : DataW.trod enc Tryd.prog W base sp held n' 2 (([c0, c1, c2].drop 1).take (Tryd.prog.cellsOf 2)) = some y1 := hf 1 _ rfl
      rw [show Tryd.prog.cellsOf 2 = 1 by kernel_rfl] at e1
      have e2 : DataW.trod enc Tryd.prog W base sp held n' 9 (([c0, c1, c2].drop 2).take (Tryd.prog.cellsOf 9)) = some y2 := hf 2 _ rfl
      rw [show Tryd.prog.cellsOf 9 = 1 by kernel_rfl] at e2
      obtain ⟨k, h0, -, w0⟩ := DataW.trod_int Tryd.underlying49 e0
      obtain ⟨n, h1, -, w1⟩ := DataW.trod_int Tryd.underlying2 e1
      obtain ⟨s, h2, -, w2⟩ := DataW.trod_string Tryd.underlying9 e2
      simp at h0 h1 h2
      subst h0 h1 h2
      exact ⟨(k, n, s), rfl, wf_I64 w1⟩
theorem tr_term {H : Type} {enc : TypeId × Value → H} {W : World} {base : Nat} {sp : Nat → Bool} {held : Bool} {fuel : Nat} {cs : List Value} {x : DataW H × List MemPlace} (h : DataW.trod enc Tryd.prog W base sp held fuel 53 cs = some x) : ∃ t : TmL, cs = cellT t ∧ I64 t.val.2.1 := by
  obtain ⟨ys, n', -, -, hlen, hyl, hf⟩ := DataW.trod_struct Tryd.underlying53 h
  rw [show Tryd.prog.cellsOf 53 = 5 by kernel_rfl] at hlen
  match cs, hlen with
  | [c0, c1, c2, c3, c4], _ =>
    match ys, (show ys.length = 3 from hyl) with
    | [y0, y1, y2], _ =>
      have e0 : DataW.trod enc Tryd.prog W base sp held n' 48 (([c0, c1, c2, c3, c4].drop 0).take (Tryd.prog.cellsOf 48)) = some y0 := hf 0 _ rfl
      rw [show Tryd.prog.cellsOf 48 = 1 by kernel_rfl] at e0
      have e1 : DataW.trod enc Tryd.prog W base sp held n' 9 (([c0, c1, c2, c3, c4].drop 1).take (Tryd.prog.cellsOf 9)) = some y1 := hf 1 _ rfl
      rw [show Tryd.prog.cellsOf 9 = 1 by kernel_rfl] at e1
      have e2 : DataW.trod enc Tryd.prog W base sp held n' 51 (([c0, c1, c2, c3, c4].drop 2).take (Tryd.prog.cellsOf 51)) = some y2 := hf 2 _ rfl
      rw [show Tryd.prog.cellsOf 51 = 3 by kernel_rfl] at e2
      obtain ⟨k, h0, -, w0⟩ := DataW.trod_int Tryd.underlying48 e0
      obtain ⟨s, h1, -, w1⟩ := DataW.trod_string Tryd.underlying9 e1
      obtain ⟨v, h2, w2⟩ := tr_value e2
      simp at h0 h1 h2
      obtain ⟨rfl, rfl, rfl⟩ := h2
      subst h0 h1
      exact ⟨⟨k, s.data.toList, v⟩, rfl, w2⟩
/-- All numbers of a part are of 64 bits. -/
def OkA (a : AtL) : Prop := ∀ t ∈ a.args, I64 t.val.2.1
def OkLi (l : LiL) : Prop := OkA l.atom ∧ I64 l.a.val.2.1 ∧ I64 l.b.val.2.1
def OkR (r : RuL) : Prop := OkA r.head ∧ ∀ l ∈ r.body, OkLi l
def OkO (o : OnL) : Prop := ∀ a ∈ o.acts, OkA a.atom
def OkP (p : PrL) : Prop := (∀ o ∈ p.ons, OkO o) ∧ ∀ r ∈ p.rules, OkR r
theorem tr_atom {H : Type} {enc : TypeId × Value → H} {W : World} {base : Nat} {sp : Nat → Bool} {held : Bool} {fuel : Nat} {cs : List Value} {x : DataW H × List MemPlace} (h : DataW.trod enc Tryd.prog W base sp held fuel 24 cs = some x) : ∃ (a : AtL) (u : Value), cs = [.string ⟨a.pred.toArray⟩, u] ∧ RowIn tmY (fun _ => True) W u a.args ∧ OkA a := by
  obtain ⟨ys, n', -, -, hlen, hyl, hf⟩ := DataW.trod_struct Tryd.underlying24 h
  rw [show Tryd.prog.cellsOf 24 = 2 by kernel_rfl] at hlen
  match cs, hlen with
  | [c0, c1], _ =>
    match ys, (show ys.length = 2 from hyl) with
    | [y0, y1], _ =>
      have e0 : DataW.trod enc Tryd.prog W base sp held n' 9 (([c0, c1].drop 0).take (Tryd.prog.cellsOf 9)) = some y0 := hf 0 _ rfl
      rw [show Tryd.prog.cellsOf 9 = 1 by kernel_rfl] at e0
      have e1 : DataW.trod enc Tryd.prog W base sp held n' 22 (([c0, c1].drop 1).take (Tryd.prog.cellsOf 22)) = some y1 := hf 1 _ rfl
      rw [show Tryd.prog.cellsOf 22 = 1 by kernel_rfl] at e1
      obtain ⟨s, h0, -, w0⟩ := DataW.trod_string Tryd.underlying9 e0
      obtain ⟨uL, L, h1, r1, w1⟩ := open_rowY tmY (fun t : TmL => I64 t.val.2.1) Tryd.underlying22 (by kernel_rfl) (by decide) (fun _ _ _ h => tr_term h) e1
      simp at h0 h1
      subst h0 h1
      exact ⟨⟨s.data.toList, L⟩, _, rfl, r1, w1⟩
theorem tr_lit {H : Type} {enc : TypeId × Value → H} {W : World} {base : Nat} {sp : Nat → Bool} {held : Bool} {fuel : Nat} {cs : List Value} {x : DataW H × List MemPlace} (h : DataW.trod enc Tryd.prog W base sp held fuel 57 cs = some x) : ∃ l : LiL, liY.is (fun _ => True) W cs l ∧ OkLi l := by
  obtain ⟨ys, n', -, -, hlen, hyl, hf⟩ := DataW.trod_struct Tryd.underlying57 h
  rw [show Tryd.prog.cellsOf 57 = 14 by kernel_rfl] at hlen
  match cs, hlen with
  | [c0, c1, c2, c3, c4, c5, c6, c7, c8, c9, c10, c11, c12, c13], _ =>
    match ys, (show ys.length = 5 from hyl) with
    | [y0, y1, y2, y3, y4], _ =>
      have e0 : DataW.trod enc Tryd.prog W base sp held n' 54 (([c0, c1, c2, c3, c4, c5, c6, c7, c8, c9, c10, c11, c12, c13].drop 0).take (Tryd.prog.cellsOf 54)) = some y0 := hf 0 _ rfl
      rw [show Tryd.prog.cellsOf 54 = 1 by kernel_rfl] at e0
      have e1 : DataW.trod enc Tryd.prog W base sp held n' 24 (([c0, c1, c2, c3, c4, c5, c6, c7, c8, c9, c10, c11, c12, c13].drop 1).take (Tryd.prog.cellsOf 24)) = some y1 := hf 1 _ rfl
      rw [show Tryd.prog.cellsOf 24 = 2 by kernel_rfl] at e1
      have e2 : DataW.trod enc Tryd.prog W base sp held n' 55 (([c0, c1, c2, c3, c4, c5, c6, c7, c8, c9, c10, c11, c12, c13].drop 3).take (Tryd.prog.cellsOf 55)) = some y2 := hf 2 _ rfl
      rw [show Tryd.prog.cellsOf 55 = 1 by kernel_rfl] at e2
      have e3 : DataW.trod enc Tryd.prog W base sp held n' 53 (([c0, c1, c2, c3, c4, c5, c6, c7, c8, c9, c10, c11, c12, c13].drop 4).take (Tryd.prog.cellsOf 53)) = some y3 := hf 3 _ rfl
      rw [show Tryd.prog.cellsOf 53 = 5 by kernel_rfl] at e3
      have e4 : DataW.trod enc Tryd.prog W base sp held n' 53 (([c0, c1, c2, c3, c4, c5, c6, c7, c8, c9, c10, c11, c12, c13].drop 9).take (Tryd.prog.cellsOf 53)) = some y4 := hf 4 _ rfl
      rw [show Tryd.prog.cellsOf 53 = 5 by kernel_rfl] at e4
      obtain ⟨k, h0, -, w0⟩ := DataW.trod_int Tryd.underlying54 e0
      obtain ⟨a, ua, h1, r1, w1⟩ := tr_atom e1
      obtain ⟨o, h2, -, w2⟩ := DataW.trod_int Tryd.underlying55 e2
      obtain ⟨t, h3, w3⟩ := tr_term e3
      obtain ⟨t2, h4, w4⟩ := tr_term e4
      simp [cellT] at h0 h1 h2 h3 h4
      obtain ⟨rfl, rfl⟩ := h1
      obtain ⟨rfl, rfl, rfl, rfl, rfl⟩ := h3
      obtain ⟨rfl, rfl, rfl, rfl, rfl⟩ := h4
      subst h0 h2
      exact ⟨⟨k, a, o, t, t2⟩, ⟨_, rfl, r1⟩, w1, w3, w4⟩
theorem tr_rule {H : Type} {enc : TypeId × Value → H} {W : World} {base : Nat} {sp : Nat → Bool} {held : Bool} {fuel : Nat} {cs : List Value} {x : DataW H × List MemPlace} (h : DataW.trod enc Tryd.prog W base sp held fuel 27 cs = some x) : ∃ r : RuL, ruY.is (fun _ => True) W cs r ∧ OkR r := by
  obtain ⟨ys, n', -, -, hlen, hyl, hf⟩ := DataW.trod_struct Tryd.underlying27 h
  rw [show Tryd.prog.cellsOf 27 = 3 by kernel_rfl] at hlen
  match cs, hlen with
  | [c0, c1, c2], _ =>
    match ys, (show ys.length = 2 from hyl) with
    | [y0, y1], _ =>
      have e0 : DataW.trod enc Tryd.prog W base sp held n' 24 (([c0, c1, c2].drop 0).take (Tryd.prog.cellsOf 24)) = some y0 := hf 0 _ rfl
      rw [show Tryd.prog.cellsOf 24 = 2 by kernel_rfl] at e0
      have e1 : DataW.trod enc Tryd.prog W base sp held n' 25 (([c0, c1, c2].drop 2).take (Tryd.prog.cellsOf 25)) = some y1 := hf 1 _ rfl
      rw [show Tryd.prog.cellsOf 25 = 1 by kernel_rfl] at e1
      obtain ⟨a, ua, h0, r0, w0⟩ := tr_atom e0
      obtain ⟨uL, L, h1, r1, w1⟩ := open_rowY liY OkLi Tryd.underlying25 (by kernel_rfl) (by decide) (fun _ _ _ h => tr_lit h) e1
      simp at h0 h1
      obtain ⟨rfl, rfl⟩ := h0
      subst h1
      exact ⟨⟨a, L⟩, ⟨_, _, rfl, r0, r1⟩, w0, w1⟩
theorem tr_type {H : Type} {enc : TypeId × Value → H} {W : World} {base : Nat} {sp : Nat → Bool} {held : Bool} {fuel : Nat} {cs : List Value} {x : DataW H × List MemPlace} (h : DataW.trod enc Tryd.prog W base sp held fuel 58 cs = some x) : ∃ n : Int, tyY.is (fun _ => True) W cs n ∧ True := by
  obtain ⟨n, h0, -, -⟩ := DataW.trod_int Tryd.underlying58 h
  exact ⟨n, h0, trivial⟩
theorem tr_decl {H : Type} {enc : TypeId × Value → H} {W : World} {base : Nat} {sp : Nat → Bool} {held : Bool} {fuel : Nat} {cs : List Value} {x : DataW H × List MemPlace} (h : DataW.trod enc Tryd.prog W base sp held fuel 34 cs = some x) : ∃ d : DeL, deY.is (fun _ => True) W cs d ∧ True := by
  obtain ⟨ys, n', -, -, hlen, hyl, hf⟩ := DataW.trod_struct Tryd.underlying34 h
  rw [show Tryd.prog.cellsOf 34 = 3 by kernel_rfl] at hlen
  match cs, hlen with
  | [c0, c1, c2], _ =>
    match ys, (show ys.length = 3 from hyl) with
    | [y0, y1, y2], _ =>
      have e0 : DataW.trod enc Tryd.prog W base sp held n' 9 (([c0, c1, c2].drop 0).take (Tryd.prog.cellsOf 9)) = some y0 := hf 0 _ rfl
      rw [show Tryd.prog.cellsOf 9 = 1 by kernel_rfl] at e0
      have e1 : DataW.trod enc Tryd.prog W base sp held n' 4 (([c0, c1, c2].drop 1).take (Tryd.prog.cellsOf 4)) = some y1 := hf 1 _ rfl
      rw [show Tryd.prog.cellsOf 4 = 1 by kernel_rfl] at e1
      have e2 : DataW.trod enc Tryd.prog W base sp held n' 32 (([c0, c1, c2].drop 2).take (Tryd.prog.cellsOf 32)) = some y2 := hf 2 _ rfl
      rw [show Tryd.prog.cellsOf 32 = 1 by kernel_rfl] at e2
      obtain ⟨s, h0, -, w0⟩ := DataW.trod_string Tryd.underlying9 e0
      obtain ⟨b, h1, -⟩ := DataW.trod_bool Tryd.underlying4 e1
      obtain ⟨uL, L, h2, r2, w2⟩ := open_rowY tyY (fun _ : Int => True) Tryd.underlying32 (by kernel_rfl) (by decide) (fun _ _ _ h => tr_type h) e2
      simp at h0 h1 h2
      subst h0 h1 h2
      exact ⟨⟨b, s.data.toList, L⟩, ⟨_, rfl, r2⟩, trivial⟩
theorem tr_param {H : Type} {enc : TypeId × Value → H} {W : World} {base : Nat} {sp : Nat → Bool} {held : Bool} {fuel : Nat} {cs : List Value} {x : DataW H × List MemPlace} (h : DataW.trod enc Tryd.prog W base sp held fuel 60 cs = some x) : ∃ p : List UInt8 × Int, paY.is (fun _ => True) W cs p ∧ True := by
  obtain ⟨ys, n', -, -, hlen, hyl, hf⟩ := DataW.trod_struct Tryd.underlying60 h
  rw [show Tryd.prog.cellsOf 60 = 2 by kernel_rfl] at hlen
  match cs, hlen with
  | [c0, c1], _ =>
    match ys, (show ys.length = 2 from hyl) with
    | [y0, y1], _ =>
      have e0 : DataW.trod enc Tryd.prog W base sp held n' 9 (([c0, c1].drop 0).take (Tryd.prog.cellsOf 9)) = some y0 := hf 0 _ rfl
      rw [show Tryd.prog.cellsOf 9 = 1 by kernel_rfl] at e0
      have e1 : DataW.trod enc Tryd.prog W base sp held n' 58 (([c0, c1].drop 1).take (Tryd.prog.cellsOf 58)) = some y1 := hf 1 _ rfl
      rw [show Tryd.prog.cellsOf 58 = 1 by kernel_rfl] at e1
      obtain ⟨s, h0, -, w0⟩ := DataW.trod_string Tryd.underlying9 e0
      obtain ⟨n, h1, -, w1⟩ := DataW.trod_int Tryd.underlying58 e1
      simp at h0 h1
      subst h0 h1
      exact ⟨(s.data.toList, n), rfl, trivial⟩
theorem tr_act {H : Type} {enc : TypeId × Value → H} {W : World} {base : Nat} {sp : Nat → Bool} {held : Bool} {fuel : Nat} {cs : List Value} {x : DataW H × List MemPlace} (h : DataW.trod enc Tryd.prog W base sp held fuel 62 cs = some x) : ∃ c : ActL, acY.is (fun _ => True) W cs c ∧ OkA c.atom := by
  obtain ⟨ys, n', -, -, hlen, hyl, hf⟩ := DataW.trod_struct Tryd.underlying62 h
  rw [show Tryd.prog.cellsOf 62 = 3 by kernel_rfl] at hlen
  match cs, hlen with
  | [c0, c1, c2], _ =>
    match ys, (show ys.length = 2 from hyl) with
    | [y0, y1], _ =>
      have e0 : DataW.trod enc Tryd.prog W base sp held n' 4 (([c0, c1, c2].drop 0).take (Tryd.prog.cellsOf 4)) = some y0 := hf 0 _ rfl
      rw [show Tryd.prog.cellsOf 4 = 1 by kernel_rfl] at e0
      have e1 : DataW.trod enc Tryd.prog W base sp held n' 24 (([c0, c1, c2].drop 1).take (Tryd.prog.cellsOf 24)) = some y1 := hf 1 _ rfl
      rw [show Tryd.prog.cellsOf 24 = 2 by kernel_rfl] at e1
      obtain ⟨b, h0, -⟩ := DataW.trod_bool Tryd.underlying4 e0
      obtain ⟨a, ua, h1, r1, w1⟩ := tr_atom e1
      simp at h0 h1
      obtain ⟨rfl, rfl⟩ := h1
      subst h0
      exact ⟨⟨b, a⟩, ⟨_, rfl, r1⟩, w1⟩
theorem tr_on {H : Type} {enc : TypeId × Value → H} {W : World} {base : Nat} {sp : Nat → Bool} {held : Bool} {fuel : Nat} {cs : List Value} {x : DataW H × List MemPlace} (h : DataW.trod enc Tryd.prog W base sp held fuel 31 cs = some x) : ∃ o : OnL, onY.is (fun _ => True) W cs o ∧ OkO o := by
  obtain ⟨ys, n', -, -, hlen, hyl, hf⟩ := DataW.trod_struct Tryd.underlying31 h
  rw [show Tryd.prog.cellsOf 31 = 3 by kernel_rfl] at hlen
  match cs, hlen with
  | [c0, c1, c2], _ =>
    match ys, (show ys.length = 3 from hyl) with
    | [y0, y1, y2], _ =>
      have e0 : DataW.trod enc Tryd.prog W base sp held n' 9 (([c0, c1, c2].drop 0).take (Tryd.prog.cellsOf 9)) = some y0 := hf 0 _ rfl
      rw [show Tryd.prog.cellsOf 9 = 1 by kernel_rfl] at e0
      have e1 : DataW.trod enc Tryd.prog W base sp held n' 28 (([c0, c1, c2].drop 1).take (Tryd.prog.cellsOf 28)) = some y1 := hf 1 _ rfl
      rw [show Tryd.prog.cellsOf 28 = 1 by kernel_rfl] at e1
      have e2 : DataW.trod enc Tryd.prog W base sp held n' 29 (([c0, c1, c2].drop 2).take (Tryd.prog.cellsOf 29)) = some y2 := hf 2 _ rfl
      rw [show Tryd.prog.cellsOf 29 = 1 by kernel_rfl] at e2
      obtain ⟨s, h0, -, w0⟩ := DataW.trod_string Tryd.underlying9 e0
      obtain ⟨uL, L, h1, r1, w1⟩ := open_rowY paY (fun _ : List UInt8 × Int => True) Tryd.underlying28 (by kernel_rfl) (by decide) (fun _ _ _ h => tr_param h) e1
      obtain ⟨uL2, L2, h2, r2, w2⟩ := open_rowY acY (fun c : ActL => OkA c.atom) Tryd.underlying29 (by kernel_rfl) (by decide) (fun _ _ _ h => tr_act h) e2
      simp at h0 h1 h2
      subst h0 h1 h2
      exact ⟨⟨s.data.toList, L, L2⟩, ⟨_, _, rfl, r1, r2⟩, w2⟩

/-- An argument that is a struct of such cells. -/
theorem open_struct {α : Type} (Y : Lay α) (Ok : α → Prop) {t : TypeId} {fs : Array Field} (hu : Tryd.prog.underlying t = some (.struct fs)) {H : Type} {enc : TypeId × Value → H} {W : World} {base : Nat} {sp : Nat → Bool} {held : Bool}
    (elem : ∀ (fuel : Nat) (cs : List Value) (x : DataW H × List MemPlace), DataW.trod enc Tryd.prog W base sp held fuel t cs = some x → ∃ a : α, Y.is (fun _ => True) W cs a ∧ Ok a)
    {r : Reach} {b0 : Nat} {v : Value} {d : DataW H} {p : List MemPlace} (hv : Value.okWide Tryd.prog W r b0 t v) (h : DataW.Trod enc Tryd.prog W base sp held t v d p) : ∃ us a, v = .agg us.toArray ∧ Y.is (fun _ => True) W us a ∧ Ok a := by
  obtain ⟨cs, rfl, -⟩ := okWide_struct hu hv
  obtain ⟨fuel, hf⟩ := h
  have hf' : DataW.trod enc Tryd.prog W base sp held fuel t cs.toList = some (d, p) := by simpa [Value.cells] using hf
  obtain ⟨a, ha, hok⟩ := elem _ _ _ hf'
  exact ⟨cs.toList, a, by simp, ha, hok⟩
theorem el_term {H : Type} {enc : TypeId × Value → H} {W : World} {base : Nat} {sp : Nat → Bool} {held : Bool} {fuel : Nat} {cs : List Value} {x : DataW H × List MemPlace} (h : DataW.trod enc Tryd.prog W base sp held fuel 53 cs = some x) : ∃ t : TmL, tmY.is (fun _ => True) W cs t ∧ I64 t.val.2.1 := tr_term h
end
end Go.Proofs.YtfjpiofinffpfaaDoor
