/-
  Arguments opened: a tuple (its slice value, the values that its cells hold).
  The frame of a pack law's proof: closed facts on the program; an argument that is a byte slice, opened.
  Contracts of the pack laws' own cut, short and begins, of the document's Is and Compare at tuples.
-/
import Derived.Test.YtdjhfcopnhcljaaGreatDoorW02
import Derived.Deep.Slices
import Derived.Deep.Fields
import Derived.ChangeSame
import Derived.WideShapes
import Derived.ProofKit
import Derived.OpenShut
import Derived.ChangeOld
import Derived.Lib.SmallJoins
import Derived.Test.YtdjhfcopnhcljaaGreatDoorW09
import Derived.Test.YtdjhfcopnhcljaaGreatDoorW06
namespace Go.Proofs.YtdjhfcopnhcljaaGreatDoor
section
open Go Go.RowKit Go.ChangeShapes Go.WideShapes Go.Deep

set_option maxRecDepth 100000
theorem cellsValT : Tryz.prog.cellsOf 92 = 3 := by kernel_rfl
theorem cellsKT : Tryz.prog.cellsOf 90 = 1 := by kernel_rfl
theorem cellsNT : Tryz.prog.cellsOf 2 = 1 := by kernel_rfl
theorem cellsST : Tryz.prog.cellsOf 9 = 1 := by kernel_rfl
theorem wf_int {n : Int} (h : (Lit.int .i64 n).wf = true) : -9223372036854775808 ≤ n ∧ n ≤ 9223372036854775807 := by
  have h' : IntKind.i64.min ≤ n ∧ n ≤ 9223372036854775807 := by simpa [Lit.wf] using h
  exact h'
theorem wf_u64 {n : Int} (h : (Lit.int .u64 n).wf = true) : 0 ≤ n ∧ n ≤ 18446744073709551615 := by
  have h' : 0 ≤ n ∧ n ≤ IntKind.u64.max := by simpa [Lit.wf, IntKind.min, IntKind.signed] using h
  exact h'
theorem list_of {α : Type} {p : Nat → α → Prop} : ∀ (n : Nat), (∀ i, i < n → ∃ x, p i x) → ∃ T : List α, T.length = n ∧ ∀ i (h : i < T.length), p i T[i]
  | 0, _ => ⟨[], rfl, fun i h => by simp at h⟩
  | n + 1, h => by
    obtain ⟨T, hl, hT⟩ := list_of n fun i hi => h i (by omega)
    obtain ⟨x, hx⟩ := h n (by omega)
    refine ⟨T ++ [x], by simp [hl], fun i hi => ?_⟩
    by_cases hin : i < T.length
    · rw [List.getElem_append_left hin]
      exact hT i hin
    · have : i = T.length := by simp at hi; omega
      subst this
      rw [List.getElem_append_right (Nat.le_refl _)]
      simp only [Nat.sub_self, List.getElem_cons_zero]
      rw [hl]
      exact hx
/-- What an opened value is known by. -/
def FitV (x : V3) : Prop := (-9223372036854775808 ≤ x.n ∧ x.n ≤ 9223372036854775807) ∧ x.s.size ≤ maxLen
/-- One value's three cells. -/
theorem open_three {H : Type} {enc : TypeId × Value → H} {W : World} {base : Nat} {sp : Nat → Bool} {held : Bool} {fuel : Nat} {cs : List Value} {x : DataW H × List MemPlace} (h : DataW.trod enc Tryz.prog W base sp held fuel 92 cs = some x) :
    ∃ v : V3, cs = [.int .i64 v.k, .int .i64 v.n, .string v.s] ∧ FitV v := by
  obtain ⟨ys, n', -, -, hlen, hyl, hf⟩ := DataW.trod_struct Tryz.underlying92 h
  rw [cellsValT] at hlen
  match cs, hlen with
  | [c0, c1, c2], _ =>
    have hy : ys.length = 3 := hyl
    match ys, hy with
    | [y0, y1, y2], _ =>
      have e0 : DataW.trod enc Tryz.prog W base sp held n' 90 (([c0, c1, c2].drop 0).take (Tryz.prog.cellsOf 90)) = some y0 := hf 0 _ rfl
      have e1 : DataW.trod enc Tryz.prog W base sp held n' 2 (([c0, c1, c2].drop 1).take (Tryz.prog.cellsOf 2)) = some y1 := hf 1 _ rfl
      have e2 : DataW.trod enc Tryz.prog W base sp held n' 9 (([c0, c1, c2].drop 2).take (Tryz.prog.cellsOf 9)) = some y2 := hf 2 _ rfl
      rw [cellsKT] at e0
      rw [cellsNT] at e1
      rw [cellsST] at e2
      obtain ⟨k, hk, -, -⟩ := DataW.trod_int Tryz.underlying90 e0
      obtain ⟨n, hn, -, wn⟩ := DataW.trod_int Tryz.underlying2 e1
      obtain ⟨s, hs, -, ws⟩ := DataW.trod_string Tryz.underlying9 e2
      simp at hk hn hs
      subst hk hn hs
      exact ⟨⟨k, n, s⟩, rfl, wf_int wn, ws⟩
/-- A slice value that an argument brings: its values, wherever they lie. -/
def ArgT (W : World) (v : Value) (T : List V3) : Prop :=
  ∃ (pa : Option Addr) (cap : Nat), v = .slice pa T.length cap ∧ T.length ≤ cap ∧ cap ≤ maxLen ∧ (T = [] ∨ ∃ b off, pa = some ⟨b, off, none⟩ ∧ b < W.heap.size ∧ CellsAt W b off T) ∧ ∀ x ∈ T, FitV x
theorem open_tup {H : Type} {enc : TypeId × Value → H} {W : World} {base : Nat} {sp : Nat → Bool} {held : Bool} {r : Reach} {b0 : Nat} {v : Value} {d : DataW H} {p : List MemPlace}
    (hv : Value.okWide Tryz.prog W r b0 64 v) (h : DataW.Trod enc Tryz.prog W base sp held 64 v d p) : ∃ T : List V3, ArgT W v T := by
  obtain ⟨a, len, cap, rfl⟩ := okWide_slice Tryz.underlying64 hv
  obtain ⟨fuel, hf⟩ := h
  have hf' : DataW.trod enc Tryz.prog W base sp held fuel 64 [.slice a len cap] = some (d, p) := hf
  rcases open_slice Tryz.underlying64 hf' with ⟨e, -⟩ | ⟨a', len', cap', m, n, D, Pl, e, -, hle, hcap, hm, -, hi⟩
  · simp at e
    obtain ⟨rfl, rfl, rfl⟩ := e
    exact ⟨[], none, 0, rfl, Nat.le_refl _, Nat.zero_le _, .inl rfl, fun x hx => by cases hx⟩
  · simp at e
    obtain ⟨rfl, rfl, rfl⟩ := e
    have hlm : len ≤ m := by rw [hm]; split <;> omega
    have hx : ∀ i, i < len → ∃ x : V3, (W.cell? ((a'.add (i * 3)).add 0) = some (.int .i64 x.k) ∧ W.cell? ((a'.add (i * 3)).add 1) = some (.int .i64 x.n) ∧ W.cell? ((a'.add (i * 3)).add 2) = some (.string x.s)) ∧ FitV x := by
      intro i hil
      obtain ⟨cs', hc, ht⟩ := hi i (by omega)
      rw [cellsValT] at hc
      obtain ⟨x, rfl, hI⟩ := open_three ht
      obtain ⟨_, _, hat⟩ := World.cells?_some hc
      exact ⟨x, ⟨hat 0 (by omega), hat 1 (by omega), hat 2 (by omega)⟩, hI⟩
    obtain ⟨T, rfl, hT⟩ := list_of _ hx
    refine ⟨T, some a', cap, rfl, hle, hcap, ?_, fun x hx => ?_⟩
    · by_cases hz : T = []
      · exact .inl hz
      · have h0 : 0 < T.length := List.length_pos_iff.2 hz
        have hc0 := (hT 0 h0).1.1
        obtain ⟨b, off, spot⟩ := a'
        obtain rfl : spot = none := by
          have := World.cell?_spot hc0
          simpa [Addr.add] using this
        have hadd : ∀ i j, ((⟨b, off, none⟩ : Addr).add i).add j = ⟨b, off + i + j, none⟩ := fun i j => by
          unfold Addr.add
          split <;> split <;> simp_all
        refine .inr ⟨b, off, rfl, ?_, fun j hj => ?_⟩
        · have hb := World.block_lt_of_cell? W _ hc0
          rw [hadd] at hb
          exact hb
        · obtain ⟨⟨x0, x1, x2⟩, -⟩ := hT j hj
          rw [hadd] at x0 x1 x2
          exact ⟨x0, x1, x2⟩
    · obtain ⟨i, hi', rfl⟩ := List.getElem_of_mem hx
      exact (hT i hi').2
theorem CellsAt.keep {n₀ : Nat} {W W' : World} {T : List V3} {pa : Option Addr} (h : T = [] ∨ ∃ b off, pa = some ⟨b, off, none⟩ ∧ b < n₀ ∧ CellsAt W b off T) (hb : Below n₀ W W') : T = [] ∨ ∃ b off, pa = some ⟨b, off, none⟩ ∧ b < n₀ ∧ CellsAt W' b off T := by
  rcases h with h | ⟨b, off, rfl, hlt, hc⟩
  · exact .inl h
  · exact .inr ⟨b, off, rfl, hlt, hc.below hb hlt⟩
theorem ArgT.below {W W' : World} {v : Value} {T : List V3} (h : ArgT W v T) (hb : Below W.heap.size W W') : ArgT W' v T := by
  obtain ⟨pa, cap, rfl, h1, h2, h3, h4⟩ := h
  refine ⟨pa, cap, rfl, h1, h2, ?_, h4⟩
  rcases CellsAt.keep h3 hb with h | ⟨b, off, e, hlt, hc⟩
  · exact .inl h
  · exact .inr ⟨b, off, e, by have := hb.size; omega, hc⟩
end
section
open Go Go.RowKit Go.ChangeShapes Go.WideShapes Go.Deep

set_option maxRecDepth 100000
theorem own : ownKnob Tryz.prog.godebug = none := by kernel_rfl
theorem laidOut : laidOutB Tryz.prog = true := by kernel_rfl
theorem cellsU8 : Tryz.prog.cellsOf 5 = 1 := by kernel_rfl
/-- A byte slice that an argument brings. -/
def ArgB (W : World) (v : Value) (l : List UInt8) : Prop := BytIn W.heap.size W v l ∧ ∃ (p : Option Addr) (cap : Nat), v = .slice p l.length cap ∧ l.length ≤ cap ∧ cap ≤ maxLen
theorem open_byt {H : Type} {enc : TypeId × Value → H} {W : World} {base : Nat} {sp : Nat → Bool} {held : Bool} {r : Reach} {b0 : Nat} {v : Value} {d : DataW H} {p : List MemPlace}
    (hv : Value.okWide Tryz.prog W r b0 24 v) (h : DataW.Trod enc Tryz.prog W base sp held 24 v d p) : ∃ l : List UInt8, ArgB W v l := by
  obtain ⟨a, len, cap, rfl⟩ := okWide_slice Tryz.underlying24 hv
  obtain ⟨fuel, hf⟩ := h
  have hf' : DataW.trod enc Tryz.prog W base sp held fuel 24 [.slice a len cap] = some (d, p) := hf
  rcases open_slice Tryz.underlying24 hf' with ⟨e, -⟩ | ⟨a', len', cap', m, n, D, Pl, e, -, hle, hcap, hm, -, hi⟩
  · simp at e
    obtain ⟨rfl, rfl, rfl⟩ := e
    exact ⟨[], .inl ⟨rfl, rfl⟩, none, 0, rfl, Nat.le_refl _, Nat.zero_le _⟩
  · simp at e
    obtain ⟨rfl, rfl, rfl⟩ := e
    have hlm : len ≤ m := by rw [hm]; split <;> omega
    have hx : ∀ i, i < len → ∃ c : UInt8, W.cell? (a'.add i) = some (.int .u8 (c.toNat : Int)) := by
      intro i hil
      obtain ⟨cs', hc, ht⟩ := hi i (by omega)
      rw [cellsU8] at hc
      obtain ⟨_, hcl, hat⟩ := World.cells?_some hc
      match cs', hcl with
      | [c0], _ =>
        obtain ⟨k, hk, -, wk⟩ := DataW.trod_int Tryz.underlying5 ht
        simp at hk
        subst hk
        have h0 := hat 0 (by omega)
        have e0 : (a'.add (i * 1)).add 0 = a'.add i := by unfold Addr.add; simp
        rw [e0] at h0
        have wk' : 0 ≤ k ∧ k ≤ 255 := by simpa [Lit.wf, IntKind.min, IntKind.max, IntKind.signed, IntKind.bits] using wk
        refine ⟨UInt8.ofNat k.toNat, ?_⟩
        rw [u8_cell wk']
        exact h0
    obtain ⟨l, rfl, hl⟩ := list_of _ hx
    refine ⟨l, .inr ⟨a', cap, rfl, fun j hj => ⟨?_, hl j hj⟩⟩, some a', cap, rfl, hle, hcap⟩
    have hb := World.block_lt_of_cell? W _ (hl j hj)
    rwa [add_block] at hb
theorem ArgB.below {W W' : World} {v : Value} {l : List UInt8} (h : ArgB W v l) (hb : Below W.heap.size W W') : ArgB W' v l := ⟨(h.1.below hb).mono hb.size, h.2⟩
end
section
open Go Go.RowKit

/-- At most 300 bytes are looked at. -/
def pcutB (s : ByteArray) : ByteArray := if s.size ≤ 300 then s else s.extract 0 300
theorem cutB_le {s : ByteArray} (h : s.size ≤ 300) : pcutB s = s := by unfold pcutB; rw [if_pos h]
theorem cutB_gt {s : ByteArray} (h : 300 < s.size) : pcutB s = s.extract 0 300 := by unfold pcutB; rw [if_neg (by omega)]
def pcutV (x : V3) : V3 := ⟨x.k, x.n, pcutB x.s⟩
/-- What the laws look at of a tuple. -/
def cutT (T : List V3) : List V3 := (T.take 9).map pcutV
theorem cutT_len (T : List V3) : (cutT T).length ≤ 9 := by unfold cutT; rw [List.length_map]; exact List.length_take_le _ _
theorem cutT_I {T : List V3} (h : AllI T) : AllI (cutT T) := by
  intro x hx
  obtain ⟨y, hy, rfl⟩ := List.mem_map.1 hx
  exact h y (List.mem_of_mem_take hy)
theorem cut_step {T : List V3} {k : Nat} (hk : k < (T.take 9).length) (hk' : k < T.length) : ((T.take 9).take k).map pcutV ++ [pcutV T[k]] = ((T.take 9).take (k + 1)).map pcutV := by
  rw [List.take_succ_eq_append_getElem hk, List.map_append]
  simp
/-- What cut answers: a tuple of the call's own. -/
def EndR (T : List V3) (w : World) (e : Ending) (w' : World) : Prop := ∃ v, e = .returned v ∧ OwnR w.heap.size w' v T ∧ Below w.heap.size w w'
theorem row_room (T : List V3) (k : Nat) : (((T.take 9).take k).map pcutV).length ≤ 1000000 := by
  rw [List.length_map]
  have h1 := List.length_take_le k (T.take 9)
  have h2 := List.length_take_le' k (T.take 9)
  have h3 := List.length_take_le 9 T
  omega
theorem lit_in2 (w : World) (o : Obj) (x : V3) : TupIn (w.heap.size + 2) ((w.alloc o).alloc (.cells #[.int .i64 x.k, .int .i64 x.n, .string x.s] 92)) (.slice (some ⟨w.heap.size + 1, 0, none⟩) 1 1) [x] := by
  have h := lit_in (w.alloc o) x
  rw [show (w.alloc o).heap.size = w.heap.size + 1 by simp] at h
  exact h
theorem below_2b {w wr : World} (h : Below w.heap.size w wr) (o o' : Obj) : Below w.heap.size w ((wr.alloc o).alloc o') := (h.alloc h.size o).alloc (by have := h.size; simp; omega) o'

end
end Go.Proofs.YtdjhfcopnhcljaaGreatDoor
