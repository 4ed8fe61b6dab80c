/-
  The frame of a crc law's proof: what the row's condition on the table gives the walks ('Glob'), the start that meets it; an argument that is a byte slice, opened; the laws' own cut.
-/
import Derived.Test.YteaeiejkdnbcnaaDoorCrRg
import Derived.ProofKit
import Derived.LaidMore
import Derived.OpenShut
import Derived.ChangeOld
import Derived.ChangeSame
import Derived.WideShapes
import Derived.Deep.Slices
import Derived.Deep.Fields
import Derived.Stop.Joined
import Derived.Stop.LaidErr
import Derived.Lib.SmallJoins
namespace Go.Proofs.YteaeiejkdnbcnaaDoor
open Go Go.ChangeShapes Go.WideShapes Go.ChangeAt Go.RowKit Go.Deep

set_option maxRecDepth 100000
theorem own : ownKnob Tryd.prog.godebug = none := by kernel_rfl
theorem laidOut : laidOutB Tryd.prog = true := by kernel_rfl
theorem tyTab : (Tryd.prog.globals[0]?).map (·.type) = some 69 := by kernel_rfl
theorem cellsTab : Tryd.prog.cellsOf 69 = 16 := by kernel_rfl
theorem cellsU32 : Tryd.prog.cellsOf 27 = 1 := by kernel_rfl
theorem cellsU8 : Tryd.prog.cellsOf 5 = 1 := by kernel_rfl
/-- What every row of these laws lists. -/
def laid4 {H : Type} : List (String × DataW H) := [("pedigree/crc.nibbles", Rows.laid_pedigree_crc_nibbles)]
theorem glob_of_laid {W : World} (h0 : laidMetH Tryd.prog laid4 W) : Glob W := by
  rw [MakeChecks.laidMetH_plain _ _ _ (by kernel_rfl)] at h0
  have tab := Lib.tabIs_of_head (k := .u32) (zs := nibL.map Int.ofNat) gTab tyTab Tryd.underlying69 Tryd.underlying27 cellsU32 cellsTab h0
  refine ⟨tab, ?_⟩
  unfold Lib.TabIs World.var? at tab
  rw [gTab] at tab
  simp only [Option.bind_some] at tab
  rcases Nat.lt_or_ge 0 W.heap.size with hl | hl
  · exact hl
  · rw [Array.getElem?_eq_none hl] at tab
    cases tab
/-- The door's own heap meets the condition. -/
theorem door_met (os : Os) (args : Array Value) : laidMetH Tryd.prog laid4 ((World.doorLaid Tryd.prog 400 os).forCall (fun _ _ => 0) ⟨#[], args, []⟩).memory :=
  laidMetH_of_parts3 (fuel := 8) (laidMet_of_run' 8 (by kernel_rfl) (by kernel_rfl)) (by kernel_rfl) (by kernel_rfl)

theorem list_of {α : Type} {p : Nat → α → Prop} : ∀ (n : Nat), (∀ i, i < n → ∃ x, p i x) → ∃ T : List α, T.length = n ∧ ∀ i (h : i < T.length), p i T[i]
  | 0, _ => ⟨[], rfl, fun i h => by simp at h⟩
  | n + 1, h => by
    obtain ⟨T, hl, hT⟩ := list_of n fun i hi => h i (by omega)
    obtain ⟨x, hx⟩ := h n (by omega)
    refine ⟨T ++ [x], by simp [hl], fun i hi => ?_⟩
    by_cases hin : i < T.length
    · rw [List.getElem_append_left hin]
      exact hT i hin
    · have : i = T.length := by simp at hi; omega
      subst this
      rw [List.getElem_append_right (Nat.le_refl _)]
      simp only [Nat.sub_self, List.getElem_cons_zero]
      rw [hl]
      exact hx
theorem wf_u8 {n : Int} (h : (Lit.int .u8 n).wf = true) : 0 ≤ n ∧ n ≤ 255 := by simpa [Lit.wf, IntKind.min, IntKind.max, IntKind.signed, IntKind.bits] using h
theorem wf_u32 {n : Int} (h : (Lit.int .u32 n).wf = true) : 0 ≤ n ∧ n ≤ 4294967295 := by simpa [Lit.wf, IntKind.min, IntKind.max, IntKind.signed, IntKind.bits] using h
theorem wf_u64 {n : Int} (h : (Lit.int .u64 n).wf = true) : 0 ≤ n ∧ n ≤ 18446744073709551615 := by
  have h' : 0 ≤ n ∧ n ≤ IntKind.u64.max := by simpa [Lit.wf, IntKind.min, IntKind.signed] using h
  exact h'
theorem reg_of {n : Int} (h : 0 ≤ n ∧ n ≤ 4294967295) : ∃ x : Reg, n = rg x := by
  refine ⟨BitVec.ofNat 32 n.toNat, ?_⟩
  unfold rg
  rw [BitVec.toNat_ofNat]
  omega
/-- The reading of a slice of bytes. -/
theorem byt_of_trod {H : Type} {enc : TypeId × Value → H} {W : World} {base : Nat} {sp : Nat → Bool} {held : Bool} {fuel : Nat} {v : Value} {d : DataW H × List MemPlace}
    (hf' : DataW.trod enc Tryd.prog W base sp held fuel 22 [v] = some d) : ∃ l : List UInt8, ByC W.heap.size W v l := by
  rcases open_slice Tryd.underlying22 hf' with ⟨e, -⟩ | ⟨a', len, cap, m, n, D, Pl, e, -, hle, hcap, hm, -, hi⟩
  · simp at e
    subst e
    exact ⟨[], .inl ⟨rfl, rfl⟩, none, 0, rfl, Nat.le_refl _, Nat.zero_le _⟩
  · simp at e
    subst e
    have hlm : len ≤ m := by rw [hm]; split <;> omega
    have hx : ∀ i, i < len → ∃ c : UInt8, W.cell? (a'.add i) = some (.int .u8 (c.toNat : Int)) := by
      intro i hil
      obtain ⟨cs', hc, ht⟩ := hi i (by omega)
      rw [cellsU8] at hc
      obtain ⟨_, hcl, hat⟩ := World.cells?_some hc
      match cs', hcl with
      | [c0], _ =>
        obtain ⟨k, hk, -, wk⟩ := DataW.trod_int Tryd.underlying5 ht
        simp at hk
        subst hk
        have h0 := hat 0 (by omega)
        have e0 : (a'.add (i * 1)).add 0 = a'.add i := by unfold Addr.add; simp
        rw [e0] at h0
        refine ⟨UInt8.ofNat k.toNat, ?_⟩
        rw [u8_cell (wf_u8 wk)]
        exact h0
    obtain ⟨l, rfl, hl⟩ := list_of _ hx
    refine ⟨l, .inr ⟨a', cap, rfl, fun j hj => ⟨?_, hl j hj⟩⟩, some a', cap, rfl, hle, hcap⟩
    have hb := World.block_lt_of_cell? W _ (hl j hj)
    rwa [add_block] at hb
theorem cellsPc : Tryd.prog.cellsOf 35 = 2 := by kernel_rfl
/-- A piece that an argument brings. -/
def PcV (W : World) (v : Value) (k : UInt8) (l : List UInt8) : Prop := ∃ s, v = .agg #[.int .u8 (k.toNat : Int), s] ∧ ByC W.heap.size W s l
theorem open_piece {H : Type} {enc : TypeId × Value → H} {W : World} {base : Nat} {sp : Nat → Bool} {held : Bool} {r : Reach} {b0 : Nat} {v : Value} {d : DataW H} {p : List MemPlace}
    (hv : Value.okWide Tryd.prog W r b0 35 v) (h : DataW.Trod enc Tryd.prog W base sp held 35 v d p) : ∃ (k : UInt8) (l : List UInt8), PcV W v k l := by
  obtain ⟨v0, v1, y0, y1, m, rfl, -, -, h0, h1⟩ := Joins.open_agg2 Tryd.underlying35 (by kernel_rfl) cellsPc hv h
  obtain ⟨k, e0, -, w0⟩ := DataW.trod_int Tryd.underlying5 h0
  obtain ⟨l, hl⟩ := byt_of_trod h1
  simp only [List.cons.injEq, and_true] at e0
  subst e0
  exact ⟨UInt8.ofNat k.toNat, l, v1, by rw [u8_cell (wf_u8 w0)], hl⟩
theorem open_byt {H : Type} {enc : TypeId × Value → H} {W : World} {base : Nat} {sp : Nat → Bool} {held : Bool} {r : Reach} {b0 : Nat} {v : Value} {d : DataW H} {p : List MemPlace}
    (hv : Value.okWide Tryd.prog W r b0 22 v) (h : DataW.Trod enc Tryd.prog W base sp held 22 v d p) : ∃ l : List UInt8, ByC W.heap.size W v l := by
  obtain ⟨a, len, cap, rfl⟩ := okWide_slice Tryd.underlying22 hv
  obtain ⟨fuel, hf⟩ := h
  exact byt_of_trod hf

/-- What cut answers: the first 3000 bytes, where they lie. -/
def CutEnd (n₀ : Nat) (l : List UInt8) (w : World) (e : Ending) (w' : World) : Prop := ∃ v, e = .returned v ∧ ByC n₀ w v (l.take 3000) ∧ w = w'
set_option maxHeartbeats 400000 in
theorem cut_any {n₀ : Nat} (v : Value) (l : List UInt8) (w : World) (h : ByC n₀ w v l) : Calls Tryd.prog 10 #[v] w (CutEnd n₀ l w) := by
  obtain ⟨hb, p, c, rfl, h1, h2⟩ := h
  have HB := Lib.hid hb
  have HM := Lib.hid h2
  unfold maxLen at h2
  have g1 : (l.length : Int) ≤ (c : Int) := by omega
  have g2 : (c : Int) ≤ 9223372036854775807 := by omega
  rcases Nat.lt_or_ge 3000 l.length with h | h
  · have h' : (3000 : Int) < (l.length : Int) := by omega
    have hc : (3000 : Int) ≤ (c : Int) := by omega
    have HE : Hid (ByC n₀ w (.slice p 3000 c) (l.take 3000)) := Lib.hid (by
      rcases hb with ⟨e, rfl⟩ | ⟨a, c', e, hx⟩
      · simp at h
      · injection e with e1 e2 e3
        subst e1 e3
        exact ByC.take (.inr ⟨a, c, rfl, hx⟩) h1 HM.out 3000 (by omega))
    clear hb
    go_enter Tryd.func10, Tryd.ntmps10
    go_wp2_with fail
    go_ret
    exact ⟨_, rfl, HE.out, rfl⟩
  · have h' : (l.length : Int) ≤ 3000 := by omega
    have HE : Hid (ByC n₀ w (.slice p l.length c) (l.take 3000)) := Lib.hid (by
      rw [List.take_of_length_le h]
      exact ⟨HB.out, p, c, rfl, h1, HM.out⟩)
    clear hb
    go_enter Tryd.func10, Tryd.ntmps10
    go_wp2_with fail
    go_ret
    exact ⟨_, rfl, HE.out, rfl⟩
end Go.Proofs.YteaeiejkdnbcnaaDoor
