/-
  Contract of tuple.CheckPattern; patterns and bindings in memory; slices.IndexFunc at names; tuple.bind.
-/
import Derived.Test.YtaogfgohchpnoaaDoorTbW
import Derived.Test.YtaogfgohchpnoaaDoorTupO
import Derived.Deep.RegionHeld3
import Derived.Deep.AppendLies
namespace Go.Proofs.YtaogfgohchpnoaaDoor
open Go Go.RowKit

/-- The cells from a place on hold a pattern. -/
def PatAt (W : World) (b off : Nat) (p : List Tm) : Prop :=
  ∀ j (h : j < p.length), W.cell? ⟨b, off + j * 5, none⟩ = some (.int .i64 p[j].k) ∧ W.cell? ⟨b, off + j * 5 + 1, none⟩ = some (.string p[j].nm) ∧ W.cell? ⟨b, off + j * 5 + 2, none⟩ = some (.int .i64 p[j].v.k) ∧ W.cell? ⟨b, off + j * 5 + 3, none⟩ = some (.int .i64 p[j].v.n) ∧ W.cell? ⟨b, off + j * 5 + 4, none⟩ = some (.string p[j].v.s)
/-- A slice value reads as a pattern, in a block below n₀. -/
def PatIn (n₀ : Nat) (W : World) (v : Value) (p : List Tm) : Prop :=
  ∃ q cap, v = .slice q p.length cap ∧ p.length ≤ maxLen ∧ (∀ x ∈ p, x.nm.size ≤ maxLen) ∧ (p = [] ∨ ∃ b off, q = some ⟨b, off, none⟩ ∧ b < n₀ ∧ PatAt W b off p)
theorem PatAt.below {n₀ : Nat} {W W' : World} {b off : Nat} {p : List Tm} (h : PatAt W b off p) (hb : Below n₀ W W') (hl : b < n₀) : PatAt W' b off p := fun j hj =>
  ⟨(hb.cell (p := ⟨b, off + j * 5, none⟩) hl).trans (h j hj).1, (hb.cell (p := ⟨b, off + j * 5 + 1, none⟩) hl).trans (h j hj).2.1, (hb.cell (p := ⟨b, off + j * 5 + 2, none⟩) hl).trans (h j hj).2.2.1, (hb.cell (p := ⟨b, off + j * 5 + 3, none⟩) hl).trans (h j hj).2.2.2.1, (hb.cell (p := ⟨b, off + j * 5 + 4, none⟩) hl).trans (h j hj).2.2.2.2⟩
theorem PatIn.below {n₀ : Nat} {W W' : World} {v : Value} {p : List Tm} (h : PatIn n₀ W v p) (hb : Below n₀ W W') : PatIn n₀ W' v p := by
  obtain ⟨q, cap, rfl, hl, hz, h⟩ := h
  refine ⟨q, cap, rfl, hl, hz, ?_⟩
  rcases h with h | ⟨b, off, rfl, hlt, hc⟩
  · exact .inl h
  · exact .inr ⟨b, off, rfl, hlt, hc.below hb hlt⟩
theorem PatIn.mono {n₀ n₁ : Nat} {W : World} {v : Value} {p : List Tm} (h : PatIn n₀ W v p) (hn : n₀ ≤ n₁) : PatIn n₁ W v p := by
  obtain ⟨q, cap, rfl, hl, hz, h⟩ := h
  refine ⟨q, cap, rfl, hl, hz, ?_⟩
  rcases h with h | ⟨b, off, rfl, hlt, hc⟩
  · exact .inl h
  · exact .inr ⟨b, off, rfl, by omega, hc⟩
theorem PatIn.some {n₀ : Nat} {w : World} {v : Value} {p : List Tm} (h : PatIn n₀ w v p) {k : Nat} (hk : k < p.length) : ∃ b off cap, v = .slice (some ⟨b, off, none⟩) p.length cap ∧ b < n₀ ∧ PatAt w b off p := by
  obtain ⟨q, cap, rfl, -, -, h | ⟨b, off, rfl, hb, hc⟩⟩ := h
  · subst h
    simp at hk
  · exact ⟨b, off, cap, rfl, hb, hc⟩
/-- May a pattern be? -/
def OkP (p : List Tm) : Prop := p.length ≤ 8 ∧ ∀ x ∈ p, FitsT x
theorem fits_take {p : List Tm} {k : Nat} (h : ∀ x ∈ p.take k, FitsT x) (hk : k < p.length) (g : FitsT p[k]) : ∀ x ∈ p.take (k + 1), FitsT x := by
  intro x hx
  rw [List.take_succ_eq_append_getElem hk] at hx
  rcases List.mem_append.1 hx with hx | hx
  · exact h x hx
  · obtain rfl := List.mem_singleton.1 hx
    exact g
theorem below_boxed {w wr w1 : World} {o : Obj} (h : Below w.heap.size w wr) (hb : Below (wr.alloc o).heap.size (wr.alloc o) w1) : Below w.heap.size w w1 := h.trans (((below_box wr o).trans (hb.mono (by simp))).mono h.size)
set_option maxHeartbeats 1000000 in
set_option maxRecDepth 100000 in
theorem checkPat_any (v : Value) (p : List Tm) (n₀ : Nat) (w : World) (h : PatIn n₀ w v p) (hn : n₀ ≤ w.heap.size) :
    Calls Tryd.prog 22 #[v] w fun e w' => ((OkP p ∧ e = .returned (.int .i64 0)) ∨ (¬ OkP p ∧ e = .returned (.int .i64 22))) ∧ Below w.heap.size w w' := by
  have HT := Lib.hid h
  obtain ⟨q, cap, rfl, l1, z1, q1⟩ := h
  have HZ := Lib.hid z1
  unfold maxLen at l1
  by_cases h8 : p.length ≤ 8
  case neg =>
    have h8' : (8 : Int) < (p.length : Int) := by omega
    have HN : Hid (¬ OkP p) := Lib.hid fun h => h8 h.1
    clear q1 h8 z1
    go_enter Tryd.func22, Tryd.ntmps22
    go_wp2_with fail
    go_ret
    exact ⟨.inr ⟨HN.out, rfl⟩, Below.refl _ _⟩
  have h8' : (p.length : Int) ≤ 8 := by omega
  clear q1 z1
  go_enter Tryd.func22, Tryd.ntmps22
  go_wp2_with fail
  go_loopw [10] (fun i wr => ∃ k : Nat, k ≤ p.length ∧ i = .int .i64 k ∧ Hid (∀ x ∈ p.take k, FitsT x) ∧ Hid (Below w.heap.size w wr)) (fun i _ => p.length - (intOf i).toNat)
  case atStart => exact ⟨0, Nat.zero_le _, rfl, Lib.hid (fun x hx => by cases hx), Lib.hid (Below.refl _ _)⟩
  case round =>
    obtain ⟨k, hk, rfl, hall, hB⟩ := hrel
    have h0 : (0 : Int) ≤ (k : Int) := by omega
    by_cases hlt : k < p.length
    · have hlt' : (k : Int) < (p.length : Int) := by omega
      obtain ⟨b, off, cap', hv, hb, hc⟩ := HT.out.some hlt
      injection hv with hp _ hcap
      subst hp hcap
      have hbw : b < w.heap.size := by omega
      have hbs := hB.out.size
      have hb' : b < wr.heap.size := by omega
      obtain ⟨x0, x1, x2, x3, x4⟩ := (hc.below hB.out hbw) k hlt
      clear hc
      have HF := Lib.hid (fits_any p[k] (wr.alloc (.cells #[.int .i64 p[k].k, .string p[k].nm, .int .i64 p[k].v.k, .int .i64 p[k].v.n, .string p[k].v.s] 51)) (HZ.out _ (List.getElem_mem hlt)))
      unfold aggM at HF
      go_wp2_with fail
      refine HF.out.mono ?_
      rintro e w1 ⟨⟨hf, rfl⟩ | ⟨hf, rfl⟩, hb1⟩
      · have HA := Lib.hid (fits_take hall.out hlt hf)
        have HB1 := Lib.hid (below_boxed hB.out hb1)
        clear hf hb1
        go_wp2_with fail
        go_roundw
        case rel => exact ⟨k + 1, by omega, by go_num, HA, HB1⟩
        case measure => simp [intOf]; omega
      · have HN : Hid (¬ OkP p) := Lib.hid fun h => hf (h.2 _ (List.getElem_mem hlt))
        have HB1 := Lib.hid (below_boxed hB.out hb1)
        clear hf hb1
        go_wp2_with fail
        go_ret
        exact ⟨.inr ⟨HN.out, rfl⟩, HB1.out⟩
    · have hlt' : (p.length : Int) ≤ (k : Int) := by omega
      obtain rfl : k = p.length := by omega
      have HO : Hid (OkP p) := Lib.hid ⟨h8, by have := hall.out; rwa [List.take_length] at this⟩
      go_wp2_with fail
      go_ret
      exact ⟨.inl ⟨HO.out, rfl⟩, hB.out⟩
end Go.Proofs.YtaogfgohchpnoaaDoor
