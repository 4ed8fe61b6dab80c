/-
  tuple.Match at the pattern and the tuple that 'awake' hands it.
-/
import Derived.Test.YtdfepeeicbpicaaGreatDoorAwS
import Derived.Test.YtdfepeeicbpicaaGreatDoorTck
import Derived.Deep.RegionHeld3
import Derived.Deep.AppendLies
namespace Go.Proofs.YtdfepeeicbpicaaGreatDoor
open Go Go.RowKit

theorem below_box' (w : World) (o : Obj) : Below w.heap.size w (w.alloc o) := (Below.refl _ _).alloc (Nat.le_refl _) _
set_option maxHeartbeats 1000000 in
set_option maxRecDepth 100000 in
theorem fits_x (w : World) : Calls Tryz.prog 58 #[.agg #[.int .i64 1, .string ⟨#[88]⟩, .int .i64 0, .int .i64 0, .string ⟨#[]⟩]] w fun e w' => e = .returned (.bool true) ∧ Below w.heap.size w w' := by
  go_enter Tryz.func58, Tryz.ntmps58
  go_wp2_with fail
  go_ret
  exact ⟨by simp, below_box' _ _⟩
/-- The pattern X, as it lies. -/
def PatX (w : World) (b : Nat) : Prop := w.cell? ⟨b, 0, none⟩ = some (.int .i64 1) ∧ w.cell? ⟨b, 1, none⟩ = some (.string ⟨#[88]⟩) ∧ w.cell? ⟨b, 2, none⟩ = some (.int .i64 0) ∧ w.cell? ⟨b, 3, none⟩ = some (.int .i64 0) ∧ w.cell? ⟨b, 4, none⟩ = some (.string ⟨#[]⟩)
theorem PatX.below {w w' : World} {b n : Nat} (h : PatX w b) (hb : Below n w w') (hl : b < n) : PatX w' b :=
  ⟨(hb.cell (p := ⟨b, 0, none⟩) hl).trans h.1, (hb.cell (p := ⟨b, 1, none⟩) hl).trans h.2.1, (hb.cell (p := ⟨b, 2, none⟩) hl).trans h.2.2.1, (hb.cell (p := ⟨b, 3, none⟩) hl).trans h.2.2.2.1, (hb.cell (p := ⟨b, 4, none⟩) hl).trans h.2.2.2.2⟩
set_option maxHeartbeats 1000000 in
set_option maxRecDepth 100000 in
theorem checkp_x (w : World) (b : Nat) (h : PatX w b) (hb : b < w.heap.size) : Calls Tryz.prog 45 #[.slice (some ⟨b, 0, none⟩) 1 1] w fun e w' => e = .returned (.int .i64 0) ∧ Below w.heap.size w w' := by
  have HP := Lib.hid h
  clear h
  go_enter Tryz.func45, Tryz.ntmps45
  go_wp2_with fail
  go_loopw [10] (fun i wr => (i = .int .i64 0 ∨ i = .int .i64 1) ∧ Below w.heap.size w wr) (fun i _ => 1 - (intOf i).toNat)
  case atStart => exact ⟨.inl rfl, Below.refl _ _⟩
  case round =>
    obtain ⟨rfl | rfl, hB⟩ := hrel
    · obtain ⟨c0, c1, c2, c3, c4⟩ := HP.out.below hB hb
      have hbs := hB.size
      have hb' : b < wr.heap.size := by omega
      go_wp2_with (go_at_call 58; refine (fits_x _).mono ?_; rintro e w2 ⟨rfl, hb2⟩)
      go_roundw
      case rel => exact ⟨.inr rfl, hB.trans (((below_box' _ _).trans (hb2.mono (by simp))).mono hbs)⟩
      case measure => simp [intOf]
    · go_wp2_with fail
      go_ret
      exact ⟨rfl, hB⟩
set_option maxHeartbeats 1000000 in
theorem index_nil (f : Value) (w : World) : Calls Tryz.prog 75 #[.slice none 0 0, f] w fun e w' => e = .returned (.int .i64 (-1)) ∧ w = w' := by
  go_enter Tryz.func75, Tryz.ntmps75
  go_wp2_with fail
  go_loopw [8] (fun i wr => i = .int .i64 0 ∧ w = wr) (fun _ _ => 0)
  case atStart => exact ⟨rfl, rfl⟩
  case round =>
    obtain ⟨rfl, rfl⟩ := hrel
    go_wp2_with fail
    go_ret
    exact ⟨rfl, rfl⟩
theorem cell_new_drew (W : World) (cs : Array Value) (t : TypeId) (N j : Nat) (hN : W.heap.size = N) : (W.alloc (.cells cs t)).drew.cell? ⟨N, j, none⟩ = cs[j]? := by
  subst hN
  exact cell_of_row (W.alloc (.cells cs t)) W.heap.size j cs t (0, 0) (heap_alloc_new W _)
/-- What a first binding leaves. -/
def BindEnd (w : World) (n : Int) (e : Ending) (w' : World) : Prop :=
  ∃ g cap, e = .returned (.tuple #[.slice (some ⟨g, 0, none⟩) 1 cap, .bool true]) ∧ w'.cell? ⟨g, 2, none⟩ = some (.int .i64 n) ∧ g < w'.heap.size ∧ Below w.heap.size w w'
set_option maxHeartbeats 1000000 in
set_option maxRecDepth 100000 in
theorem bind_x (n : Int) (w : World) : Calls Tryz.prog 59 #[.slice none 0 0, .string ⟨#[88]⟩, .agg #[.int .i64 1, .int .i64 n, .string ⟨#[]⟩]] w (BindEnd w n) := by
  go_enter Tryz.func59, Tryz.ntmps59
  go_wp2_with (go_at_call 75; refine (index_nil _ _).mono ?_; rintro e w' ⟨rfl, rfl⟩)
  go_ret2
  refine ⟨w.heap.size + 1 + 1 + 1, _, rfl, ?_, by simp, ?_⟩
  · refine (cell_new_drew _ _ _ _ 2 ?_).trans ?_
    · simp
    · rw [Array.getElem?_append_left (by simp)]; rfl
  · repeat (first | exact Below.refl _ _ | refine Below.drew ?_ | refine Below.alloc ?_ (by simp; omega) _ | refine Below.alloc ?_ (by simp) _)

set_option maxHeartbeats 1000000 in
set_option maxRecDepth 100000 in
theorem match_x (w : World) (b n₀ : Nat) (v : Value) (h : PatX w b) (hb : b < w.heap.size) (hv : TupIn n₀ w v (oneT 3)) (hn : n₀ ≤ w.heap.size) : Calls Tryz.prog 46 #[.slice (some ⟨b, 0, none⟩) 1 1, v] w (BindEnd w 3) := by
  have HP := Lib.hid h
  obtain ⟨b2, off, cap, rfl, hb2, hc⟩ := hv.some (k := 0) (by simp [oneT])
  have HC := Lib.hid hc
  have hbw : b2 < w.heap.size := by omega
  simp only [oneT, List.length_cons, List.length_nil, Nat.zero_add]
  clear h hc
  go_enter Tryz.func46, Tryz.ntmps46
  go_wp2_with fail
  go_loopw [6, 17] (fun s6 i wr => Below w.heap.size w wr ∧ ((s6 = .slice none 0 0 ∧ i = .int .i64 0) ∨ (i = .int .i64 1 ∧ ∃ g cap, s6 = .slice (some ⟨g, 0, none⟩) 1 cap ∧ wr.cell? ⟨g, 2, none⟩ = some (.int .i64 3) ∧ g < wr.heap.size))) (fun _ i _ => 1 - (intOf i).toNat)
  case atStart => exact ⟨Below.refl _ _, .inl ⟨rfl, rfl⟩⟩
  case round =>
    obtain ⟨hB, ⟨rfl, rfl⟩ | ⟨rfl, g, cp, rfl, hg, hgl⟩⟩ := hrel
    · obtain ⟨c0, c1, c2, c3, c4⟩ := HP.out.below hB hb
      obtain ⟨d0, d1, d2⟩ := (HC.out.below hB hbw) 0 (by simp [oneT])
      simp only [oneT, Nat.zero_mul, Nat.add_zero, List.getElem_cons_zero] at d0 d1 d2
      have hbs := hB.size
      have hb' : b < wr.heap.size := by omega
      have hb2' : b2 < wr.heap.size := by omega
      go_wp2_with fail
      have HB := Lib.hid hB
      go_region_held3 (fun w' => w'.cell? ⟨wr.heap.size, 1, none⟩ = some (.string ⟨#[88]⟩) ∧ w'.cell? ⟨b2, off, none⟩ = some (.int .i64 1) ∧ w'.cell? ⟨b2, off + 1, none⟩ = some (.int .i64 3) ∧ w'.cell? ⟨b2, off + 2, none⟩ = some (.string ⟨#[]⟩))
        (first
          | go_keep
          | (go_split_ands
             refine ⟨?_, ?_, ?_, ?_⟩
             · (exact (hb3.cell (p := ⟨wr.heap.size, 1, none⟩) (by simp)).trans (by simp))
             · (exact (hb3.cell (p := ⟨b2, off, none⟩) (by simp; omega)).trans (by simp [*]))
             · (exact (hb3.cell (p := ⟨b2, off + 1, none⟩) (by simp; omega)).trans (by simp [*]))
             · (exact (hb3.cell (p := ⟨b2, off + 2, none⟩) (by simp; omega)).trans (by simp [*]))))
        ((go_at_call 59; refine (bind_x 3 _).mono ?_; rintro e w3 ⟨g, cp, rfl, hgc, hgl, hb3⟩))
      go_wp2_with fail
      go_roundw
      case rel => exact ⟨HB.out.trans ((((below_box' _ _).drew).trans (hb3.mono (by simp))).mono hbs), .inr ⟨rfl, g, cp, rfl, hgc, hgl⟩⟩
      case measure => simp [intOf]
    · go_wp2_with fail
      go_ret2
      exact ⟨g, cp, rfl, hg, hgl, hB⟩
set_option maxHeartbeats 1000000 in
theorem tmatch_x (w : World) (b n₀ : Nat) (v : Value) (h : PatX w b) (hb : b < w.heap.size) (hv : TupIn n₀ w v (oneT 3)) (hn : n₀ ≤ w.heap.size) : Calls Tryz.prog 25 #[.slice (some ⟨b, 0, none⟩) 1 1, v] w (BindEnd w 3) := by
  have HP := Lib.hid h
  have HV := Lib.hid hv
  clear h hv
  go_enter Tryz.func25, Tryz.ntmps25
  go_wp2_with fail
  refine (checkp_x _ _ HP.out hb).mono ?_
  rintro e w1 ⟨rfl, hb1⟩
  have hz1 := hb1.size
  have HM := Lib.hid (match_x w1 b n₀ v (HP.out.below hb1 hb) (by omega) (HV.out.below (hb1.mono hn)) (by omega))
  have HB := Lib.hid hb1
  clear hb1
  go_wp2_with fail
  refine HM.out.mono ?_
  rintro e w2 ⟨g, cap, rfl, hg, hgl, hb2⟩
  have HB2 := Lib.hid hb2
  clear hb2
  go_wp2_with fail
  go_ret2
  exact ⟨g, cap, rfl, hg, hgl, HB.out.trans (HB2.out.mono hz1)⟩
end Go.Proofs.YtdfepeeicbpicaaGreatDoor
