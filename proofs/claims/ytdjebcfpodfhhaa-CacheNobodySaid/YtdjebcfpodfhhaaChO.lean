/-
  The walk of the law CacheNobody.
-/
import Derived.Test.YtdjebcfpodfhhaaChY
namespace Go.Proofs.Ytdjebcfpodfhhaa
open Go Go.RowKit Go.Maps Go.WideMaps

/-- What the law lays first. -/
structure CnF (n0 : Nat) (cs : Array Value) (w : World) : Prop where
  op : w.heap[n0]? = some (.cells cs 36 (0, 0))
  zero : w.heap[n0 + 1]? = some (.cells #[.pointer none, .int .i64 0, .map none, .pointer none, .int .i64 0, .int .i64 0, .int .i64 0] 67 (0, 0))
  row : w.heap[n0 + 2]? = some (.cells #[.pointer none, ptr (n0 + 1)] 24 (0, 0))
theorem cnF_start (w : World) (cs : Array Value) : CnF w.heap.size cs (((w.alloc (.cells cs 36)).alloc (.cells #[.pointer none, .int .i64 0, .map none, .pointer none, .int .i64 0, .int .i64 0, .int .i64 0] 67)).alloc (.cells #[.pointer none, ptr (w.heap.size + 1)] 24)) := by
  refine ⟨?_, ?_, ?_⟩
  · exact (Below.heap_alloc _ _ _ (by simp; omega)).trans ((Below.heap_alloc _ _ _ (by simp)).trans (heap_alloc_new w _))
  · exact (Below.heap_alloc _ _ _ (by simp)).trans (by simpa using heap_alloc_new (w.alloc (.cells cs 36)) (.cells #[.pointer none, .int .i64 0, .map none, .pointer none, .int .i64 0, .int .i64 0, .int .i64 0] 67))
  · simpa using heap_alloc_new ((w.alloc (.cells cs 36)).alloc (.cells #[.pointer none, .int .i64 0, .map none, .pointer none, .int .i64 0, .int .i64 0, .int .i64 0] 67)) (.cells #[.pointer none, ptr (w.heap.size + 1)] 24)
theorem CnF.below {n0 : Nat} {cs : Array Value} {w w' : World} (h : CnF n0 cs w) (hb : Below w.heap.size w w') : CnF n0 cs w' := by
  have k : ∀ {k : Nat} {o : Obj}, w.heap[k]? = some o → w'.heap[k]? = some o := fun h => (hb.block _ (Array.getElem?_eq_some_iff.1 h).1).trans h
  exact ⟨k h.op, k h.zero, k h.row⟩
theorem CnF.made {n0 : Nat} {cs : Array Value} {w : World} (h : CnF n0 cs w) (k : Nat) (hk : k < 2) : ∃ v, w.cell? ⟨n0 + 2, k, none⟩ = some v ∧ NotMade w v := by
  rcases k with _ | _ | k
  · exact ⟨_, (cell_of_row w _ _ _ _ (0, 0) h.row).trans rfl, .inl rfl⟩
  · exact ⟨_, (cell_of_row w _ _ _ _ (0, 0) h.row).trans rfl, .inr ⟨n0 + 1, rfl, (Array.getElem?_eq_some_iff.1 h.zero).1, (cell_of_row w _ _ _ _ (0, 0) h.zero).trans rfl⟩⟩
  · omega
theorem NotMade.below {w w' : World} {v : Value} (h : NotMade w v) (hb : Below w.heap.size w w') : NotMade w' v := by
  rcases h with h | ⟨b, h, hl, hc⟩
  · exact .inl h
  · exact .inr ⟨b, h, Nat.lt_of_lt_of_le hl hb.size, (hb.cell (p := ⟨b, 0, none⟩) hl).trans hc⟩
theorem CnF.cells {n0 : Nat} {kd pg : Int} {r : ByteArray} {pv : Value} {w : World} (h : CnF n0 #[.int .i64 kd, .string r, .int .i64 pg, pv] w) :
    w.cell? ⟨n0, 1, none⟩ = some (.string r) ∧ w.cell? ⟨n0, 2, none⟩ = some (.int .i64 pg) ∧ w.cell? ⟨n0, 3, none⟩ = some pv := by
  refine ⟨?_, ?_, ?_⟩ <;> exact (cell_of_row w _ _ _ _ (0, 0) h.op).trans (by simp)
set_option maxRecDepth 100000 in
set_option maxHeartbeats 2000000 in
theorem lnobody (kd pg : Int) (r : ByteArray) (pv : Value) (w : World) :
    Calls Try.prog 6 #[.agg #[.int .i64 kd, .string r, .int .i64 pg, pv]] w fun e w' => e = .returned (.bool true) ∧ Below w.heap.size w w' := by
  have qs : ∀ W : World, (binOp .neq 42 (.agg #[.int .i64 0, .int .i64 0, .int .i64 0]) (.agg #[.int .i64 0, .int .i64 0, .int .i64 0])).run Try.prog W = .ok (.bool false) W := fun _ => by kernel_rfl
  go_enter Try.func6, Try.ntmps6
  go_wp2_with fail
  have HF0 := Lib.hid (show CnF w.heap.size #[.int .i64 kd, .string r, .int .i64 pg, pv] (((w.alloc (.cells #[.int .i64 kd, .string r, .int .i64 pg, pv] 36)).alloc (.cells #[.pointer none, .int .i64 0, .map none, .pointer none, .int .i64 0, .int .i64 0, .int .i64 0] 67)).alloc (.cells #[.pointer none, .pointer (some ⟨w.heap.size + 1, 0, none⟩)] 24)) from cnF_start w _)
  have HB0 := Lib.hid (show Below w.heap.size w (((w.alloc (.cells #[.int .i64 kd, .string r, .int .i64 pg, pv] 36)).alloc (.cells #[.pointer none, .int .i64 0, .map none, .pointer none, .int .i64 0, .int .i64 0, .int .i64 0] 67)).alloc (.cells #[.pointer none, .pointer (some ⟨w.heap.size + 1, 0, none⟩)] 24)) from (((Below.refl _ _).alloc (Nat.le_refl _) _).alloc (by simp) _).alloc (by simp; omega) _)
  generalize ((w.alloc (.cells #[.int .i64 kd, .string r, .int .i64 pg, pv] 36)).alloc (.cells #[.pointer none, .int .i64 0, .map none, .pointer none, .int .i64 0, .int .i64 0, .int .i64 0] 67)).alloc (.cells #[.pointer none, .pointer (some ⟨w.heap.size + 1, 0, none⟩)] 24) = W0 at *
  go_loopw [13] (fun i wr => ∃ k : Nat, k ≤ 2 ∧ i = .int .i64 k ∧ Hid (CnF w.heap.size #[.int .i64 kd, .string r, .int .i64 pg, pv] wr) ∧ Hid (Below w.heap.size w wr)) (fun i _ => 2 - (intOf i).toNat)
  case atStart => exact ⟨0, by omega, rfl, HF0, HB0⟩
  case round =>
    obtain ⟨k, hk, rfl, HF, HB⟩ := hrel
    by_cases hlt : k < 2
    case neg =>
      obtain rfl : k = 2 := by omega
      go_wp2_with fail
      refine (awake_true wr).mono ?_
      rintro e w1 ⟨rfl, hb⟩
      have HE := Lib.hid (HB.out.trans (hb.mono HB.out.size))
      clear hb
      go_wp2_with fail
      go_ret
      exact ⟨rfl, HE.out⟩
    have hlt' : (k : Int) < 2 := by omega
    have h0 : (0 : Int) ≤ (k : Int) := by omega
    obtain ⟨v, hcell, hv⟩ := HF.out.made k hlt
    obtain ⟨d1, d2, d3⟩ := HF.out.cells
    have HV := Lib.hid hv
    clear hv
    go_wp2_with fail
    refine (put_no wr v r pg pv HV.out).mono ?_
    rintro e w1 ⟨rfl, hb⟩
    have HF1 := Lib.hid (HF.out.below hb)
    have HV1 := Lib.hid (HV.out.below hb)
    have HB1 := Lib.hid (HB.out.trans (hb.mono HB.out.size))
    clear hb d1 d2 d3 hcell
    obtain ⟨d1, d2, d3⟩ := HF1.out.cells
    go_wp2_with fail
    refine (get_no w1 v r pg HV1.out).mono ?_
    rintro e w2 ⟨rfl, hb⟩
    have HF2 := Lib.hid (HF1.out.below hb)
    have HV2 := Lib.hid (HV1.out.below hb)
    have HB2 := Lib.hid (HB1.out.trans (hb.mono HB1.out.size))
    clear hb d1 d2 d3
    obtain ⟨d1, d2, d3⟩ := HF2.out.cells
    go_wp2_with fail
    refine (drop_no w2 v r HV2.out).mono ?_
    rintro e w3 ⟨rfl, hb⟩
    have HF3 := Lib.hid (HF2.out.below hb)
    have HV3 := Lib.hid (HV2.out.below hb)
    have HB3 := Lib.hid (HB2.out.trans (hb.mono HB2.out.size))
    clear hb d1 d2 d3
    go_wp2_with fail
    refine (keys_no w3 v HV3.out).mono ?_
    rintro e w4 ⟨rfl, rfl⟩
    go_wp2_with fail
    refine (stats_no w3 v HV3.out).mono ?_
    rintro e w4 ⟨rfl, hb⟩
    have HF4 := Lib.hid (HF3.out.below hb)
    have HV4 := Lib.hid (HV3.out.below hb)
    have HB4 := Lib.hid (HB3.out.trans (hb.mono HB3.out.size))
    clear hb
    go_wp2_with fail
    refine (room_no w4 v HV4.out).mono ?_
    rintro e w5 ⟨rfl, rfl⟩
    go_wp2_with fail
    go_roundw
    case rel => exact ⟨k + 1, by omega, by go_num, HF4, HB4⟩
    case measure => simp [intOf]; omega
end Go.Proofs.Ytdjebcfpodfhhaa
