/-
  Walks of the laws LexWords and LexBack.
-/
import Derived.Test.YtiokdlomfmkkoaaDoorLxAw
namespace Go.Proofs.YtiokdlomfmkkoaaDoor
open Go Go.RowKit

theorem ownW_in {w w' : World} {v : Value} {L : List Wd} (h : OwnW w.heap.size w' v L) : WIn (fun k => w.heap.size ≤ k ∧ k < w'.heap.size) w' v L := h.in_ _ (fun k e => h.lt k e)
theorem WIn.far {w0 w1 w2 : World} {v : Value} {L : List Wd} (h : WIn (fun k => w0.heap.size ≤ k ∧ k < w1.heap.size) w1 v L) (hb : Below w1.heap.size w1 w2) : WIn (fun k => w0.heap.size ≤ k ∧ k < w1.heap.size) w2 v L := h.keep hb.size (fun k e _ => ⟨e, hb.block k e.2⟩)
theorem wordsL_len (s : ByteArray) (hm : s.size ≤ 1000000) : (wordsL s.data.toList).1.length ≤ 1000000 := by
  unfold wordsL
  split
  · simp
  · split
    · have := lexS_len (V := valL) _ s.data.toList 0 (Nat.le_refl _)
      rw [← Lib.size_eq] at this
      show (lexS valL s.data.toList 0).1.length ≤ 1000000
      omega
    · simp
set_option maxHeartbeats 2000000 in
set_option maxRecDepth 100000 in
theorem lexWords_walk (s : ByteArray) (w : World) (hm : s.size ≤ maxLen) (G : Glob w) :
    Calls Tryd.prog 3 #[.string s] w fun e w' => e = .returned (.bool true) ∧ Below w.heap.size w w' := by
  have HC := Lib.hid (lcut_any s w hm)
  obtain ⟨C, hC⟩ : ∃ C, C = cutX s := ⟨_, rfl⟩
  have hz := cutX_size s
  rw [← hC] at HC hz
  clear hC
  have HG := Lib.hid G
  have HW := Lib.hid (words_any C w (by omega) G)
  have HR := Lib.hid (fun W => rwords_any C W (by omega))
  have HLen := Lib.hid (wordsL_len C (by omega))
  obtain ⟨⟨L, n, e⟩, hR⟩ : ∃ R, R = wordsL C.data.toList := ⟨_, rfl⟩
  rw [← hR] at HW HR HLen
  simp only at HW HR HLen
  clear hR hz G
  go_enter Tryd.func3, Tryd.ntmps3
  go_wp2_with (first
    | (go_at_call 9; refine HC.out.mono ?_; rintro e w1 ⟨rfl, rfl⟩)
    | (go_at_call 10; refine HW.out.mono ?_; rintro e w1 ⟨⟨v1, rfl, ho⟩, hb⟩; have HB1 := Lib.hid hb; have HI1 := Lib.hid (ownW_in ho); clear ho hb)
    | (go_at_call 11; refine (HR.out _).mono ?_; rintro e w2 ⟨⟨v2, rfl, ho⟩, hb⟩; have HB2 := Lib.hid hb; have HI2 := Lib.hid (ownW_in ho); clear ho hb)
    | (go_at_call 12; refine (rsameall_yes v1 v2 L _ _ w2 (HI1.out.far HB2.out) HI2.out HLen.out).mono ?_; rintro e w3 ⟨rfl, hb⟩; have HB3 := Lib.hid (HB2.out.trans (hb.mono HB2.out.size)); clear hb)
    | (go_at_call 13; refine (awake_true w3 (HG.out.below (HB1.out.trans (HB3.out.mono HB1.out.size)))).mono ?_; rintro e w4 ⟨rfl, hb⟩))
  go_ret
  exact ⟨rfl, (HB1.out.trans (HB3.out.mono HB1.out.size)).trans (hb.mono (Nat.le_trans HB1.out.size HB3.out.size))⟩
end Go.Proofs.YtiokdlomfmkkoaaDoor
