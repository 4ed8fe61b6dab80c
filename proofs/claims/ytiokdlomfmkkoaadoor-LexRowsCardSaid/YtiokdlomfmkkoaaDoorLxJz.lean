/-
  Contract of lex.Join at rows of tokens at any place.
-/
import Derived.Test.YtiokdlomfmkkoaaDoorLxWz
namespace Go.Proofs.YtiokdlomfmkkoaaDoor
open Go Go.RowKit

/-- The texts of tokens with blanks between. -/
def joinZ (L : List Wz) : List UInt8 := joinB (L.map Wz.text)
theorem joinZ_step (L : List Wz) (k : Nat) (h : k < L.length) : joinZ (L.take (k + 1)) = joinZ (L.take k) ++ (if k = 0 then L[k].text else 32 :: L[k].text) := by
  unfold joinZ
  rw [List.take_succ_eq_append_getElem h, List.map_append, List.map_singleton, joinB_snoc]
  have e : (L.take k).map Wz.text = [] ↔ k = 0 := by
    rw [List.map_eq_nil_iff, List.take_eq_nil_iff]
    constructor
    · rintro (h' | rfl)
      · exact h'
      · simp at h
    · exact .inl
  by_cases h0 : k = 0
  · rw [if_pos (e.2 h0), if_pos h0]
  · rw [if_neg (fun g => h0 (e.1 g)), if_neg h0]
theorem joinZ_le (L : List Wz) (k : Nat) : (joinZ (L.take k)).length ≤ (joinZ L).length := by
  unfold joinZ
  have := joinB_le ((L.take k).map Wz.text) ((L.drop k).map Wz.text)
  rwa [← List.map_append, List.take_append_drop] at this
set_option maxHeartbeats 2000000 in
set_option maxRecDepth 100000 in
theorem joinz_any (v : Value) (L : List Wz) (S : Nat → Prop) (w : World) (h : ZIn S w v L) (hS : ∀ k, S k → k < w.heap.size) (hlen : (joinZ L).length ≤ 1000000) (hL : L.length ≤ 1000000) :
    Calls Tryd.prog 16 #[v] w fun e w' => e = .returned (.string ⟨(joinZ L).toArray⟩) ∧ Below w.heap.size w w' := by
  have HI := Lib.hid h
  have HSS := Lib.hid hS
  have HLen := Lib.hid hlen
  obtain ⟨p, c, rfl, hc1, hc2, -⟩ := h
  unfold maxLen at hc2
  have hL' : (L.length : Int) ≤ 1000000 := by omega
  clear hS hlen
  go_enter Tryd.func16, Tryd.ntmps16
  go_wp2_with fail
  have hB0 : IsBu w.heap.size w.heap.size [] (w.alloc (.cells #[.pointer none, .slice none 0 0] 57)) := .inl ⟨Nat.le_refl _, _, heap_alloc_new w _, World.ownsRow_nil _ _ _ _, by simp [Value.ownBlock]⟩
  have HB0 := Lib.hid hB0
  clear hB0
  go_loopw [8] (fun i wr => ∃ k : Nat, k ≤ L.length ∧ i = .int .i64 k ∧ Hid (IsBu w.heap.size w.heap.size (Lib.byteCells (joinZ (L.take k))) wr) ∧ Hid (Below w.heap.size w wr) ∧ w.heap.size < wr.heap.size) (fun i _ => L.length - (intOf i).toNat)
  case atStart => exact ⟨0, Nat.zero_le _, rfl, HB0, Lib.hid (below_box w _), by simp⟩
  case round =>
    obtain ⟨k, hk, rfl, HB, HW, hsz⟩ := hrel
    by_cases hlt : k < L.length
    · have hlt' : (k : Int) < (L.length : Int) := by omega
      obtain ⟨b, off, c', e, -, -, hbl, hbS, hat⟩ := HI.out.at_ (by omega)
      cases e
      have hcell : ∀ o, wr.cell? ⟨b, o, none⟩ = w.cell? ⟨b, o, none⟩ := fun o => HW.out.cell (p := ⟨b, o, none⟩) (HSS.out b hbS)
      obtain ⟨a0, a1, a2, a3, a4, a5⟩ := hat k hlt
      rw [← hcell] at a0 a1 a2 a3 a4 a5
      clear hcell hat
      have HJ := joinZ_step L k hlt
      have hle2 := joinZ_le L (k + 1)
      rw [HJ] at hle2
      obtain ⟨x, hx⟩ : ∃ x, x = L[k] := ⟨_, rfl⟩
      rw [← hx] at a0 a1 a2 a3 a4 a5 HJ hle2
      clear hx
      have hB1 := isbu_keep HB.out ((Below.refl _ _).alloc (Nat.le_refl _) (.cells #[.int .i64 x.kind, .string ⟨x.text.toArray⟩, .int .i64 x.val.1, .int .i64 x.val.2.1, .string x.val.2.2, .int .i64 x.pos] 37))
      have HW1 := Lib.hid (HW.out.alloc (by omega) (.cells #[.int .i64 x.kind, .string ⟨x.text.toArray⟩, .int .i64 x.val.1, .int .i64 x.val.2.1, .string x.val.2.2, .int .i64 x.pos] 37))
      have hnew := heap_alloc_new wr (.cells #[.int .i64 x.kind, .string ⟨x.text.toArray⟩, .int .i64 x.val.1, .int .i64 x.val.2.1, .string x.val.2.2, .int .i64 x.pos] 37)
      have k1 := cell_of_row _ _ 1 _ _ (0, 0) hnew
      have HNew := Lib.hid hnew
      have hs1 : (wr.alloc (.cells #[.int .i64 x.kind, .string ⟨x.text.toArray⟩, .int .i64 x.val.1, .int .i64 x.val.2.1, .string x.val.2.2, .int .i64 x.pos] 37)).heap.size = wr.heap.size + 1 := by simp
      by_cases h0 : k = 0
      · have hn1 : ¬ 0 < k := by omega
        have hn2 : ¬ (0 : Int) < (k : Int) := by omega
        rw [if_pos h0] at HJ hle2
        have HQ := Lib.hid HJ
        have hz2 : (joinZ (L.take k)).length + x.text.length ≤ 1000000 := by have := HLen.out; rw [List.length_append] at hle2; omega
        have HS := Lib.hid (wstr_bu w.heap.size w.heap.size (Lib.byteCells (joinZ (L.take k))) ⟨x.text.toArray⟩ _ hB1 (by rw [bytes_len, Lib.size_eq]; simpa using (show (joinZ (L.take k)).length + x.text.length ≤ 100000000 by omega)) (by omega))
        clear hnew hle2 hz2 hB1 hs1 HJ h0
        go_wp2_with (go_at_call 28; refine HS.out.mono ?_; rintro e w3 ⟨rfl, hb3, hb4, hb5⟩; have HB3 := Lib.hid hb3; have HB4 := Lib.hid hb4; have hn5 := (hb5 _ _ _ _ HNew.out (by decide) (by omega)).trans HNew.out; have k5 := cell_of_row _ _ 1 _ _ (0, 0) hn5; clear hb3 hb4 hb5 hn5)
        go_roundw
        case rel => exact ⟨k + 1, by omega, by go_num, Lib.hid (by rw [HQ.out, bytes_app, ← str_cells x.text]; exact .inr HB3.out), Lib.hid (HW1.out.trans HB4.out), bu_lt HB3.out⟩
        case measure => simp [intOf]; omega
      · have hn1 : 0 < k := by omega
        have hn2 : (0 : Int) < (k : Int) := by omega
        rw [if_neg h0] at HJ hle2
        have HQ := Lib.hid HJ
        have hz2 : (joinZ (L.take k)).length + (x.text.length + 1) ≤ 1000000 := by have := HLen.out; rw [List.length_append, List.length_cons] at hle2; omega
        have HZ := Lib.hid hz2
        have HY := Lib.hid (wbyte_bu w.heap.size w.heap.size (Lib.byteCells (joinZ (L.take k))) 32 _ hB1 (by rw [bytes_len]; omega) (by omega))
        have hbyte : (Lib.byteCells (joinZ (L.take k)) ++ [Value.int .u8 32]).length = (joinZ (L.take k)).length + 1 := by rw [List.length_append, bytes_len]; rfl
        have HBy := Lib.hid hbyte
        clear hle2 hz2 hB1 HJ h0 hbyte
        go_wp2_with (go_at_call 27; refine HY.out.mono ?_; rintro e w3 ⟨rfl, hb3, hb4, hb5⟩; have HB3 := Lib.hid hb3; have HB4 := Lib.hid hb4; have hn5 := (hb5 _ _ _ _ HNew.out (by decide) (by omega)).trans HNew.out; have k5 := cell_of_row _ _ 1 _ _ (0, 0) hn5; clear hb3 hb4 hb5 hn5)
        have HS := Lib.hid (wstr_bu w.heap.size w.heap.size _ ⟨x.text.toArray⟩ w3 (.inr HB3.out) (by rw [HBy.out, Lib.size_eq]; have := HZ.out; simpa using (show (joinZ (L.take k)).length + 1 + x.text.length ≤ 100000000 by omega)) (Nat.le_of_lt (bu_lt HB3.out)))
        go_wp2_with (go_at_call 28; refine HS.out.mono ?_; rintro e w4 ⟨rfl, hb6, hb7, hb8⟩; have HB6 := Lib.hid hb6; have HB7 := Lib.hid hb7; clear hb6 hb7 hb8)
        go_roundw
        case rel => exact ⟨k + 1, by omega, by go_num, Lib.hid (by
          rw [HQ.out, bytes_app, show Lib.byteCells (32 :: x.text) = [Value.int .u8 32] ++ Lib.byteCells x.text from rfl, ← List.append_assoc, ← str_cells x.text]
          exact .inr HB6.out), Lib.hid ((HW1.out.trans HB4.out).trans HB7.out), bu_lt HB6.out⟩
        case measure => simp [intOf]; omega
    · have hge : ¬ (k : Int) < (L.length : Int) := by omega
      have HE : Hid (joinZ (L.take k) = joinZ L) := Lib.hid (by rw [List.take_of_length_le (by omega)])
      have HS := Lib.hid (Tryd.Builder_String_any w.heap.size w.heap.size (joinZ (L.take k)) wr HB.out (by omega))
      go_wp2_with (go_at_call 29; refine HS.out.mono ?_; rintro e w3 ⟨rfl, hb3⟩)
      go_ret
      exact ⟨by rw [HE.out]; rfl, HW.out.trans hb3⟩
end Go.Proofs.YtiokdlomfmkkoaaDoor
