/-
  slices.Values at rows of tuples, empty ones too: an iterator that copies takes.
-/
import Derived.Test.YtaogfgohchpnoaaDoorTrC
import Derived.Test.YtaogfgohchpnoaaDoorTupX
namespace Go.Proofs.YtaogfgohchpnoaaDoor
open Go Go.RowKit Go.Shelf

attribute [local go_sem] Oper.semAt_some

/-- A row of tuples that is read, nil too. -/
def RowsIn (n : Nat) (w : World) (v : Value) (P : List (Value × List V3)) : Prop :=
  ∃ a cap, v = .slice a P.length cap ∧ P.length ≤ 1000000 ∧ (P = [] ∨ ∃ b off, a = some ⟨b, off, none⟩ ∧ b < n ∧ RowAt w b off P) ∧ AllIn n w P
theorem RowsIn.below {n : Nat} {w w' : World} {v : Value} {P : List (Value × List V3)} (h : RowsIn n w v P) (hb : Below n w w') : RowsIn n w' v P := by
  obtain ⟨a, cap, rfl, h1, h2, h3⟩ := h
  refine ⟨a, cap, rfl, h1, ?_, h3.below hb⟩
  rcases h2 with h2 | ⟨b, off, rfl, hb', hr⟩
  · exact .inl h2
  · exact .inr ⟨b, off, rfl, hb', hr.below hb hb'⟩
theorem RowsIn.mono {n n' : Nat} {w : World} {v : Value} {P : List (Value × List V3)} (h : RowsIn n w v P) (hb : n ≤ n') : RowsIn n' w v P := by
  obtain ⟨a, cap, rfl, h1, h2, h3⟩ := h
  refine ⟨a, cap, rfl, h1, ?_, h3.mono hb⟩
  rcases h2 with h2 | ⟨b, off, rfl, hb', hr⟩
  · exact .inl h2
  · exact .inr ⟨b, off, rfl, Nat.lt_of_lt_of_le hb' hb, hr⟩
set_option maxRecDepth 100000 in
set_option maxHeartbeats 2000000 in
theorem vals_seq (w : World) (Bs : Nat) (v : Value) (L : List (Value × List V3)) (hR : RowsIn w.heap.size w v L) (hBs : w.cell? ⟨Bs, 0, none⟩ = some v) (hlt : Bs < w.heap.size) :
    SeqT w 69 #[.pointer (some ⟨Bs, 0, none⟩)] (L.map (·.2)) := by
  intro l W hW J hkeep hround h0
  obtain ⟨a, cap, rfl, hlen, hrow, hall⟩ := hR
  have HR := Lib.hid (And.intro hrow hall)
  have HY := Lib.hid hround
  have HW := Lib.hid hW
  have hBW : W.cell? ⟨Bs, 0, none⟩ = some (.slice a L.length cap) := (hW.cell (p := ⟨Bs, 0, none⟩) hlt).trans hBs
  clear hround hrow hall hW hBs
  refine callsIn_of_wp Tryd.func69 rfl trivial ?_ rfl
  simp only [Tryd.ntmps69, List.size_toArray, List.length_cons, List.length_nil, Nat.reduceAdd, Nat.reduceSub, Array.replicate_succ, Array.replicate_zero, List.push_toArray, List.append_toArray, List.nil_append, List.cons_append]
  gi_wp2
  gi_loopw [7] (fun i wr => ∃ k : Nat, k ≤ L.length ∧ i = .int .i64 k ∧ J ((L.take k).map (·.2)) wr ∧ Hid (Below w.heap.size w wr))
    (fun i _ => L.length - (intOf i).toNat)
  case atStart => exact ⟨0, Nat.zero_le _, rfl, h0, HW⟩
  case round =>
    obtain ⟨k, hk, rfl, hJs, hnx⟩ := hrel
    by_cases hlt' : k < L.length
    · have hlt2 : (k : Int) < (L.length : Int) := by omega
      obtain ⟨b, off, rfl, hb, hr⟩ : ∃ b off, a = some ⟨b, off, none⟩ ∧ b < w.heap.size ∧ RowAt w b off L := by
        rcases HR.out.1 with h | h
        · rw [h] at hlt'
          simp at hlt'
        · exact h
      have hcx' : wr.cell? ⟨b, off + k, none⟩ = some L[k].1 := (hnx.out.cell (p := ⟨b, off + k, none⟩) hb).trans (hr k hlt')
      have HT := Lib.hid (show (L.take (k + 1)).map (·.2) = (L.take k).map (·.2) ++ [L[k].2] by rw [List.take_succ_eq_append_getElem hlt', List.map_append]; rfl)
      have HI := Lib.hid (((HR.out.2 L[k] (List.getElem_mem hlt')).below hnx.out).mono hnx.out.size)
      obtain ⟨x, T, hx, hT⟩ : ∃ x T, x = L[k].1 ∧ T = L[k].2 := ⟨_, _, rfl, rfl⟩
      rw [← hx] at hcx' HI
      rw [← hT] at HT HI
      obtain ⟨fn, tmps, assign, body, hy, hR⟩ := HY.out _ T x wr hJs HI.out (by simp; omega) hnx.out
      clear hx hT hr
      gi_wp2
      refine hR.mono ?_
      rintro e W3 ⟨rfl, hJ3, hk3⟩
      gi_wp2
      go_roundw
      case rel => exact ⟨k + 1, by omega, by simp, by rw [HT.out]; exact hJ3, Lib.hid (hnx.out.trans hk3)⟩
      case measure => simp [intOf]; omega
    · obtain rfl : k = L.length := by omega
      have HT := Lib.hid (List.take_length (l := L))
      rw [HT.out] at hJs
      gi_wp2
      go_end0
      exact ⟨⟨_, rfl⟩, hJs⟩
end Go.Proofs.YtaogfgohchpnoaaDoor
