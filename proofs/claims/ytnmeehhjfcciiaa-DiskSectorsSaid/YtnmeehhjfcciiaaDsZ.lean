/-
  append of zeros to bytes of one's own; the test of two sectors.
-/
import Derived.Test.YtnmeehhjfcciiaaDsU
import Derived.Lib.AppendZerosOnto
namespace Go.Proofs.Ytnmeehhjfcciiaa
open Go Go.RowKit Go.Maps Go.WideMaps

theorem zero_is (n : Nat) : Builtin.zeroCells (Value.int .u8 0).cells n = (List.replicate n (Value.int .u8 0)).toArray := by
  apply Array.ext'
  rw [zero_n, List.toList_toArray]
theorem run_zerosB {w : World} {n : Nat} (ty : TypeId) {v : Value} {L : List UInt8} (hown : OwnF n w v L) (k : Nat) (hk : L.length + k ≤ 100000) (hn : n ≤ w.heap.size) :
    ∃ v' w', (Builtin.append_ #[22, 3] ty #[v, .int .i64 (k : Int)]).run Try.prog w = .ok v' w' ∧ OwnF n w' v' (L ++ List.replicate k 0) ∧ w.grownBy w' v.ownBlock := by
  obtain ⟨i, hi, hz0, hz1, hz2⟩ := info_parts infoU8
  have hwr : IntKind.i64.wrap (k : Int) = k := by rw [IntKind.wrap_i64]; omega
  have hneg : ¬ ((k : Int) < 0) := by omega
  have h48i : ¬ (281474976710656 < (k : Int)) := by omega
  by_cases h0 : k = 0
  · subst h0
    refine ⟨v, w, ?_, by simpa using hown, ⟨rfl, rfl, rfl, Nat.le_refl _, fun _ _ _ => rfl⟩⟩
    rcases hown.2 with ⟨rfl, hl0⟩ | ⟨g, cap, cur, rfl, hb, hg, h2, h3, h4, h5⟩
    · simp [Builtin.append_, run_underlying Try.underlying22, run_underlying Try.underlying3, sizeOf, typeInfo, zeroValue, hi, hz0, hz2, asInt, asIntOf, IntKind.wrap_i64, Question.forced]
    · simp [Builtin.append_, run_underlying Try.underlying22, run_underlying Try.underlying3, sizeOf, typeInfo, zeroValue, hi, hz0, hz2, asInt, asIntOf, IntKind.wrap_i64, Question.forced, h2, storeCells]
  · have hbl : (BV (L ++ List.replicate k 0)) = BV L ++ List.replicate k (Value.int .u8 0) := by rw [bv_app, bv_zero]
    have hll : (L ++ List.replicate k (0 : UInt8)).length = L.length + k := by simp
    have grown : ∀ (old : Nat) (row : Option Nat), (w.drew.alloc (.cells ((BV L).toArray ++ Builtin.zeroCells (Value.int .u8 0).cells k ++ Builtin.zeroCells (Value.int .u8 0).cells (grownCap w (L.length + k) old 5 - (L.length + k))) 5)).ownsRow n 5 1
        (.slice (some ⟨w.heap.size, 0, none⟩) (L.length + k) (grownCap w (L.length + k) old 5)) (L.length + k) (BV L ++ List.replicate k (Value.int .u8 0)) ∧
        w.grownBy (w.drew.alloc (.cells ((BV L).toArray ++ Builtin.zeroCells (Value.int .u8 0).cells k ++ Builtin.zeroCells (Value.int .u8 0).cells (grownCap w (L.length + k) old 5 - (L.length + k))) 5)) row := by
      intro old row
      have hge := grownCap_ge w (L.length + k) old 5
      have hcm : grownCap w (L.length + k) old 5 ≤ maxLen := grownCap_le_maxLen w (L.length + k) old 5 (by unfold maxLen; omega)
      refine ⟨⟨by simp [bv_len], .inr ⟨w.heap.size, _, _, rfl, hn, heap_alloc_new w.drew _, hge, hcm, ?_, ?_⟩⟩, ⟨rfl, rfl, rfl, by simp, fun k hk _ => Go.heap_alloc_old w.drew _ hk⟩⟩
      · rw [zero_is, zero_is]
        simp only [Array.size_append, List.size_toArray, bv_len, List.length_replicate]
        omega
      · rw [zero_is, zero_is]
        simp only [Array.toList_append, Nat.mul_one]
        rw [List.take_append_of_le_length (by simp [bv_len]), List.take_of_length_le (by simp [bv_len])]
    have size1 : (1 : Nat) = i.size := hz1.symm
    rcases hown.2 with ⟨rfl, hl0⟩ | ⟨g, cap, cur, rfl, hb, hg, h2, h3, h4, h5⟩
    · have hL : L = [] := List.eq_nil_of_length_eq_zero hl0
      subst hL
      have hr := Lib.run_append_nil_zeros (P := Try.prog) w 22 3 ty 5 i (.int .u8 0) .i64 .i64 Try.underlying22 Try.underlying3 hi hz0 k (by omega) (by omega) (by omega) (by rw [hz2]; omega)
      have hgr := grown 0 (Value.ownBlock (.slice none 0 0))
      simp only [BV, List.map_nil, List.length_nil, Nat.zero_add, List.nil_append] at hgr
      have e0 : (#[] : Array Value) ++ Builtin.zeroCells (Value.int .u8 0).cells k = Builtin.zeroCells (Value.int .u8 0).cells k := by simp
      rw [show ([] : List Value).toArray = #[] from rfl, e0] at hgr
      refine ⟨_, _, hr, ?_, hgr.2⟩
      unfold OwnF
      rw [hbl, hll]
      simpa [BV] using hgr.1
    · by_cases hroom : L.length + k ≤ cap
      · have hst := run_storeCells_at (P := Try.prog) g L.length 5 (List.replicate k (Value.int .u8 0)) 0 cur w hg (by simp; omega) (fun v hv => by rw [List.eq_of_mem_replicate hv]; rfl)
        simp only [List.length_replicate, Nat.add_zero] at hst
        have hz := zero_n k
        have had : (⟨g, 0, none⟩ : Addr).add (L.length * i.size) = ⟨g, L.length, none⟩ := by rw [hz1, Nat.mul_one]; unfold Addr.add; split <;> simp_all
        have h48j : ¬ (281474976710656 < (k : Int) * (i.bytes : Int)) := by rw [hz2]; omega
        have hns : ¬ (k * i.size = 0) := by rw [hz1]; omega
        refine ⟨.slice (some ⟨g, 0, none⟩) (L.length + k) cap, w.setRow g (cur.toList.take L.length ++ List.replicate k (Value.int .u8 0) ++ cur.toList.drop (L.length + k)).toArray, ?_, ?_, ⟨rfl, rfl, rfl, by simp, fun j _ hj => setRow_other w g j _ (fun e => hj (by simp [Value.ownBlock, e]))⟩⟩
        · generalize List.replicate k (Value.int .u8 0) = Z at *
          generalize (cur.toList.take L.length ++ Z ++ cur.toList.drop (L.length + k)).toArray = R at *
          simp [Builtin.append_, run_underlying Try.underlying22, run_underlying Try.underlying3, sizeOf, typeInfo, zeroValue, hi, hz0, asInt, asIntOf, hwr, hneg, h48j, hns, hroom, hz, had, hst, Question.forced]
        · unfold OwnF
          rw [hbl, hll]
          have hcl : cur.toList.length = cur.size := by simp
          have e5 : cur.toList.take L.length = BV L := by rw [Nat.mul_one] at h5; exact h5
          refine ⟨by simp [bv_len], .inr ⟨g, cap, _, rfl, hb, setRow_heap w g cur _ _ _ hg, hroom, h3, ?_, ?_⟩⟩
          · simp only [List.size_toArray, List.length_append, List.length_take, List.length_drop, List.length_replicate, hcl]
            omega
          · rw [List.toList_toArray, Nat.mul_one, List.take_append_of_le_length (by simp; omega), List.take_of_length_le (by simp; omega)]
            rw [e5]
      · have holds : ∀ j u, (BV L)[j]? = some u → w.drew.cell? ((⟨g, 0, none⟩ : Addr).add j) = some u := hown.cells (g := g) rfl
        have hold : (Builtin.firstCells i.size L.length (.slice (some ⟨g, 0, none⟩) L.length cap)).run Try.prog w.drew = .ok (BV L).toArray w.drew := by
          rw [hz1]
          have := run_loadCells_list (P := Try.prog) w.drew ⟨g, 0, none⟩ (BV L) holds
          rw [bv_len] at this
          simpa [Builtin.firstCells] using this
        have hr := Lib.run_append_grow_zeros (P := Try.prog) w 22 3 ty 5 i (.int .u8 0) .i64 .i64 Try.underlying22 Try.underlying3 hi hz0 (some ⟨g, 0, none⟩) L.length cap (BV L) hold k (by omega) (by omega) (by omega) (by omega) (by rw [hz2]; omega) (by rw [hz2, Nat.mul_one]; exact (by simpa using growslice_fits (need := L.length + k) (old := cap) (bytes := 1) (by omega) (by omega)))
        have hgr := grown cap (Value.ownBlock (.slice (some ⟨g, 0, none⟩) L.length cap))
        refine ⟨_, _, hr, ?_, hgr.2⟩
        unfold OwnF
        rw [hbl, hll]
        exact hgr.1
end Go.Proofs.Ytnmeehhjfcciiaa
