/-
  An append of zeros ('append(b, make([]byte, n)...)') onto a row of bytes of the call's own.
-/
import Derived.Test.YteaeiejkdnbcnaaDoorCrH
import Derived.Lib.AppendZerosOnto
namespace Go.Proofs.YteaeiejkdnbcnaaDoor
open Go Go.RowKit

theorem zeros_v (n : Nat) : (Builtin.zeroCells (Value.int .u8 0).cells n).toList = bytesV (List.replicate n 0) := by
  apply List.ext_getElem
  · simp [Builtin.zeroCells, Value.cells, bytesV]
  · intro j h h'
    simp [Builtin.zeroCells, Value.cells, bytesV, Nat.mod_one]
theorem run_zeros (w : World) (B : Nat) (ty : TypeId) (g cap n : Nat) (l : List UInt8) (hown : OwnB B w (.slice (some ⟨g, 0, none⟩) l.length cap) l) (hn : n ≤ 1000000) (hlen : l.length ≤ 1000000) (hB : B ≤ w.heap.size) :
    ∃ v' w', (Builtin.append_ #[22, 3] ty #[.slice (some ⟨g, 0, none⟩) l.length cap, .int .i64 (n : Int)]).run Tryd.prog w = .ok v' w' ∧ OwnB B w' v' (l ++ List.replicate n 0) ∧ w.grownBy w' (some g) := by
  obtain ⟨i0, hi, hz0, hz1, hz2⟩ := info_parts Tryd.infoB
  rcases hown.2 with ⟨e, -⟩ | ⟨g', cap', cur, e, hBg, hg, hc, hm, hs, ht⟩
  · simp at e
  · injection e with e1 e2 e3
    injection e1 with e1
    injection e1 with e1
    subst e1 e3
    have hwn : IntKind.i64.wrap (n : Int) = n := by rw [IntKind.wrap_i64]; omega
    have hneg : ¬ ((n : Int) < 0) := by omega
    have h48 : ¬ (281474976710656 < (n : Int)) := by omega
    have hu8 := Tryd.underlying22
    have hui := Tryd.underlying3
    have hlenV : (bytesV (List.replicate n 0)).length = n := by rw [bytesV_len, List.length_replicate]
    rw [Nat.mul_one] at ht hs
    have hL : (l ++ List.replicate n (0 : UInt8)).length = (bytesV l ++ bytesV (List.replicate n 0)).length := by rw [← bytesV_append, bytesV_len]
    by_cases h0 : n = 0
    · subst h0
      refine ⟨.slice (some ⟨g, 0, none⟩) l.length cap, w, ?_, by rw [List.replicate_zero, List.append_nil]; exact hown, ⟨rfl, rfl, rfl, Nat.le_refl _, fun _ _ _ => rfl⟩⟩
      have hw0 : IntKind.i64.wrap 0 = 0 := by decide
      simp [Builtin.append_, run_underlying hu8, run_underlying hui, sizeOf, typeInfo, hi, hz2, asInt, asIntOf, Addr.add_lit, storeCells, hc, hw0]
    by_cases hroom : l.length + n ≤ cap
    · have hst := run_storeCells_at Tryd.prog g l.length 5 (bytesV (List.replicate n 0)) 0 cur w hg (by rw [hlenV]; omega) (bytesV_one _)
      simp only [Nat.add_zero] at hst
      refine ⟨.slice (some ⟨g, 0, none⟩) (l.length + n) cap, w.setRow g (cur.toList.take l.length ++ bytesV (List.replicate n 0) ++ cur.toList.drop (l.length + (bytesV (List.replicate n 0)).length)).toArray, ?_, ?_, ?_⟩
      · simp [Builtin.append_, run_underlying hu8, run_underlying hui, sizeOf, typeInfo, zeroValue, hi, hz0, hz1, hz2, asInt, asIntOf, hwn, hneg, h48, h0, hroom, Addr.add_lit, zeros_v, hst]
      · refine ⟨by rw [bytesV_len, Nat.mul_one], .inr ⟨g, cap, _, by rw [List.length_append, List.length_replicate], hBg, setRow_heap w g cur _ 5 _ hg, by rw [List.length_append, List.length_replicate]; exact hroom, hm, ?_, ?_⟩⟩
        · simp only [List.size_toArray, List.length_append, List.length_take, List.length_drop, Array.length_toList, hlenV]
          omega
        · rw [ht, Nat.mul_one, bytesV_append]
          simp only [List.append_assoc]
          rw [← List.append_assoc, hL]
          exact List.take_left
      · exact ⟨rfl, rfl, rfl, by simp, fun k hk hne => setRow_other w g k _ (fun e => hne (by simp [e]))⟩
    · have hold : (Builtin.firstCells i0.size l.length (.slice (some ⟨g, 0, none⟩) l.length cap)).run Tryd.prog w.drew = .ok (bytesV l).toArray w.drew := by
        refine run_firstCells_some (P := Tryd.prog) w.drew i0.size l.length ⟨g, 0, none⟩ l.length cap (bytesV l) (by rw [hz1, bytesV_len, Nat.mul_one]) (fun j u hu => ?_)
        have hadd : (⟨g, 0, none⟩ : Addr).add j = ⟨g, j, none⟩ := by unfold Addr.add; split <;> simp_all
        obtain ⟨hj, -⟩ := bytesV_at l j u hu
        rw [hadd]
        refine (cell_of_row w.drew g j cur _ (0, 0) hg).trans ?_
        rw [← Array.getElem?_toList, ← hu, ← ht, List.getElem?_take_of_lt hj]
      have hr := Lib.run_append_grow_zeros (P := Tryd.prog) w 22 3 ty 5 i0 (.int .u8 0) .i64 .i64 hu8 hui hi hz0 (some ⟨g, 0, none⟩) l.length cap (bytesV l) hold n (by omega) (by rw [hz1]; decide) (by omega) (by omega) (by rw [hz2]; omega) (by rw [hz2]; exact growslice_fits (by omega) (by omega))
      have hge := grownCap_ge w (l.length + n) cap 5
      have hcm := grownCap_le_maxLen w (l.length + n) cap 5 (by unfold maxLen; omega)
      refine ⟨_, _, hr, ⟨by rw [bytesV_len, Nat.mul_one], .inr ⟨w.heap.size, _, _, by rw [List.length_append, List.length_replicate], hB, heap_alloc_new w.drew _, by rw [List.length_append, List.length_replicate]; exact hge, hcm, ?_, ?_⟩⟩, ⟨rfl, rfl, rfl, by simp, fun k hk _ => heap_alloc_old w.drew _ hk⟩⟩
      · simp only [Array.size_append, List.size_toArray, size_zeroCells, bytesV_len]
        simp [Value.cells]
        omega
      · rw [Array.toList_append, Array.toList_append, zeros_v, Nat.mul_one, bytesV_append]
        simp only [List.append_assoc]
        rw [← List.append_assoc, hL]
        exact List.take_left
/-- The same at the operation. -/
theorem wpList_zeros {ops : Array Oper} {rest : List Oper} {o : Oper} {a : Act} {w : World} {Q : Exit → Act → World → Prop} (hgd : o.guard = none) (s x : Operand)
    (ho : o.op = .call { callee := .builtin .append, args := #[s, x], argTypes := #[22, 3] })
    (B : Nat) (g cap n : Nat) (l : List UInt8) (hs : a.eval s = .slice (some ⟨g, 0, none⟩) l.length cap) (hx : a.eval x = .int .i64 (n : Int)) (hown : OwnB B w (.slice (some ⟨g, 0, none⟩) l.length cap) l) (hn : n ≤ 1000000) (hlen : l.length ≤ 1000000) (hB : B ≤ w.heap.size) (hg : B ≤ g)
    (h : ∀ v' w', OwnB B w' v' (l ++ List.replicate n 0) → Below B w w' → wpList Tryd.prog ops Q rest (a.put o.dst v') w') : wpList Tryd.prog ops Q (o :: rest) a w := by
  refine wpList_plain hgd fun K hK => ?_
  obtain ⟨v', w', hr, h2, h3⟩ := run_zeros w B o.type g cap n l hown hn hlen hB
  unfold Oper.wp execOp
  simp only [ho, resolve, invoke, builtin, Sem.run_bind, Sem.run_pure, Result.andThen_ok, List.map_toArray, List.map_cons, List.map_nil, hs, hx, hr]
  exact hK _ _ (h v' w' h2 ((Below.refl B w).grown h3 hB fun k hk => by simp at hk; omega))

theorem OwnB.rowZ {B : Nat} {w : World} {v : Value} {c : List UInt8} (h : OwnB B w v c) (hc : 0 < c.length) : ∃ g cap, v = .slice (some ⟨g, 0, none⟩) c.length cap ∧ B ≤ g := by
  rcases h.2 with ⟨rfl, e⟩ | ⟨g, cap, cur, rfl, hB, hg, hcc, -⟩
  · omega
  · exact ⟨g, cap, rfl, hB⟩
/-- A head that tells too many bytes is none. -/
theorem unfE_long (k : UInt8) (n : Nat) (m : List UInt8) (hn : n ≤ 255) : unfE (sealL (k :: encL (BitVec.ofNat 32 (1048577 + n))) ++ m) = (42, 0, 0, []) := by
  obtain ⟨h, hh⟩ : ∃ h, h = k :: encL (BitVec.ofNat 32 (1048577 + n)) := ⟨_, rfl⟩
  have hl : h.length = 5 := by rw [hh]; rfl
  have h9 : (sealL h ++ m).take 9 = sealL h := by
    rw [List.take_append_of_le_length (by rw [sealL_len, hl]; decide), List.take_of_length_le (by rw [sealL_len, hl]; decide)]
  have h5 : (sealL h ++ m).take 5 = h := by
    have e : (sealL h ++ m).take 5 = ((sealL h ++ m).take 9).take 5 := by rw [List.take_take]; rfl
    rw [e, h9]
    unfold sealL
    have e2 := List.take_left (l₁ := h) (l₂ := encL (sumL h))
    rw [hl] at e2
    exact e2
  have hd : h.drop 1 = encL (BitVec.ofNat 32 (1048577 + n)) := by rw [hh]; rfl
  rw [← hh]
  unfold unfE
  rw [if_neg (by rw [List.length_append, sealL_len, hl]; omega), h9, h5, hd, decN_enc, BitVec.toNat_ofNat, if_neg (by rw [openB_seal]; simp), if_pos (by omega)]
end Go.Proofs.YteaeiejkdnbcnaaDoor
