/-
  Small facts that every walk of a seat uses, and the seven ways of the document's Compare at two values.
  Words for tuples in memory: a world that has grown, cells that hold a row of values, a slice value that reads as one.
  Words for bytes in memory: rows of the call's own, slices that read as bytes; an append of bytes, bytes as a text.
-/
import Derived.Test.YtdjhfcopnhcljaaGreatDoorRows
import Derived.Test.YtdjhfcopnhcljaaGreatDoorW01
import Derived.WalkKit
import Derived.WalkSpells
import Derived.WalkLawsBesides
import Derived.Lib.Hide
import Derived.BigQuiet
import Derived.Deep.QuietTactic
import Derived.Outline
import Derived.Sort.Grow
import Derived.LoopTactic
import Derived.Maps.AppendAt
import Derived.Deep.AppendLies
import Derived.OwnWalk
import Derived.Laws.OwnMore
import Derived.Laws.IdiomStrings
import Derived.Laws.BytesArg
namespace Go.Proofs.YtdjhfcopnhcljaaGreatDoor
section
open Go Go.RowKit

theorem bcell {W w1 : World} (hb : Below W.heap.size W w1) : (∀ b o, b < W.heap.size → w1.cell? ⟨b, o, none⟩ = W.cell? ⟨b, o, none⟩) ∧ (∀ b o, b < W.heap.size → w1.frozen? ⟨b, o, none⟩ = W.frozen? ⟨b, o, none⟩) :=
  ⟨fun b o h => hb.cell (p := ⟨b, o, none⟩) h, fun b o h => hb.frozen (p := ⟨b, o, none⟩) h⟩
theorem ret_int {k : IntKind} {a b : Int} (h : a = b) : Ending.returned (.int k a) = .returned (.int k b) := by rw [h]

theorem way1 {k n : Int} {s : ByteArray} {k' n' : Int} {s' : ByteArray} (h : k = k') (g : n = n') (f : s.toList = s'.toList) : (0 : Int) = cmpV k n s k' n' s' := ((cmpV_zero _ _ _ _ _ _).2 ⟨h, g, str_ext f⟩).symm
theorem way2 {k n : Int} {s : ByteArray} {k' n' : Int} {s' : ByteArray} (h : k = k') (g : n = n') (f : Op.bytesLess s.toList s'.toList = true) : (-1 : Int) = cmpV k n s k' n' s' := ((cmpV_lt _ _ _ _ _ _).2 (.inr ⟨h, .inr ⟨g, f⟩⟩)).symm
theorem way3 {k n : Int} {s : ByteArray} {k' n' : Int} {s' : ByteArray} (h : k = k') (g : n = n') (e : ¬s.toList = s'.toList) (f : Op.bytesLess s.toList s'.toList = false) : (1 : Int) = cmpV k n s k' n' s' := by
  subst h g
  unfold cmpV
  rw [cmpI_self, if_pos rfl, cmpI_self, if_pos rfl]
  exact (cmpS_gt f (by simpa using e)).symm
theorem way4 {k n : Int} {s : ByteArray} {k' n' : Int} {s' : ByteArray} (h : k = k') (e : ¬n = n') (g : n' ≤ n) : (1 : Int) = cmpV k n s k' n' s' := by
  subst h
  unfold cmpV
  rw [cmpI_self, if_pos rfl, cmpI_gt (by omega)]; rfl
theorem way5 {k n : Int} {s : ByteArray} {k' n' : Int} {s' : ByteArray} (h : k = k') (g : n < n') : (-1 : Int) = cmpV k n s k' n' s' := ((cmpV_lt _ _ _ _ _ _).2 (.inr ⟨h, .inl g⟩)).symm
theorem way6 {k n : Int} {s : ByteArray} {k' n' : Int} {s' : ByteArray} (e : ¬k = k') (g : k' ≤ k) : (1 : Int) = cmpV k n s k' n' s' := by
  unfold cmpV
  rw [cmpI_gt (by omega)]; rfl
theorem way7 {k n : Int} {s : ByteArray} {k' n' : Int} {s' : ByteArray} (h : k < k') : (-1 : Int) = cmpV k n s k' n' s' := ((cmpV_lt _ _ _ _ _ _).2 (.inl h)).symm

end
section
open Go Go.RowKit

/-- The world has grown: some draws on, new blocks behind it; nothing else has turned. -/
def Grown (w w' : World) : Prop := ∃ (q : Nat) (os : Array Obj), w' = Sort.grow (w.drewN q) os
theorem Grown.refl (w : World) : Grown w w := ⟨0, #[], by rw [Sort.grow_empty]; rfl⟩
theorem Grown.trans {a b c : World} (h : Grown a b) (h' : Grown b c) : Grown a c := by
  obtain ⟨q, os, rfl⟩ := h
  obtain ⟨q', os', rfl⟩ := h'
  refine ⟨q + q', os ++ os', ?_⟩
  rw [← Sort.grow_grow, ← World.drewN_drewN]
  rfl
theorem Grown.alloc {a b : World} (h : Grown a b) (o : Obj) : Grown a (b.alloc o) := h.trans ⟨0, #[o], by rw [Sort.alloc_eq_grow]; rfl⟩
theorem Grown.drew {a b : World} (h : Grown a b) : Grown a b.drew := h.trans ⟨1, #[], by rw [Sort.grow_empty]; rfl⟩
theorem Grown.below {a b : World} (h : Grown a b) : Below a.heap.size a b := by
  obtain ⟨q, os, rfl⟩ := h
  exact ⟨rfl, rfl, rfl, by show a.heap.size ≤ (a.heap ++ os).size; rw [Array.size_append]; omega, fun j hj => Array.getElem?_append_left hj⟩
theorem Grown.size {a b : World} (h : Grown a b) : a.heap.size ≤ b.heap.size := h.below.size

/-- The cells from a place on hold a row of values. -/
def CellsAt (W : World) (b off : Nat) (T : List V3) : Prop :=
  ∀ j (h : j < T.length), W.cell? ⟨b, off + j * 3, none⟩ = some (.int .i64 T[j].k) ∧ W.cell? ⟨b, off + j * 3 + 1, none⟩ = some (.int .i64 T[j].n) ∧ W.cell? ⟨b, off + j * 3 + 2, none⟩ = some (.string T[j].s)
/-- A slice value reads as a row of values, in a block below n₀. -/
def TupIn (n₀ : Nat) (W : World) (v : Value) (T : List V3) : Prop :=
  ∃ p cap, v = .slice p T.length cap ∧ T.length ≤ 1000000 ∧ (T = [] ∨ ∃ b off, p = some ⟨b, off, none⟩ ∧ b < n₀ ∧ CellsAt W b off T)
theorem CellsAt.below {n₀ : Nat} {W W' : World} {b off : Nat} {T : List V3} (h : CellsAt W b off T) (hb : Below n₀ W W') (hl : b < n₀) : CellsAt W' b off T := fun j hj =>
  ⟨(hb.cell (p := ⟨b, off + j * 3, none⟩) hl).trans (h j hj).1, (hb.cell (p := ⟨b, off + j * 3 + 1, none⟩) hl).trans (h j hj).2.1, (hb.cell (p := ⟨b, off + j * 3 + 2, none⟩) hl).trans (h j hj).2.2⟩
theorem TupIn.below {n₀ : Nat} {W W' : World} {v : Value} {T : List V3} (h : TupIn n₀ W v T) (hb : Below n₀ W W') : TupIn n₀ W' v T := by
  obtain ⟨p, cap, rfl, hl, h⟩ := h
  refine ⟨p, cap, rfl, hl, ?_⟩
  rcases h with h | ⟨b, off, rfl, hlt, hc⟩
  · exact .inl h
  · exact .inr ⟨b, off, rfl, hlt, hc.below hb hlt⟩
theorem TupIn.mono {n₀ n₁ : Nat} {W : World} {v : Value} {T : List V3} (h : TupIn n₀ W v T) (hn : n₀ ≤ n₁) : TupIn n₁ W v T := by
  obtain ⟨p, cap, rfl, hl, h⟩ := h
  refine ⟨p, cap, rfl, hl, ?_⟩
  rcases h with h | ⟨b, off, rfl, hlt, hc⟩
  · exact .inl h
  · exact .inr ⟨b, off, rfl, by omega, hc⟩
end
section
open Go Go.RowKit

theorem Tryz.infoB : (Tryz.prog.info? 5).map (fun i => (i.zero, i.size, i.bytes)) = some (some (.int .u8 0), 1, 1) := by kernel_rfl
/-- Bytes as cells. -/
def bytesV (l : List UInt8) : List Value := l.map fun c => .int .u8 (c.toNat : Int)
theorem bytesV_len (l : List UInt8) : (bytesV l).length = l.length := by simp [bytesV]
theorem bytesV_append (l m : List UInt8) : bytesV (l ++ m) = bytesV l ++ bytesV m := by simp [bytesV]
theorem bytesV_one (l : List UInt8) : ∀ u ∈ bytesV l, u.oneCell' = true := by
  intro u hu
  obtain ⟨c, -, rfl⟩ := List.mem_map.1 hu
  rfl
theorem bytesV_at (l : List UInt8) (j : Nat) (u : Value) (h : (bytesV l)[j]? = some u) : ∃ h : j < l.length, u = .int .u8 (l[j].toNat : Int) := by
  obtain ⟨hj, rfl⟩ := List.getElem?_eq_some_iff.1 h
  exact ⟨by simpa [bytesV] using hj, by simp [bytesV]⟩
theorem add_block (a : Addr) (n : Nat) : (a.add n).block = a.block := by unfold Addr.add; split <;> rfl

/-- A slice value that the call owns holds bytes. -/
def OwnB (B : Nat) (w : World) (v : Value) (l : List UInt8) : Prop := w.ownsRow B 5 1 v l.length (bytesV l)
/-- A slice value reads as bytes, in a block below n₀. -/
def BytIn (n₀ : Nat) (w : World) (v : Value) (l : List UInt8) : Prop :=
  (v = .slice none 0 0 ∧ l = []) ∨ ∃ a cap, v = .slice (some a) l.length cap ∧ ∀ j (h : j < l.length), a.block < n₀ ∧ w.cell? (a.add j) = some (.int .u8 (l[j].toNat : Int))
theorem OwnB.nil (B : Nat) (w : World) : OwnB B w (.slice none 0 0) [] := World.ownsRow_nil w B _ 1
theorem OwnB.alloc {B : Nat} {w : World} {v : Value} {l : List UInt8} (h : OwnB B w v l) (o : Obj) : OwnB B (w.alloc o) v l := World.ownsRow.alloc h o
theorem OwnB.below {B : Nat} {w w' : World} {v : Value} {l : List UInt8} (h : OwnB B w v l) (hb : Below w.heap.size w w') : OwnB B w' v l := by
  refine ⟨h.1, ?_⟩
  rcases h.2 with hn | ⟨g, cap, cur, rfl, hB, hg, rest⟩
  · exact .inl hn
  · exact .inr ⟨g, cap, cur, rfl, hB, (hb.block g (Array.getElem?_eq_some_iff.1 hg).1).trans hg, rest⟩
theorem OwnB.mono {B B' : Nat} {w : World} {v : Value} {l : List UInt8} (h : OwnB B w v l) (hB : B' ≤ B) : OwnB B' w v l := by
  refine ⟨h.1, ?_⟩
  rcases h.2 with hn | ⟨g, cap, cur, rfl, hB', rest⟩
  · exact .inl hn
  · exact .inr ⟨g, cap, cur, rfl, by omega, rest⟩
theorem OwnB.in_ {B : Nat} {w : World} {v : Value} {l : List UInt8} (h : OwnB B w v l) : BytIn w.heap.size w v l := by
  rcases Nat.eq_zero_or_pos l.length with h0 | h0
  · obtain rfl := List.eq_nil_of_length_eq_zero h0
    rcases h.2 with ⟨rfl, -⟩ | ⟨g, cap, cur, rfl, -⟩
    · exact .inl ⟨rfl, rfl⟩
    · exact .inr ⟨_, cap, rfl, fun j hj => by simp at hj⟩
  · obtain ⟨g, cap, rfl, -, hg⟩ := World.ownsRow.form h h0
    refine .inr ⟨_, cap, rfl, fun j hj => ⟨hg, ?_⟩⟩
    exact World.ownsRow.cells h (g := g) rfl j _ (by simp [bytesV, hj])
theorem BytIn.below {n₀ : Nat} {w w' : World} {v : Value} {l : List UInt8} (h : BytIn n₀ w v l) (hb : Below n₀ w w') : BytIn n₀ w' v l := by
  rcases h with h | ⟨a, cap, rfl, h⟩
  · exact .inl h
  · exact .inr ⟨a, cap, rfl, fun j hj => ⟨(h j hj).1, (hb.cell (p := a.add j) (by rw [add_block]; exact (h j hj).1)).trans (h j hj).2⟩⟩
theorem BytIn.mono {n₀ n₁ : Nat} {w : World} {v : Value} {l : List UInt8} (h : BytIn n₀ w v l) (hn : n₀ ≤ n₁) : BytIn n₁ w v l := by
  rcases h with h | ⟨a, cap, rfl, h⟩
  · exact .inl h
  · exact .inr ⟨a, cap, rfl, fun j hj => ⟨by have := (h j hj).1; omega, (h j hj).2⟩⟩
theorem BytIn.shape {n₀ : Nat} {w : World} {v : Value} {l : List UInt8} (h : BytIn n₀ w v l) : ∃ p cap, v = .slice p l.length cap := by
  rcases h with ⟨rfl, rfl⟩ | ⟨a, cap, rfl, -⟩
  · exact ⟨none, 0, rfl⟩
  · exact ⟨some a, cap, rfl⟩
/-- The literal of some bytes, laid in a new block. -/
theorem BytIn.lit (w : World) (C : Array Value) (l : List UInt8) (n : Nat) (hn : n = l.length) (hC : C.toList = bytesV l) :
    BytIn (w.heap.size + 1) (w.alloc (.cells C 5)) (.slice (some ⟨w.heap.size, 0, none⟩) n n) l := by
  subst hn
  refine .inr ⟨_, _, rfl, fun j hj => ⟨by simp, ?_⟩⟩
  have hadd : (⟨w.heap.size, 0, none⟩ : Addr).add j = ⟨w.heap.size, j, none⟩ := by unfold Addr.add; split <;> simp_all
  rw [hadd, cell_of_row _ w.heap.size j C _ (0, 0) (heap_alloc_new w _), ← Array.getElem?_toList, hC]
  simp [bytesV, hj]
theorem OwnB.lit (B : Nat) (w : World) (C : Array Value) (l : List UInt8) (n : Nat) (hB : B ≤ w.heap.size) (hn : n = l.length) (hl : l.length ≤ 1000) (hC : C.toList = bytesV l) :
    OwnB B (w.alloc (.cells C 5)) (.slice (some ⟨w.heap.size, 0, none⟩) n n) l := by
  subst hn
  unfold OwnB
  rw [← hC]
  have hs : C.size = l.length * 1 := by rw [← Array.length_toList, hC, bytesV_len]; omega
  exact World.ownsRow_lit w C l.length hB (by unfold maxLen; omega) hs
theorem u8_cell {n : Int} (h : 0 ≤ n ∧ n ≤ 255) : (((UInt8.ofNat n.toNat).toNat : Nat) : Int) = n := by
  rw [UInt8.toNat_ofNat', Nat.mod_eq_of_lt (by omega)]
  omega
theorem bytesV_single {n : Int} {c : UInt8} (h : (c.toNat : Int) = n) : (#[Value.int .u8 n] : Array Value).toList = bytesV [c] := by simp [bytesV, h]

/-- An append of bytes onto a row of the call's own. -/
theorem run_app (w : World) (B n₀ : Nat) (ty : TypeId) (v vx : Value) (l m : List UInt8) (hown : OwnB B w v l) (hin : BytIn n₀ w vx m) (hlen : l.length + m.length ≤ 100000000000000) (hB : B ≤ w.heap.size) :
    ∃ v' w', (Builtin.append_ #[24, 24] ty #[v, vx]).run Tryz.prog w = .ok v' w' ∧ OwnB B w' v' (l ++ m) ∧ w.grownBy w' v.ownBlock := by
  obtain ⟨i0, hi, hz0, hz1, hz2⟩ := info_parts Tryz.infoB
  rcases hin with ⟨rfl, rfl⟩ | ⟨ad, c, rfl, hin⟩
  · exact ⟨v, w, run_append_owned_none (P := Tryz.prog) w B _ _ _ i0 1 Tryz.underlying24 hi v _ _ hown, by rw [List.append_nil]; exact hown, World.grownBy.refl w _⟩
  · obtain ⟨v', w', hr, ho, hg, -, -⟩ := run_append_own_at (P := Tryz.prog) w B 24 ty 5 i0 (.int .u8 0) 1 1 Tryz.underlying24 hi hz0 hz1 hz2 rfl (by decide) v _ _ hown ad m.length c (bytesV m)
      (by rw [bytesV_len]; omega) (fun j u hu => by obtain ⟨hj, rfl⟩ := bytesV_at m j u hu; exact (hin j hj).2) (bytesV_one m) (by unfold maxLen; omega) (by omega) hB
    refine ⟨v', w', hr, ?_, hg⟩
    unfold OwnB
    rw [List.length_append, bytesV_append]
    exact ho
/-- The same at the operation. -/
theorem wpList_app {ops : Array Oper} {rest : List Oper} {o : Oper} {a : Act} {w : World} {Q : Exit → Act → World → Prop} (hgd : o.guard = none) (s x : Operand)
    (ho : o.op = .call { callee := .builtin .append, args := #[s, x], argTypes := #[24, 24] })
    (B n₀ : Nat) (w0 : World) (v vx : Value) (l m : List UInt8) (hs : a.eval s = v) (hx : a.eval x = vx) (hown : OwnB B w v l) (hin : BytIn n₀ w vx m) (hlen : l.length + m.length ≤ 100000000000000) (hb : Below B w0 w) (hB : B ≤ w0.heap.size)
    (h : ∀ v' w', OwnB B w' v' (l ++ m) → Below B w0 w' → wpList Tryz.prog ops Q rest (a.put o.dst v') w') : wpList Tryz.prog ops Q (o :: rest) a w := by
  refine wpList_plain hgd fun K hK => ?_
  have hBw : B ≤ w.heap.size := Nat.le_trans hB hb.size
  obtain ⟨v', w', hr, h2, h3⟩ := run_app w B n₀ o.type v vx l m hown hin hlen hBw
  unfold Oper.wp execOp
  simp only [ho, resolve, invoke, builtin, Sem.run_bind, Sem.run_pure, Result.andThen_ok, List.map_toArray, List.map_cons, List.map_nil, hs, hx, hr]
  exact hK _ _ (h v' w' h2 (hb.grown h3 hBw fun k hk => (World.ownsRow.lt hown k hk).1))
/-- Bytes as a text. -/
theorem run_str (w : World) (n₀ : Nat) (v : Value) (l : List UInt8) (h : BytIn n₀ w v l) : (convert 24 9 v).run Tryz.prog w = .ok (.string ⟨l.toArray⟩) w := by
  rcases h with ⟨rfl, rfl⟩ | ⟨a, cap, rfl, h⟩
  · exact run_convert_bytes_nil (P := Tryz.prog) w 24 5 Tryz.underlying24 Tryz.underlying5 0 0 9 Tryz.underlying9
  · exact run_convert_bytes_back (P := Tryz.prog) w 24 9 5 a cap l Tryz.underlying24 Tryz.underlying5 Tryz.underlying9 fun j hj => (h j hj).2

/-- A call that answers bytes in memory of its own. -/
def EndB (l : List UInt8) (w : World) (e : Ending) (w' : World) : Prop := ∃ v, e = .returned v ∧ OwnB w.heap.size w' v l ∧ Below w.heap.size w w'
end
end Go.Proofs.YtdjhfcopnhcljaaGreatDoor
