/-
  Rows of counted tuples as they lie in memory; an append of them.
-/
import Derived.Test.YtcfnpbmkcdmafaaMcS
namespace Go.Proofs.Ytcfnpbmkcdmafaa
section
open Go Go.RowKit Go.Shelf

def cellsRw : List Raw → List Value
  | [] => []
  | x :: r => rawS x :: .int .i64 x.2 :: cellsRw r
theorem cellsRw_len (L : List Raw) : (cellsRw L).length = L.length * 2 := by
  induction L with
  | nil => rfl
  | cons x r ih => simp only [cellsRw, List.length_cons, ih]; omega
theorem cellsRw_append (L M : List Raw) : cellsRw (L ++ M) = cellsRw L ++ cellsRw M := by
  induction L with
  | nil => rfl
  | cons x r ih => simp only [cellsRw, List.cons_append, ih]
theorem cellsRw_one (L : List Raw) : ∀ u ∈ cellsRw L, u.oneCell' = true := by
  induction L with
  | nil => intro u hu; cases hu
  | cons x r ih =>
    intro u hu
    simp only [cellsRw, List.mem_cons] at hu
    rcases hu with rfl | rfl | hu
    · rfl
    · rfl
    · exact ih u hu
theorem cellsRw_at : ∀ (L : List Raw) (j : Nat) (hj : j < L.length), (cellsRw L)[j * 2]? = some (rawS L[j]) ∧ (cellsRw L)[j * 2 + 1]? = some (.int .i64 L[j].2)
  | [], j, hj => by simp at hj
  | x :: r, 0, _ => ⟨rfl, rfl⟩
  | x :: r, j + 1, hj => by
    have h := cellsRw_at r j (by simpa using hj)
    have e : (j + 1) * 2 = j * 2 + 1 + 1 := by omega
    simp only [e, cellsRw, List.getElem?_cons_succ, List.getElem_cons_succ]
    exact h
/-- A slice value reads as these things; its block is one of S. -/
def RawIn (S : Nat → Prop) (w : World) (v : Value) (L : List Raw) : Prop :=
  ∃ p c, v = .slice p L.length c ∧ L.length ≤ c ∧ c ≤ maxLen ∧ (L = [] ∨ ∃ b off, p = some ⟨b, off, none⟩ ∧ S b ∧ b < w.heap.size ∧ ∀ j (h : j < L.length), w.cell? ⟨b, off + j * 2, none⟩ = some (rawS L[j]) ∧ w.cell? ⟨b, off + j * 2 + 1, none⟩ = some (.int .i64 L[j].2))
theorem RawIn.keep {S S' : Nat → Prop} {w w' : World} {v : Value} {L : List Raw} (h : RawIn S w v L) (hs : w.heap.size ≤ w'.heap.size) (hS : ∀ k, S k → k < w.heap.size → S' k ∧ w'.heap[k]? = w.heap[k]?) : RawIn S' w' v L := by
  obtain ⟨p, c, rfl, h1, h2, h⟩ := h
  refine ⟨p, c, rfl, h1, h2, ?_⟩
  rcases h with h | ⟨b, off, rfl, hb, hl, h⟩
  · exact .inl h
  · obtain ⟨g1, g2⟩ := hS b hb hl
    have cc : ∀ o, w'.cell? ⟨b, o, none⟩ = w.cell? ⟨b, o, none⟩ := fun o => World.cell?_of_block (a := ⟨b, o, none⟩) g2
    exact .inr ⟨b, off, rfl, g1, by omega, fun j hj => by rw [cc, cc]; exact h j hj⟩
theorem Try.infoRw : (Try.prog.info? 68).map (fun i => (i.zero, i.size, i.bytes)) = some (some (.agg #[.slice none 0 0, .int .i64 0]), 2, 32) := by kernel_rfl
/-- A slice value that the call owns holds a row of things. -/
def OwnRw (B : Nat) (w : World) (v : Value) (L : List Raw) : Prop := w.ownsRow B 68 2 v L.length (cellsRw L)
theorem OwnRw.nil (B : Nat) (w : World) : OwnRw B w (.slice none 0 0) [] := World.ownsRow_nil w B _ 2
theorem OwnRw.alloc {B : Nat} {w : World} {v : Value} {L : List Raw} (h : OwnRw B w v L) (o : Obj) : OwnRw B (w.alloc o) v L := World.ownsRow.alloc h o
theorem OwnRw.keep {B : Nat} {w w' : World} {v : Value} {L : List Raw} (h : OwnRw B w v L) (hb : ∀ k, v.ownBlock = some k → w'.heap[k]? = w.heap[k]?) : OwnRw B w' v L := by
  refine ⟨h.1, ?_⟩
  rcases h.2 with hn | ⟨g, cap, cur, rfl, hB, hg, rest⟩
  · exact .inl hn
  · exact .inr ⟨g, cap, cur, rfl, hB, (hb g rfl).trans hg, rest⟩
theorem OwnRw.mono {B B' : Nat} {w : World} {v : Value} {L : List Raw} (h : OwnRw B w v L) (hB : B' ≤ B) : OwnRw B' w v L := by
  refine ⟨h.1, ?_⟩
  rcases h.2 with hn | ⟨g, cap, cur, rfl, hB', rest⟩
  · exact .inl hn
  · exact .inr ⟨g, cap, cur, rfl, by omega, rest⟩
theorem OwnRw.lt {B : Nat} {w : World} {v : Value} {L : List Raw} (h : OwnRw B w v L) : ∀ k, v.ownBlock = some k → B ≤ k ∧ k < w.heap.size := World.ownsRow.lt h
theorem OwnRw.in_ {B : Nat} {w : World} {v : Value} {L : List Raw} (h : OwnRw B w v L) (S : Nat → Prop) (hS : ∀ k, v.ownBlock = some k → S k) : RawIn S w v L := by
  rcases Nat.eq_zero_or_pos L.length with h0 | h0
  · obtain rfl := List.eq_nil_of_length_eq_zero h0
    rcases h.2 with ⟨rfl, -⟩ | ⟨g, cap, cur, rfl, -, -, hnc, hcm, -⟩
    · exact ⟨none, 0, rfl, by simp, by simp, .inl rfl⟩
    · exact ⟨_, cap, rfl, by simp, hcm, .inl rfl⟩
  · obtain ⟨g, cap, rfl, -, hg⟩ := World.ownsRow.form h h0
    have at_ : ∀ j u, (cellsRw L)[j]? = some u → w.cell? ⟨g, 0 + j, none⟩ = some u := fun j u hu => by
      have hc := World.ownsRow.cells h (g := g) rfl j u hu
      rw [addr_add] at hc
      exact hc
    have hcap : L.length ≤ cap ∧ cap ≤ maxLen := by
      rcases h.2 with ⟨e, -⟩ | ⟨g', cap', cur, e, -, -, hnc, hcm, -⟩
      · cases e
      · cases e; exact ⟨hnc, hcm⟩
    refine ⟨_, cap, rfl, hcap.1, hcap.2, .inr ⟨g, 0, rfl, hS g rfl, hg, fun j hj => ?_⟩⟩
    obtain ⟨h1, h2⟩ := cellsRw_at L j hj
    exact ⟨at_ _ _ h1, by rw [Nat.add_assoc]; exact at_ _ _ h2⟩
theorem cells_rw {W : World} {b : Nat} : ∀ (T : List Raw) (off : Nat), (∀ j (h : j < T.length), W.cell? ⟨b, off + j * 2, none⟩ = some (rawS T[j]) ∧ W.cell? ⟨b, off + j * 2 + 1, none⟩ = some (.int .i64 T[j].2)) → ∀ j u, (cellsRw T)[j]? = some u → W.cell? ⟨b, off + j, none⟩ = some u
  | [], off, _ => fun j u hu => by simp [cellsRw] at hu
  | x :: r, off, h => fun j u hu => by
    have h0 := h 0 (by simp)
    simp only [Nat.zero_mul, Nat.add_zero, List.getElem_cons_zero] at h0
    rcases j with _ | _ | j
    · simp [cellsRw] at hu; rw [← hu]; exact h0.1
    · simp [cellsRw] at hu; rw [← hu]; exact h0.2
    · have := cells_rw r (off + 2) (fun i hi => by
        have h1 := h (i + 1) (by simpa using hi)
        rw [show off + (i + 1) * 2 = off + 2 + i * 2 by omega] at h1
        exact h1) j u (by simpa [cellsRw] using hu)
      rw [show off + (j + 1 + 1) = off + 2 + j by omega]
      exact this
theorem run_append_nilRw (w : World) (B : Nat) (ty : TypeId) (v : Value) (T : List Raw) (hown : OwnRw B w v T) (c : Nat) : (Builtin.append_ #[62, 62] ty #[v, .slice none 0 c]).run Try.prog w = .ok v w := by
  obtain ⟨i0, hi, -, -, -⟩ := info_parts Try.infoRw
  rcases hown.2 with ⟨rfl, -⟩ | ⟨g, cap, cur, rfl, -, -, hnc, -⟩
  · simp [Builtin.append_, run_underlying Try.underlying62, sizeOf, typeInfo, hi, Builtin.lenOf, Builtin.firstCells]
  · simp [Builtin.append_, run_underlying Try.underlying62, sizeOf, typeInfo, hi, Builtin.lenOf, Builtin.firstCells, hnc, storeCells]
/-- An append of things onto a row of the call's own. -/
theorem run_appRw (w : World) (B : Nat) (S : Nat → Prop) (ty : TypeId) (v vx : Value) (T X : List Raw) (hown : OwnRw B w v T) (hin : RawIn S w vx X) (hT : T.length ≤ 1000000) (hXl : X.length ≤ 1000000) (hB : B ≤ w.heap.size) :
    ∃ v' w', (Builtin.append_ #[62, 62] ty #[v, vx]).run Try.prog w = .ok v' w' ∧ OwnRw B w' v' (T ++ X) ∧ w.grownBy w' v.ownBlock ∧ (v'.ownBlock = v.ownBlock ∨ v'.ownBlock = some w.heap.size) := by
  obtain ⟨i0, hi, hz0, hz1, hz2⟩ := info_parts Try.infoRw
  obtain ⟨p, c, rfl, hX, hXm, hc⟩ := hin
  have some_ : ∀ ad, p = some ad → (∀ j u, (cellsRw X)[j]? = some u → w.cell? (ad.add j) = some u) → ∃ v' w', (Builtin.append_ #[62, 62] ty #[v, .slice p X.length c]).run Try.prog w = .ok v' w' ∧ OwnRw B w' v' (T ++ X) ∧ w.grownBy w' v.ownBlock ∧ (v'.ownBlock = v.ownBlock ∨ v'.ownBlock = some w.heap.size) := by
    rintro ad rfl hcell
    obtain ⟨v', w', hr, ho, hg, -, hv⟩ := run_append_own_at (P := Try.prog) w B 62 ty 68 i0 (.agg #[.slice none 0 0, .int .i64 0]) 2 32 Try.underlying62 hi hz0 hz1 hz2 rfl (by decide) v _ _ hown ad X.length c (cellsRw X)
      (cellsRw_len X) hcell (cellsRw_one X) (by unfold maxLen; omega) (by omega) hB
    refine ⟨v', w', hr, ?_, hg, hv⟩
    unfold OwnRw
    rw [List.length_append, cellsRw_append]
    exact ho
  rcases hc with rfl | ⟨b, off, rfl, -, -, hc⟩
  · rcases p with _ | ad
    · exact ⟨v, w, run_append_nilRw w B ty v T hown c, by rw [List.append_nil]; exact hown, World.grownBy.refl w _, .inl rfl⟩
    · exact some_ ad rfl fun j u hu => by simp [cellsRw] at hu
  · exact some_ _ rfl fun j u hu => by
      rw [addr_add]
      exact cells_rw X off hc j u hu
/-- The same at the operation. -/
theorem wpList_appRw {ops : Array Oper} {rest : List Oper} {o : Oper} {a : Act} {w : World} {Q : Exit → Act → World → Prop} (hgd : o.guard = none) (s x : Operand)
    (ho : o.op = .call { callee := .builtin .append, args := #[s, x], argTypes := #[62, 62] })
    (B : Nat) (S : Nat → Prop) (v vx : Value) (T X : List Raw) (hs : a.eval s = v) (hx : a.eval x = vx) (hown : OwnRw B w v T) (hin : RawIn S w vx X) (hlen : T.length ≤ 1000000) (hlx : X.length ≤ 1000000) (hB : B ≤ w.heap.size)
    (h : ∀ v' w', OwnRw B w' v' (T ++ X) → w.grownBy w' v.ownBlock → (v'.ownBlock = v.ownBlock ∨ v'.ownBlock = some w.heap.size) → wpList Try.prog ops Q rest (a.put o.dst v') w') : wpList Try.prog ops Q (o :: rest) a w := by
  refine wpList_plain hgd fun K hK => ?_
  obtain ⟨v', w', hr, h2, h3, h4⟩ := run_appRw w B S o.type v vx T X hown hin hlen hlx hB
  unfold Oper.wp execOp
  simp only [ho, resolve, invoke, builtin, Sem.run_bind, Sem.run_pure, Result.andThen_ok, List.map_toArray, List.map_cons, List.map_nil, hs, hx, hr]
  exact hK _ _ (h v' w' h2 h3 h4)
/-- A literal of one, laid in a new block. -/
theorem litRw_in (w : World) (h : Raw) : RawIn (fun b => b = w.heap.size) (w.alloc (.cells #[.slice h.1.1 h.1.2.1 h.1.2.2, .int .i64 h.2] 68)) (.slice (some ⟨w.heap.size, 0, none⟩) 1 1) [h] := by
  refine ⟨_, 1, rfl, by simp, by decide, .inr ⟨w.heap.size, 0, rfl, rfl, by simp, fun j hj => ?_⟩⟩
  obtain rfl : j = 0 := by simpa using hj
  refine ⟨?_, ?_⟩ <;> (rw [cell_of_row _ w.heap.size _ _ _ (0, 0) (heap_alloc_new w _)]; rfl)
/-- These raws stand for these. -/
def LikeC (St : Nat → Prop) (w : World) (H : List Raw) (L : List Ct) : Prop := H.length = L.length ∧ ∀ j (h : j < H.length) (h' : j < L.length), H[j].2 = L[j].2 ∧ TupS St w (rawS H[j]) L[j].1
theorem LikeC.keep {St St' : Nat → Prop} {w w' : World} {H : List Raw} {L : List Ct} (h : LikeC St w H L) (hS : ∀ k, St k → k < w.heap.size → St' k) (hb : ∀ k, St k → k < w.heap.size → w'.heap[k]? = w.heap[k]?) : LikeC St' w' H L :=
  ⟨h.1, fun j a b => ⟨(h.2 j a b).1, (h.2 j a b).2.keep hS hb⟩⟩
theorem LikeC.nil (St : Nat → Prop) (w : World) : LikeC St w [] [] := ⟨rfl, fun j h => by simp at h⟩
theorem LikeC.tail {St : Nat → Prop} {w : World} {x : Raw} {H : List Raw} {y : Ct} {L : List Ct} (h : LikeC St w (x :: H) (y :: L)) : x.2 = y.2 ∧ TupS St w (rawS x) y.1 ∧ LikeC St w H L := by
  obtain ⟨h1, h2⟩ := h
  have h0 := h2 0 (by simp) (by simp)
  refine ⟨h0.1, h0.2, by simpa using h1, fun j a b => ?_⟩
  have := h2 (j + 1) (by simpa using a) (by simpa using b)
  simpa using this
theorem LikeC.snoc {St : Nat → Prop} {w : World} {H : List Raw} {L : List Ct} (h : LikeC St w H L) {x : Raw} {y : Ct} (h2 : x.2 = y.2) (ht : TupS St w (rawS x) y.1) : LikeC St w (H ++ [x]) (L ++ [y]) := by
  obtain ⟨g1, g2⟩ := h
  refine ⟨by simp [g1], fun j a b => ?_⟩
  by_cases e : j < H.length
  · rw [List.getElem_append_left e, List.getElem_append_left (by omega)]
    exact g2 j e (by omega)
  · have e' : j = H.length := by simp at a; omega
    subst e'
    rw [List.getElem_append_right (Nat.le_refl _), List.getElem_append_right (by omega)]
    simp only [Nat.sub_self, g1, List.getElem_singleton]
    exact ⟨h2, ht⟩
end
section
open Go Go.RowKit Go.Shelf

/-- What Of's closure keeps. -/
def OfJC (n0 c : Nat) (Y : Nat → Prop) (L : List Ct) (w : World) : Prop :=
  (∀ k, Y k → n0 ≤ k ∧ k < w.heap.size) ∧ Y c ∧ Bk w c 62 1 ∧ ∃ v H, w.cell? ⟨c, 0, none⟩ = some v ∧ RawIn (fun k => Y k ∧ k ≠ c) w v H ∧ LikeC (fun k => k < n0) w H L
theorem OfJC.keep {n0 c : Nat} {Y : Nat → Prop} {L : List Ct} {w w' : World} (h : OfJC n0 c Y L w) (hs : w.heap.size ≤ w'.heap.size) (hb : ∀ b, Y b ∨ b < n0 → w'.heap[b]? = w.heap[b]?) : OfJC n0 c Y L w' := by
  obtain ⟨h1, h2, h3, v, H, h4, h5, h6⟩ := h
  exact ⟨fun k e => ⟨(h1 k e).1, Nat.lt_of_lt_of_le (h1 k e).2 hs⟩, h2, h3.of_heap (hb c (.inl h2)), v, H, (World.cell?_of_block (a := ⟨c, 0, none⟩) (hb c (.inl h2))).trans h4, h5.keep hs (fun k e _ => ⟨e, hb k (.inl e.1)⟩), h6.keep (fun _ e _ => e) (fun k e _ => hb k (.inr e))⟩
theorem of1_endC {n0 c b off c' : Nat} {p' : Option Addr} {Y : Nat → Prop} {v : Value} {x : Raw} {r : List Raw} {L : List Ct} {w : World} (j1 : ∀ k, Y k → n0 ≤ k ∧ k < w.heap.size) (j2 : Y c) (j3 : Bk w c 62 1) (hc : w.cell? ⟨c, 0, none⟩ = some v) (hl : r.length ≤ c') (hm : c' ≤ maxLen) (hb : Y b ∧ b ≠ c) (hp : r = [] ∨ p' = some ⟨b, off + 2, none⟩)
    (HC : ∀ j (h : j < (x :: r).length), w.cell? ⟨b, off + j * 2, none⟩ = some (rawS (x :: r)[j]) ∧ w.cell? ⟨b, off + j * 2 + 1, none⟩ = some (.int .i64 (x :: r)[j].2)) (hk : LikeC (fun k => k < n0) w r L) (o : Obj) :
    Upd (allOf Y) w (((w.setCell ⟨c, 0, none⟩ (.slice p' r.length c')).alloc o).drew) ∧ (∃ Y', Sub w.heap.size Y Y' ∧ OfJC n0 c Y' L (((w.setCell ⟨c, 0, none⟩ (.slice p' r.length c')).alloc o).drew)) ∧ ∀ k, k < n0 → (((w.setCell ⟨c, 0, none⟩ (.slice p' r.length c')).alloc o).drew).heap[k]? = w.heap[k]? := by
  have hcl := j1 _ j2
  have hbl := j1 _ hb.1
  have hu : Upd (allOf Y) w (((w.setCell ⟨c, 0, none⟩ (.slice p' r.length c')).alloc o).drew) := (((Upd.refl (allOf Y) w).setCell c 0 _ (fun _ => j2)).alloc _).drew
  have hlow : ∀ k, k < n0 → (((w.setCell ⟨c, 0, none⟩ (.slice p' r.length c')).alloc o).drew).heap[k]? = w.heap[k]? := fun k hk => hu.block k (by omega) (fun _ e => by have := j1 k e; omega)
  refine ⟨hu, ⟨Y, fun k e => .inl e, fun k e => ⟨(j1 k e).1, Nat.lt_of_lt_of_le (j1 k e).2 hu.size⟩, j2, hu.kind _ _ _ j3, .slice p' r.length c', r, ?_, ?_, hk.keep (fun _ e _ => e) (fun k e _ => hlow k e)⟩, hlow⟩
  · rw [World.cell?_drew, World.cell?_alloc_lt _ _ _ (by simpa [World.setCell] using hcl.2), World.cell?_setCell_same _ _ _ (by rw [hc])]
  · refine ⟨_, c', rfl, hl, hm, ?_⟩
    rcases hp with hp | rfl
    · exact .inl hp
    · refine .inr ⟨b, off + 2, rfl, hb, Nat.lt_of_lt_of_le hbl.2 hu.size, fun j hj => ?_⟩
      have g := HC (j + 1) (by simpa using hj)
      rw [show off + (j + 1) * 2 = off + 2 + j * 2 by omega, List.getElem_cons_succ] at g
      have ee : ∀ o', (((w.setCell ⟨c, 0, none⟩ (.slice (some ⟨b, off + 2, none⟩) r.length c')).alloc o).drew).cell? ⟨b, o', none⟩ = w.cell? ⟨b, o', none⟩ := fun o' => by
        rw [World.cell?_drew, World.cell?_alloc_lt _ _ _ (by simpa [World.setCell] using hbl.2), World.cell?_setCell_other _ _ _ _ (fun e => hb.2 (congrArg Addr.block e).symm)]
      rw [ee, ee]
      exact g
set_option maxRecDepth 100000 in
set_option maxHeartbeats 1000000 in
theorem of1_anyC {n0 c : Nat} {Y : Nat → Prop} {L : List Ct} {w : World} (hn : n0 ≤ w.heap.size) (h : OfJC n0 c Y L w) : Calls Try.prog 79 #[.pointer (some ⟨c, 0, none⟩)] w (TellEndC n0 Y L (OfJC n0 c) w) := by
  have HJ := Lib.hid h
  obtain ⟨h1, h2, h3, v, H, hc, ⟨p, cap, rfl, hl, hm, hrow⟩, hk⟩ := h
  have hcl := (h1 _ h2).2
  have fz := h3.free 0
  cases H with
  | nil =>
    obtain rfl : L = [] := List.eq_nil_of_length_eq_zero (by have := hk.1; simpa using this.symm)
    clear h1 h3 hrow h2 hk
    go_enter Try.func79, Try.ntmps79
    go_wp2_with fail
    refine bodyPost_ret (v := .tuple #[.agg #[.slice none 0 0, .int .i64 0], .bool false]) (by simp [results, Try.results79, go_sem]) rfl ⟨rawZ, false, rfl, (Upd.refl _ _).alloc _, Y, fun x e => .inl e, HJ.out.keep (by simp) (fun x e => Below.heap_alloc _ _ _ (lt_of HJ.out.1 hn x e)), rfl, rfl⟩
  | cons x r =>
    obtain ⟨y, L, rfl⟩ : ∃ y L', L = y :: L' := by
      cases L with
      | nil => have := hk.1; simp at this
      | cons y L => exact ⟨y, L, rfl⟩
    obtain ⟨k1, k2, k3⟩ := hk.tail
    rcases hrow with h0 | ⟨b, off, rfl, hb, hbl, hcell⟩
    · cases h0
    obtain ⟨⟨xp, xl, xc⟩, xn⟩ := x
    have HE := Lib.hid (fun (p' : Option Addr) (c' : Nat) (o : Obj) hl hm hp => of1_endC (p' := p') (c' := c') h1 h2 h3 hc hl hm hb hp hcell k3 o)
    have HK := Lib.hid (And.intro k1 k2)
    obtain ⟨c0, c1⟩ := hcell 0 (by simp)
    simp only [Nat.zero_mul, Nat.add_zero, List.getElem_cons_zero] at c0 c1
    clear h1 h3 hcell h2 hk k1 k2 k3
    rw [List.length_cons] at hl hc
    have e1 : (1 : Int) ≤ (r.length : Int) + 1 := by omega
    have e2 : (r.length : Int) + 1 ≤ (cap : Int) := by omega
    by_cases hc1 : cap = 1
    · subst hc1
      obtain rfl : r = [] := List.eq_nil_of_length_eq_zero (by omega)
      go_enter Try.func79, Try.ntmps79
      go_wp2_with fail
      go_region
      go_wp2_with fail
      obtain ⟨u1, ⟨Y2, u2, u3⟩, u4⟩ := HE.out (some ⟨b, off, none⟩) 0 _ (Nat.le_refl _) (Nat.zero_le _) (.inl (by simp))
      exact bodyPost_ret (v := .tuple #[.agg #[.slice xp xl xc, .int .i64 xn], .bool true]) (by simp [results, Try.results79, go_sem]) rfl ⟨((xp, xl, xc), xn), true, rfl, u1, Y2, u2, u3, rfl, HK.out.1, HK.out.2.keep (fun _ e _ => .inl e) (fun k e _ => u4 k e)⟩
    · have hc2 : ¬ (cap : Int) = 1 := by omega
      go_enter Try.func79, Try.ntmps79
      go_wp2_with fail
      go_region
      go_wp2_with fail
      obtain ⟨u1, ⟨Y2, u2, u3⟩, u4⟩ := HE.out (some ⟨b, off + 2, none⟩) (cap - 1) (.cells #[.slice xp xl xc, .int .i64 xn] 68) (by omega) (by omega) (.inr rfl)
      exact bodyPost_ret (v := .tuple #[.agg #[.slice xp xl xc, .int .i64 xn], .bool true]) (by simp [results, Try.results79, go_sem]) rfl ⟨((xp, xl, xc), xn), true, rfl, u1, Y2, u2, u3, rfl, HK.out.1, HK.out.2.keep (fun _ e _ => .inl e) (fun k e _ => u4 k e)⟩
/-- The closure of Of tells its row. -/
theorem OfJC.tells {n0 c : Nat} {Y : Nat → Prop} {L : List Ct} {w : World} (hn : n0 ≤ w.heap.size) (h : OfJC n0 c Y L w) : TellsC n0 79 #[.pointer (some ⟨c, 0, none⟩)] Y L w :=
  ⟨h.1, hn, OfJC n0 c, Y, fun _ e => e, h, fun _ _ _ h => h.1, fun _ _ _ _ h => h.keep, fun _ _ _ hn h => of1_anyC hn h⟩
set_option maxRecDepth 100000 in
set_option maxHeartbeats 1000000 in
theorem of_anyC {n0 : Nat} {S : Nat → Prop} {v : Value} {H : List Raw} {L : List Ct} {w : World} (hn : n0 ≤ w.heap.size) (h : RawIn S w v H) (hk : LikeC (fun k => k < n0) w H L) (hL : H.length ≤ 1000000) : Calls Try.prog 62 #[v] w (NewC n0 L w) := by
  have HT := Lib.hid h
  have HK := Lib.hid hk
  have HN := Lib.hid hn
  obtain ⟨p, cap, rfl, h1, h2, -⟩ := h
  have hmf : ∀ (fn : Fn) (first cap : Array Value) (w : World), (Instr.makeFunc fn first cap).run Try.prog w = .ok (.func fn first cap) w := fun _ _ _ _ => rfl
  clear hk hn
  go_enter Try.func62, Try.ntmps62
  go_wp2_with (at_builtin; refine wpList_appRw rfl _ _ rfl w.heap.size S _ _ [] H rfl rfl (OwnRw.nil _ _) HT.out (by simp) hL (Nat.le_refl _) ?_; rintro v1 w1 ho hg -; have HO := Lib.hid ho; have HG := Lib.hid hg; obtain ⟨p1, c1, e1, -⟩ := ho.in_ (fun _ => True) (fun _ _ => trivial); clear ho hg; subst e1)
  refine (cursor_anyC _ _ _).mono ?_
  rintro e w2 ⟨rfl, rfl⟩
  go_wp2_with fail
  go_ret
  have hb1 : Below w.heap.size w w1 := (Below.refl _ _).grown HG.out (Nat.le_refl _) (fun k e => by cases e)
  have hlt := HO.out.lt
  have hn0 := HN.out
  have hj : OfJC n0 w1.heap.size (fun k => k = w1.heap.size ∨ (Value.slice p1 H.length c1).ownBlock = some k) L (w1.alloc (.cells #[.slice p1 H.length c1] 62)) := by
    refine ⟨?_, .inl rfl, ⟨_, heap_alloc_new w1 _, rfl⟩, _, H, cell_of_row _ _ 0 _ _ (0, 0) (heap_alloc_new w1 _), ?_, HK.out.keep (fun _ e _ => e) (fun k e _ => (Below.heap_alloc _ _ _ (by have := hb1.size; omega)).trans (hb1.block k (by omega)))⟩
    · rintro k (rfl | e)
      · have := hb1.size; simp; omega
      · have := hlt k e; simp; omega
    · exact (HO.out.alloc _).in_ _ (fun k e => ⟨.inr e, by have := (hlt k e).2; omega⟩)
  have hm := made_newC 122 (FvC.clo _ _ (enters_of Try.func79 (by kernel_rfl) rfl)) (hj.tells (by have := hb1.size; simp; omega))
  rw [show (w1.alloc (.cells #[.slice p1 H.length c1] 62)).heap.size = w1.heap.size + 1 by simp] at hm
  refine ⟨_, _, rfl, hm, ?_, (hb1.alloc hb1.size _).alloc (by have := hb1.size; simp; omega) _⟩
  rintro k (rfl | rfl | e)
  · have := hb1.size; omega
  · exact hb1.size
  · exact (hlt k e).1
end
section
open Go Go.RowKit Go.Shelf

/-- What the loop of rest keeps: the row has H, HX is under way; together they are P; the cursor tells what is left. -/
def RsC (n0 b : Nat) (Y : Nat → Prop) (H HX : List Raw) (P L : List Ct) (w : World) (v : Value) (w' : World) : Prop :=
  OwnRw w.heap.size w' v H ∧ Upd (allOf Y) w w' ∧ ∃ Y', Sub w.heap.size Y Y' ∧ MadeC n0 b Y' L w' ∧ (∀ k, v.ownBlock = some k → ¬ Y' k) ∧ LikeC (fun k => ¬ Y' k ∧ v.ownBlock ≠ some k) w' (H ++ HX) P
section
variable {n0 b : Nat} {Y : Nat → Prop} {H HX : List Raw} {P L : List Ct} {w w1 w2 : World} {v : Value}
theorem OwnRw.off {B : Nat} {Y : Nat → Prop} (h : OwnRw B w1 v H) (hu : Upd (allOf Y) w1 w2) (hn : ∀ k, v.ownBlock = some k → ¬ Y k) : OwnRw B w2 v H :=
  h.keep fun k e => hu.block k (h.lt k e).2 fun _ e' => hn k e e'
theorem RsC.below (h : RsC n0 b Y H HX P L w v w1) (hb : Below w1.heap.size w1 w2) : RsC n0 b Y H HX P L w v w2 := by
  obtain ⟨h1, h2, Y1, h3, h4, h5, h6⟩ := h
  exact ⟨h1.keep fun k e => hb.block k (h1.lt k e).2, h2.trans (Upd.of_below hb), Y1, h3, h4.below hb, h5, h6.keep (fun _ e _ => e) (fun k _ hk => hb.block k hk)⟩
theorem RsC.told (h : RsC n0 b Y H [] P L w v w1) (hn : n0 ≤ w.heap.size) : ∃ Y1, MadeC n0 b Y1 L w1 ∧ ∀ w2 Y2 L' , Upd (allOf Y1) w1 w2 → Sub w1.heap.size Y1 Y2 → MadeC n0 b Y2 L' w2 →
    RsC n0 b Y H [] P L' w v w2 ∧ ∀ (x : Ct) (r : Raw), r.2 = x.2 → TupS (SafeC n0 w1.heap.size Y1 Y2) w2 (rawS r) x.1 → RsC n0 b Y H [r] (P ++ [x]) L' w v w2 := by
  obtain ⟨h1, h2, Y1, h3, h4, h5, h6⟩ := h
  refine ⟨Y1, h4, fun w2 Y2 L' hu hs hm => ?_⟩
  have hown : OwnRw w.heap.size w2 v H := h1.off hu h5
  have hupd : Upd (allOf Y) w w2 := h2.then hu (fun x _ hx e => by
    rcases h3 x e with h | h
    · exact h
    · omega)
  have hsub : Sub w.heap.size Y Y2 := fun k e => by
    rcases hs k e with h | h
    · exact h3 k h
    · exact .inr (Nat.le_trans h2.size h)
  have hno : ∀ k, v.ownBlock = some k → ¬ Y2 k := fun k e e' => by
    rcases hs k e' with h | h
    · exact h5 k e h
    · have := (h1.lt k e).2; omega
  have hlike : LikeC (fun k => ¬ Y2 k ∧ v.ownBlock ≠ some k) w2 (H ++ []) P := h6.keep (fun k e hk => ⟨fun e' => by
    rcases hs k e' with h | h
    · exact e.1 h
    · omega, e.2⟩) (fun k e hk => hu.block k hk (fun _ e' => e.1 e'))
  refine ⟨⟨hown, hupd, Y2, hsub, hm, hno, hlike⟩, fun x r hr ht => ⟨hown, hupd, Y2, hsub, hm, hno, ?_⟩⟩
  rw [List.append_nil] at hlike
  refine hlike.snoc hr (ht.keep (fun k e _ => ⟨fun e' => ?_, fun e' => ?_⟩) (fun _ _ _ => rfl))
  · rcases e with e | e
    · have := (hm.inside k e').1; omega
    · exact e.2.2 e'
  · have hl := h1.lt k e'
    rcases e with e | ⟨-, e | e, -⟩
    · omega
    · exact h5 k e' e
    · omega
theorem RsC.put {r : Raw} (h : RsC n0 b Y H [r] P L w v w1) {v' : Value} (ho : OwnRw w.heap.size w2 v' (H ++ [r])) (hg : w1.grownBy w2 v.ownBlock) (hv : v'.ownBlock = v.ownBlock ∨ v'.ownBlock = some w1.heap.size) (hn : n0 ≤ w.heap.size) : RsC n0 b Y (H ++ [r]) [] P L w v' w2 := by
  obtain ⟨h1, h2, Y1, h3, h4, h5, h6⟩ := h
  refine ⟨ho, ⟨hg.os.trans h2.os, hg.tape.trans h2.tape, hg.output.trans h2.output, Nat.le_trans h2.size hg.size, fun x o hx hn => ?_, fun x t n hx => ?_, fun x hx hn => ?_⟩, Y1, h3, h4.keep hg.size (fun x e => hg.block x (h4.lt x e) (fun e' => ?_)), fun k e e' => ?_, ?_⟩
  · exact (World.cell?_of_block (a := ⟨x, o, none⟩) (hg.block x (by have := h2.size; omega) (fun e => by have := (h1.lt x e.symm).1; omega))).trans (h2.cell x o hx hn)
  · exact (h2.kind x t n hx).of_heap (hg.block x (by have := (h2.kind x t n hx).lt; omega) (fun e => by have := (h1.lt x e.symm).1; have := hx.lt; omega))
  · exact (hg.block x (by have := h2.size; omega) (fun e => by have := (h1.lt x e.symm).1; omega)).trans (h2.block x hx hn)
  · rcases e with e | e
    · exact h5 x e'.symm e
    · have := (h1.lt x e'.symm).1; omega
  · rcases hv with hv | hv
    · exact h5 k (hv ▸ e) e'
    · rw [hv] at e; cases e; exact absurd (h4.inside _ e').2 (Nat.lt_irrefl _)
  · rw [List.append_nil]
    refine h6.keep (fun k e hk => ⟨e.1, fun e' => ?_⟩) (fun k e hk => hg.block k hk (fun e' => e.2 e'.symm))
    rcases hv with hv | hv
    · exact e.2 (hv ▸ e')
    · rw [hv] at e'; cases e'; exact Nat.lt_irrefl _ hk
end
/-- What rest leaves. -/
def RestEndC (Y : Nat → Prop) (L : List Ct) (w : World) (e : Ending) (w' : World) : Prop :=
  ∃ v H, e = .returned (.tuple #[v, .bool true]) ∧ OwnRw w.heap.size w' v H ∧ LikeC (fun k => v.ownBlock ≠ some k) w' H L ∧ Upd (allOf Y) w w'
set_option maxRecDepth 100000 in
set_option maxHeartbeats 2000000 in
theorem rest_anyC {n0 b : Nat} {Y : Nat → Prop} {L : List Ct} {w : World} (hn0 : n0 ≤ w.heap.size) (h : MadeC n0 b Y L w) (hL : L.length ≤ 1999) :
    Calls Try.prog 37 #[curVC b] w (RestEndC Y L w) := by
  have q := eql_ifaceC b
  have hm := method_nextNC b
  have HN0 := Lib.hid hn0
  have H0 := Lib.hid (show RsC n0 b Y [] [] [] L w (.slice none 0 0) w from ⟨OwnRw.nil _ _, Upd.refl _ _, Y, fun x e => .inl e, h, fun k e => (by cases e), LikeC.nil _ _⟩)
  clear h hn0
  go_enter Try.func37, Try.ntmps37
  go_wp2_with fail
  go_loopw [4, 5] (fun v i wr => ∃ n : Nat, n ≤ L.length ∧ i = .int .i64 n ∧ Hid (∃ H, RsC n0 b Y H [] (L.take n) (L.drop n) w v wr)) (fun v i _ => 2000 - (intOf i).toNat)
  case atStart => exact ⟨0, Nat.zero_le _, rfl, Lib.hid ⟨[], H0.out⟩⟩
  case round =>
    obtain ⟨n, hn, rfl, HJ⟩ := hrel
    obtain ⟨H, hJ⟩ := HJ.out
    obtain ⟨Y1, hm1, hk1⟩ := hJ.told HN0.out
    have HG := Lib.hid hk1
    have HHl := Lib.hid (show H.length = (L.take n).length by have := hJ.2.2; obtain ⟨_, -, -, -, hl⟩ := this; have := hl.1; simpa using this)
    have HC := Lib.hid (next_anyC hm1)
    clear hm1 hk1 hJ HJ
    have hn2 : (n : Int) < 2000 := by omega
    go_wp2_with fail
    refine HC.out.mono ?_
    rintro e w1 ⟨⟨⟨hp, hl, hcc⟩, hk⟩, ok, rfl, hu, Y2, hs2, hm2, hd⟩
    have HJ1 := Lib.hid (HG.out w1 Y2 _ hu hs2 hm2)
    clear hu hs2 hm2 HC HG
    obtain ⟨D, hD⟩ : ∃ D, D = L.drop n := ⟨_, rfl⟩
    rw [← hD] at HJ1 hd
    cases D with
    | cons x r =>
      have HE := Lib.hid (show n < L.length ∧ L.take n ++ [x] = L.take (n + 1) ∧ r = L.drop (n + 1) by
        have hlt : n < L.length := by
          have : 0 < (L.drop n).length := by rw [← hD]; simp
          rw [List.length_drop] at this; omega
        have hg := List.drop_eq_getElem_cons hlt
        rw [← hD] at hg
        injection hg with g1 g2
        exact ⟨hlt, by rw [g1]; exact (List.take_succ_eq_append_getElem hlt).symm, g2⟩)
      clear hD
      obtain ⟨e1, e2, e3⟩ := hd
      subst e1
      have HJ2 := Lib.hid ((HJ1.out.2 x ((hp, hl, hcc), hk) e2 e3).below (((Below.refl _ _).alloc (Nat.le_refl _) (.cells #[.slice hp hl hcc, .int .i64 hk] 68)).alloc (by simp) (.cells #[.slice hp hl hcc, .int .i64 hk] 68)))
      have HX := litRw_in (w1.alloc (.cells #[.slice hp hl hcc, .int .i64 hk] 68)) ((hp, hl, hcc), hk)
      rw [World.size_alloc] at HX
      have HX := Lib.hid HX
      have HT := Lib.hid (show H.length ≤ 1000000 by rw [HHl.out, List.length_take]; omega)
      clear e2 e3
      go_wp2_with (at_builtin; refine wpList_appRw rfl (.tmp 31) (.tmp 33) rfl w.heap.size _ _ _ H [((hp, hl, hcc), hk)] rfl rfl HJ2.out.1 HX.out HT.out (by simp) HJ2.out.2.1.size ?_; rintro v3 w3 ho hg hv; have HJ3 := Lib.hid (HJ2.out.put ho hg hv HN0.out); clear ho hg hv)
      go_roundw
      case rel => exact ⟨n + 1, HE.out.1, by simp, Lib.hid ⟨_, by rw [← HE.out.2.1, ← HE.out.2.2]; exact HJ3.out⟩⟩
      case measure => simp [intOf]; omega
    | nil =>
      have HE := Lib.hid (show L.take n = L from List.take_of_length_le (List.drop_eq_nil_iff.1 hD.symm))
      clear hD
      obtain ⟨e1, rfl⟩ := hd
      have HJ2 := Lib.hid (HJ1.out.1.below ((Below.refl _ _).alloc (Nat.le_refl _) (.cells #[.slice hp hl hcc, .int .i64 hk] 68)))
      obtain ⟨Y3, hm3, hk3⟩ := HJ2.out.told HN0.out
      have HG3 := Lib.hid hk3
      have HC2 := Lib.hid (next_anyC hm3)
      clear hm3 hk3 e1
      go_wp2_with fail
      refine HC2.out.mono ?_
      rintro e w2 ⟨⟨⟨tp, tl, tc⟩, tk⟩, ok, rfl, hu, Y4, hs4, hm4, hd⟩
      obtain ⟨e1, rfl⟩ := hd
      have HJ4 := Lib.hid (HG3.out w2 Y4 _ hu hs4 hm4)
      clear hu hs4 hm4 e1
      go_wp2_with fail
      go_ret2
      have h5 := HJ4.out.1.below ((Below.refl _ _).alloc (Nat.le_refl _) (.cells #[.slice tp tl tc, .int .i64 tk] 68))
      rw [HE.out] at h5
      obtain ⟨g1, g2, Y5, -, -, -, g6⟩ := h5
      rw [List.append_nil] at g6
      exact ⟨_, H, rfl, g1, g6.keep (fun _ e _ => e.2) (fun _ _ _ => rfl), g2⟩
end
section
open Go Go.RowKit Go.Shelf

set_option maxRecDepth 100000
/-- A slice value reads as these; all its blocks are of S. -/
def CtIn (S : Nat → Prop) (w : World) (v : Value) (L : List Ct) : Prop := ∃ H, RawIn S w v H ∧ LikeC S w H L
theorem CtIn.keep {S S' : Nat → Prop} {w w' : World} {v : Value} {L : List Ct} (h : CtIn S w v L) (hs : w.heap.size ≤ w'.heap.size) (hS : ∀ k, S k → k < w.heap.size → S' k ∧ w'.heap[k]? = w.heap[k]?) : CtIn S' w' v L := by
  obtain ⟨H, h1, h2⟩ := h
  exact ⟨H, h1.keep hs hS, h2.keep (fun k e hk => (hS k e hk).1) (fun k e hk => (hS k e hk).2)⟩
theorem CtIn.form {S : Nat → Prop} {w : World} {v : Value} {L : List Ct} (h : CtIn S w v L) : ∃ p c, v = .slice p L.length c := by
  obtain ⟨H, ⟨p, c, rfl, -⟩, hl, -⟩ := h
  exact ⟨p, c, by rw [hl]⟩
/-- A slice value reads as rows of counted tuples; all their blocks are of S. -/
def RowsCt (S : Nat → Prop) (w : World) (v : Value) (LL : List (List Ct)) : Prop :=
  ∃ p c, v = .slice p LL.length c ∧ LL.length ≤ c ∧ c ≤ maxLen ∧ (LL = [] ∨ ∃ b off, p = some ⟨b, off, none⟩ ∧ S b ∧ b < w.heap.size ∧ ∀ j (h : j < LL.length), ∃ u, w.cell? ⟨b, off + j, none⟩ = some u ∧ CtIn S w u LL[j])
theorem RowsCt.keep {S S' : Nat → Prop} {w w' : World} {v : Value} {LL : List (List Ct)} (h : RowsCt S w v LL) (hs : w.heap.size ≤ w'.heap.size) (hS : ∀ k, S k → k < w.heap.size → S' k ∧ w'.heap[k]? = w.heap[k]?) : RowsCt S' w' v LL := by
  obtain ⟨p, c, rfl, h1, h2, h⟩ := h
  refine ⟨p, c, rfl, h1, h2, ?_⟩
  rcases h with h | ⟨b, off, rfl, hb, hl, h⟩
  · exact .inl h
  · obtain ⟨g1, g2⟩ := hS b hb hl
    refine .inr ⟨b, off, rfl, g1, by omega, fun j hj => ?_⟩
    obtain ⟨u, hu, ht⟩ := h j hj
    exact ⟨u, (World.cell?_of_block (a := ⟨b, off + j, none⟩) g2).trans hu, ht.keep hs hS⟩
theorem RowsCt.below {S : Nat → Prop} {w w' : World} {v : Value} {LL : List (List Ct)} (h : RowsCt S w v LL) (hb : Below w.heap.size w w') : RowsCt S w' v LL := h.keep hb.size fun k e hk => ⟨e, hb.block k hk⟩
theorem RowsCt.at_ {S : Nat → Prop} {w : World} {p : Option Addr} {n c : Nat} {LL : List (List Ct)} (h : RowsCt S w (.slice p n c) LL) {j : Nat} (hj : j < LL.length) : ∃ b off pu cu, p = some ⟨b, off, none⟩ ∧ S b ∧ b < w.heap.size ∧ w.cell? ⟨b, off + j, none⟩ = some (.slice pu LL[j].length cu) ∧ CtIn S w (.slice pu LL[j].length cu) LL[j] := by
  obtain ⟨p', c', e, -, -, h⟩ := h
  injection e with e1 e2 e3
  subst e1
  rcases h with h | ⟨b, off, rfl, hb, hl, h⟩
  · rw [h] at hj; simp at hj
  · obtain ⟨u, hu, ht⟩ := h j hj
    obtain ⟨pu, cu, rfl⟩ := ht.form
    exact ⟨b, off, pu, cu, rfl, hb, hl, hu, ht⟩
theorem RowsCt.rows {S : Nat → Prop} {w : World} {p : Option Addr} {n c : Nat} {LL : List (List Ct)} (h : RowsCt S w (.slice p n c) LL) (hL : LL ≠ []) : ∃ b off, p = some ⟨b, off, none⟩ ∧ S b ∧ b < w.heap.size ∧ ∀ j (hj : j < LL.length), ∃ pu cu, w.cell? ⟨b, off + j, none⟩ = some (.slice pu LL[j].length cu) ∧ CtIn S w (.slice pu LL[j].length cu) LL[j] := by
  obtain ⟨p', c', e, -, -, h⟩ := h
  injection e with e1 e2 e3
  subst e1
  rcases h with h | ⟨b, off, rfl, hb, hl, h⟩
  · exact absurd h hL
  · refine ⟨b, off, rfl, hb, hl, fun j hj => ?_⟩
    obtain ⟨u, hu, ht⟩ := h j hj
    obtain ⟨pu, cu, rfl⟩ := ht.form
    exact ⟨pu, cu, hu, ht⟩
/-- A row of rows of the call's own; the things lie where S says. -/
def OwnRc (B : Nat) (S : Nat → Prop) (w : World) (v : Value) (LL : List (List Ct)) : Prop :=
  ∃ us : List Value, us.length = LL.length ∧ w.ownsRow B 62 1 v LL.length us ∧ ∀ j (h : j < us.length) (h' : j < LL.length), CtIn S w us[j] LL[j]
theorem OwnRc.nil (B : Nat) (S : Nat → Prop) (w : World) : OwnRc B S w (.slice none 0 0) [] := ⟨[], rfl, World.ownsRow_nil w B _ 1, fun j h => by simp at h⟩
theorem OwnRc.lt {B : Nat} {S : Nat → Prop} {w : World} {v : Value} {LL : List (List Ct)} (h : OwnRc B S w v LL) : ∀ k, v.ownBlock = some k → B ≤ k ∧ k < w.heap.size := by
  obtain ⟨us, -, h, -⟩ := h
  exact World.ownsRow.lt h
theorem OwnRc.keep {B : Nat} {S : Nat → Prop} {w w' : World} {v : Value} {LL : List (List Ct)} (h : OwnRc B S w v LL) (hs : w.heap.size ≤ w'.heap.size) (hS : ∀ k, S k → k < w.heap.size → w'.heap[k]? = w.heap[k]?) (hb : ∀ k, v.ownBlock = some k → w'.heap[k]? = w.heap[k]?) : OwnRc B S w' v LL := by
  obtain ⟨us, h1, h2, h3⟩ := h
  exact ⟨us, h1, ownsRow_keep h2 hb, fun j hj hj' => (h3 j hj hj').keep hs (fun k e hk => ⟨e, hS k e hk⟩)⟩
theorem OwnRc.below {B : Nat} {S : Nat → Prop} {w w' : World} {v : Value} {LL : List (List Ct)} (h : OwnRc B S w v LL) (hb : Below w.heap.size w w') : OwnRc B S w' v LL := h.keep hb.size (fun k _ hk => hb.block k hk) (fun k e => hb.block k (h.lt k e).2)
theorem OwnRc.in_ {B : Nat} {S S' : Nat → Prop} {w : World} {v : Value} {LL : List (List Ct)} (h : OwnRc B S w v LL) (hS : ∀ k, S k → S' k) (hv : ∀ k, v.ownBlock = some k → S' k) : RowsCt S' w v LL := by
  obtain ⟨us, h1, h2, h3⟩ := h
  rcases Nat.eq_zero_or_pos LL.length with h0 | h0
  · obtain rfl := List.eq_nil_of_length_eq_zero h0
    rcases h2.2 with ⟨rfl, -⟩ | ⟨g, cap, cur, rfl, -, -, hnc, hcm, -⟩
    · exact ⟨none, 0, rfl, by simp, by simp, .inl rfl⟩
    · exact ⟨_, cap, rfl, by simp, hcm, .inl rfl⟩
  · have hcap : ∃ g cap, v = .slice (some ⟨g, 0, none⟩) LL.length cap ∧ LL.length ≤ cap ∧ cap ≤ maxLen ∧ g < w.heap.size := by
      rcases h2.2 with ⟨rfl, e⟩ | ⟨g, cap, cur, rfl, -, hg, hnc, hcm, -⟩
      · omega
      · exact ⟨g, cap, rfl, hnc, hcm, (Array.getElem?_eq_some_iff.1 hg).1⟩
    obtain ⟨g, cap, rfl, g1, g2, g3⟩ := hcap
    refine ⟨_, cap, rfl, g1, g2, .inr ⟨g, 0, rfl, hv g rfl, g3, fun j hj => ?_⟩⟩
    have hju : j < us.length := by omega
    have hc := World.ownsRow.cells h2 (g := g) rfl j us[j] (List.getElem?_eq_getElem hju)
    rw [addr_add] at hc
    exact ⟨us[j], hc, (h3 j hju hj).keep (Nat.le_refl _) (fun k e _ => ⟨hS k e, rfl⟩)⟩
theorem infoRc : (Try.prog.info? 62).map (fun i => (i.zero, i.size, i.bytes)) = some (some (.slice none 0 0), 1, 24) := by kernel_rfl
/-- An append of one row onto rows of the call's own: the facts that it leaves. -/
theorem OwnRc.snoc {B : Nat} {S : Nat → Prop} {w' : World} {v' u : Value} {LL : List (List Ct)} {L : List Ct} {us : List Value} (hu : us.length = LL.length) (hk : ∀ j (h : j < us.length) (h' : j < LL.length), CtIn S w' us[j] LL[j]) (hL : CtIn S w' u L) (ho : w'.ownsRow B 62 1 v' (LL.length + 1) (us ++ [u])) : OwnRc B S w' v' (LL ++ [L]) := by
  refine ⟨us ++ [u], by simp [hu], by rw [List.length_append]; exact ho, fun j hj hj' => ?_⟩
  by_cases e : j < us.length
  · rw [List.getElem_append_left e, List.getElem_append_left (by omega)]
    exact hk j e (by omega)
  · have e1 : j = us.length := by simp at hj; omega
    subst e1
    rw [List.getElem_append_right (Nat.le_refl _), List.getElem_append_right (by omega)]
    simp only [hu, Nat.sub_self, List.getElem_cons_zero]
    exact hL
theorem CursC.nil (n0 : Nat) (w : World) : CursC n0 [] (fun _ => False) w := ⟨fun _ e => e.elim, fun _ _ => False, fun i h => (by simp at h), fun i j k h => (by simp at h), fun i k h => (by simp at h)⟩
theorem CursC.snoc {n0 : Nat} {C : List CurK} {c : CurK} {Y Yb : Nat → Prop} {w : World} (h : CursC n0 C Y w) (hc : MadeC n0 c.1 Yb c.2 w) (hd : ∀ k, Yb k → ¬ Y k) : CursC n0 (C ++ [c]) (fun k => Y k ∨ Yb k) w := by
  obtain ⟨h0, F, h1, h2, h3⟩ := h
  refine ⟨?_, fun i => if i < C.length then F i else Yb, ?_, ?_, ?_⟩
  · rintro k (e | e)
    · exact h0 k e
    · exact (hc.inside k e).2
  · intro i hi
    by_cases e : i < C.length
    · simp only [if_pos e, List.getElem_append_left e]
      exact h1 i e
    · have e' : i = C.length := by simp at hi; omega
      subst e'
      simp only [if_neg e, List.getElem_append_right (Nat.le_refl _), Nat.sub_self, List.getElem_cons_zero]
      exact hc
  · intro i j k hi hj hij ei ej
    simp only [List.length_append, List.length_singleton] at hi hj
    by_cases e1 : i < C.length
    · simp only [if_pos e1] at ei
      by_cases e2 : j < C.length
      · simp only [if_pos e2] at ej
        exact h2 i j k e1 e2 hij ei ej
      · simp only [if_neg e2] at ej
        exact hd k ej (h3 i k e1 ei)
    · simp only [if_neg e1] at ei
      by_cases e2 : j < C.length
      · simp only [if_pos e2] at ej
        exact hd k ei (h3 j k e2 ej)
      · omega
  · intro i k hi ei
    by_cases e1 : i < C.length
    · simp only [if_pos e1] at ei
      exact .inl (h3 i k e1 ei)
    · simp only [if_neg e1] at ei
      exact .inr ei
/-- Cursors over these rows: the row of the call's own, their blocks. -/
def CuJC (LL : List (List Ct)) (w : World) (n : Nat) (v : Value) (wr : World) : Prop :=
  ∃ (C : List CurK) (Y : Nat → Prop), C.map (·.2) = LL.take n ∧ CursC w.heap.size C Y wr ∧ wr.ownsRow w.heap.size 70 1 v n (C.map fun c => curVC c.1) ∧ (∀ k, Y k → w.heap.size ≤ k) ∧ (∀ k, v.ownBlock = some k → ¬ Y k) ∧ Below w.heap.size w wr
set_option maxHeartbeats 2000000 in
theorem sums_any {S : Nat → Prop} {v : Value} {LL : List (List Ct)} {w : World} (h : RowsCt S w v LL) (hl : LL.length ≤ 1000) (hr : ∀ L ∈ LL, L.length ≤ 1000000) :
    Calls Try.prog 38 #[v] w (NewC w.heap.size (sumsL LL) w) := by
  have HV := Lib.hid (show RowsCt (fun k => S k ∧ k < w.heap.size) w v LL from h.keep (Nat.le_refl _) (fun k e hk => ⟨⟨e, hk⟩, rfl⟩))
  have HR := Lib.hid hr
  have HLL := Lib.hid hl
  obtain ⟨p, c, rfl, hc1, hc2, -⟩ := h
  have H0 := Lib.hid (show CuJC LL w 0 (.slice none 0 0) w from ⟨[], fun _ => False, rfl, CursC.nil _ w, World.ownsRow_nil _ _ _ _, fun _ e => e.elim, fun _ _ e => e, Below.refl _ _⟩)
  go_enter Try.func38, Try.ntmps38
  go_wp2_with fail
  go_loopw [3, 4] (fun v i wr => ∃ n : Nat, n ≤ LL.length ∧ i = .int .i64 n ∧ Hid (CuJC LL w n v wr)) (fun _ i _ => LL.length - (intOf i).toNat)
  case atStart => exact ⟨0, Nat.zero_le _, rfl, H0⟩
  case round =>
    obtain ⟨n, hn, rfl, HJ⟩ := hrel
    by_cases hlt : n < LL.length
    · have hlt' : (n : Int) < (LL.length : Int) := by omega
      obtain ⟨L, hL⟩ : ∃ L, L = LL[n] := ⟨_, rfl⟩
      have hb0 : Below w.heap.size w wr := by obtain ⟨_, _, -, -, -, -, -, hb⟩ := HJ.out; exact hb
      obtain ⟨b, off, pu, cu, rfl, -, -, hcell, hth⟩ := (HV.out.below hb0).at_ hlt
      rw [← hL] at hcell hth
      obtain ⟨H, hH1, hH2⟩ := hth
      have HOf := Lib.hid (of_anyC hb0.size hH1 (hH2.keep (fun _ e _ => e.2) (fun _ _ _ => rfl)) (by rw [hH2.1, hL]; exact HR.out _ (List.getElem_mem _)))
      have HE := Lib.hid (show LL.take n ++ [L] = LL.take (n + 1) by rw [List.take_succ_eq_append_getElem hlt, hL])
      clear hL hH1 hH2 hb0
      go_wp2_with fail
      refine HOf.out.mono ?_
      rintro e w1 ⟨bn, Yn, rfl, hm, hy, hb1⟩
      have HA := Lib.hid (show ∃ (C : List CurK) (Y : Nat → Prop), C.map (·.2) = LL.take n ∧ CursC w.heap.size (C ++ [(bn, L)]) (fun k => Y k ∨ Yn k) w1 ∧ w1.ownsRow w.heap.size 70 1 u3 n (C.map fun c => curVC c.1) ∧ (∀ k, Y k ∨ Yn k → w.heap.size ≤ k) ∧ (∀ k, u3.ownBlock = some k → ¬ (Y k ∨ Yn k)) ∧ Below w.heap.size w w1 from by
        obtain ⟨C, Y, c1, c2, c3, c4, c5, c6⟩ := HJ.out
        refine ⟨C, Y, c1, (c2.below c6.size hb1).snoc hm (fun k e e' => by have := c2.1 k e'; have := hy k e; omega), ownsRow_keep c3 (fun k e => hb1.block k (World.ownsRow.lt c3 k e).2), fun k e => ?_, fun k e e' => ?_, c6.trans (hb1.mono c6.size)⟩
        · rcases e with e | e
          · exact c4 k e
          · exact Nat.le_trans c6.size (hy k e)
        · rcases e' with e' | e'
          · exact c5 k e e'
          · have := (World.ownsRow.lt c3 k e).2; have := hy k e'; omega)
      clear hm hy hb1 HOf HJ
      obtain ⟨C, Y, c1, c2, c3, c4, c5, c6⟩ := HA.out
      have HC := Lib.hid (And.intro c1 (And.intro c2 (And.intro c3 (And.intro c4 (And.intro c5 c6)))))
      clear c1 c2 c3 c4 c5 c6 HA
      go_wp2_with (at_builtin; refine wpList_app1 rfl (.tmp 11) (.tmp 17) 97 70 rfl w.heap.size .nilIface 16 Try.underlying97 infoCurC rfl (by decide) _ (curVC bn) n w1.heap.size (C.map fun c => curVC c.1) rfl rfl (by rw [cell_of_row _ _ 0 _ _ (0, 0) (heap_alloc_new w1 _)]; rfl) rfl (ownsRow_keep HC.out.2.2.1 (fun k e => Below.heap_alloc _ _ _ (by have := (World.ownsRow.lt HC.out.2.2.1 k e).2; omega))) (by have := HLL.out; omega) (by have := HC.out.2.2.2.2.2.size; simp; omega) ?_; intro v3 w3 ho hg hv; have HN := Lib.hid (And.intro ho (And.intro hg hv)); clear ho hg hv)
      go_roundw
      case rel =>
        obtain ⟨ho, hg, hv⟩ := HN.out
        obtain ⟨c1, c2, c3, c4, c5, c6⟩ := HC.out
        have hb2 := below_new' w1 (.cells #[curVC bn] 70)
        have hb3 : Below w.heap.size w w3 := ((c6.alloc c6.size _).grown hg (by have := c6.size; simp; omega) (fun k e => (World.ownsRow.lt c3 k e).1))
        refine ⟨n + 1, hlt, by simp, Lib.hid ⟨C ++ [(bn, L)], fun k => Y k ∨ Yn k, ?_, (c2.below c6.size hb2).grown (by have := c6.size; simp; omega) hg (fun k e => ⟨c5 k e, (World.ownsRow.lt c3 k e).1⟩), ?_, c4, fun k e => ?_, hb3⟩⟩
        · rw [← HE.out, List.map_append, c1]; rfl
        · rw [List.map_append]; exact ho
        · rcases hv with hv | hv
          · exact c5 k (hv ▸ e)
          · rw [hv] at e
            cases e
            intro e'
            have := c2.1 _ e'
            rw [World.size_alloc] at this
            omega
      case measure => simp [intOf]; omega
    · obtain rfl : n = LL.length := by omega
      obtain ⟨C, Y, c1, c2, c3, c4, c5, c6⟩ := HJ.out
      have hin : CurInC (fun k => u3.ownBlock = some k) wr u3 (C.map (·.1)) := own_curInC (by rw [List.map_map]; exact c3)
      have hCl : C.length = LL.length := by have := congrArg List.length c1; simpa using this
      have HS := sum_anyC c6.size c2 hin (by have := HLL.out; omega)
      rw [c1, List.take_length] at HS
      have HS := Lib.hid HS
      have HB := Lib.hid (And.intro c4 c6)
      clear c1 c2 c3 c4 c5 c6 hin hCl HJ
      go_wp2_with fail
      refine HS.out.mono ?_
      rintro e w1 ⟨b1, Y1, rfl, hm1, hy1, hb1⟩
      have HM := Lib.hid (And.intro hm1 (And.intro hy1 hb1))
      clear hm1 hy1 hb1 HS
      go_wp2_with fail
      go_ret
      refine ⟨b1, Y1, rfl, HM.out.1, fun k e => ?_, HB.out.2.trans (HM.out.2.2.mono HB.out.2.size)⟩
      rcases HM.out.2.1 k e with e | e
      · exact HB.out.1 k e
      · exact Nat.le_trans HB.out.2.size e
end
section
open Go Go.RowKit Go.Shelf

theorem CtIn.take {S : Nat → Prop} {w : World} {p : Option Addr} {n c : Nat} {L : List Ct} (h : CtIn S w (.slice p n c) L) (m : Nat) (hm : m ≤ L.length) : CtIn S w (.slice p m c) (L.take m) := by
  obtain ⟨H, ⟨p', c', e, h1, h2, h3⟩, h4, h5⟩ := h
  injection e with e1 e2 e3
  subst e1 e3
  have hl : (H.take m).length = m := by rw [List.length_take]; omega
  refine ⟨H.take m, ⟨p, c, by rw [hl], by omega, h2, ?_⟩, by rw [hl, List.length_take]; omega, fun j a b => ?_⟩
  · rcases h3 with rfl | ⟨b, off, rfl, hb, hbl, hcell⟩
    · exact .inl (by simp)
    · refine .inr ⟨b, off, rfl, hb, hbl, fun j hj => ?_⟩
      rw [List.getElem_take]
      exact hcell j (by omega)
  · rw [List.getElem_take, List.getElem_take]
    exact h5 j (by omega) (by rw [List.length_take] at b; omega)
def cutC (LL : List (List Ct)) : List (List Ct) := (LL.take 6).map (·.take 30)
set_option maxRecDepth 100000 in
set_option maxHeartbeats 2000000 in
theorem counted_any {S : Nat → Prop} {v : Value} {LL : List (List Ct)} {w : World} (h : RowsCt S w v LL) :
    Calls Try.prog 36 #[v] w fun e w' => ∃ v', e = .returned v' ∧ OwnRc w.heap.size (fun k => S k ∧ k < w.heap.size) w' v' (cutC LL) ∧ Below w.heap.size w w' := by
  have HV := Lib.hid (show RowsCt (fun k => S k ∧ k < w.heap.size) w v LL from h.keep (Nat.le_refl _) (fun k e hk => ⟨⟨e, hk⟩, rfl⟩))
  obtain ⟨p, c, rfl, hc1, hc2, -⟩ := h
  go_enter Try.func36, Try.ntmps36
  go_wp2_with fail
  go_loopw [3, 4] (fun v i wr => ∃ n : Nat, n ≤ LL.length ∧ n ≤ 6 ∧ i = .int .i64 n ∧ Hid (OwnRc w.heap.size (fun k => S k ∧ k < w.heap.size) wr v ((LL.take n).map (·.take 30)) ∧ Below w.heap.size w wr)) (fun _ i _ => 6 - (intOf i).toNat)
  case atStart => exact ⟨0, Nat.zero_le _, Nat.zero_le _, rfl, Lib.hid ⟨OwnRc.nil _ _ _, Below.refl _ _⟩⟩
  case round =>
    obtain ⟨n, hn, hn6, rfl, HJ⟩ := hrel
    by_cases hlt : n < LL.length
    · have hlt' : (n : Int) < (LL.length : Int) := by omega
      by_cases h6 : n < 6
      · have h6' : (n : Int) < 6 := by omega
        obtain ⟨L, hL⟩ : ∃ L, L = LL[n] := ⟨_, rfl⟩
        obtain ⟨b, off, pu, cu, rfl, -, -, hcell, hth⟩ := (HV.out.below HJ.out.2).at_ hlt
        rw [← hL] at hcell hth
        have HE := Lib.hid (show (LL.take n).map (·.take 30) ++ [L.take 30] = (LL.take (n + 1)).map (·.take 30) by rw [List.take_succ_eq_append_getElem hlt, List.map_append, hL]; rfl)
        have HTl := Lib.hid (show ((LL.take n).map (·.take 30)).length = n by rw [List.length_map, List.length_take]; omega)
        have hcu : (L.length : Int) ≤ (cu : Int) := by
          obtain ⟨H, ⟨p', c', e, h1, h2, h3⟩, h4, h5⟩ := hth
          injection e with e1 e2 e3
          omega
        clear hL
        by_cases h30 : 30 < L.length
        · have h30' : (30 : Int) < (L.length : Int) := by omega
          have hcu30 : (30 : Int) ≤ (cu : Int) := by omega
          have hv1 := hth.take 30 (by omega)
          clear hth
          have HV1 := Lib.hid hv1
          obtain ⟨us, hu1, hu2, hu3⟩ := HJ.out.1
          have HU := Lib.hid (And.intro hu1 (And.intro hu2 hu3))
          have HBz := Lib.hid (And.intro HJ.out.2 HJ.out.2.size)
          clear hu1 hu2 hu3 hv1
          go_wp2_with (at_builtin; refine wpList_app1 rfl (.tmp 25) (.tmp 27) 60 62 rfl w.heap.size (.slice none 0 0) 24 Try.underlying60 infoRc rfl (by decide) _ (.slice pu 30 cu) n wr.heap.size us rfl rfl (by rw [cell_of_row _ _ 0 _ _ (0, 0) (heap_alloc_new wr _)]; rfl) rfl (ownsRow_keep (by have h := HU.out.2.1; rw [HTl.out] at h; exact h) (fun k e => Below.heap_alloc _ _ _ (by have := (World.ownsRow.lt HU.out.2.1 k e).2; omega))) (by omega) (by have := HBz.out.2; simp; omega) ?_; intro v3 w3 ho hg _; have HN := Lib.hid (And.intro ho hg); clear ho hg)
          go_roundw
          case rel =>
            obtain ⟨ho, hg⟩ := HN.out
            obtain ⟨hu1, hu2, hu3⟩ := HU.out
            have hb3 : Below w.heap.size w w3 := ((HBz.out.1.alloc HBz.out.1.size _).grown hg (by have := HBz.out.2; simp; omega) (fun k e => (World.ownsRow.lt hu2 k e).1))
            have hold : ∀ k, k < w.heap.size → w3.heap[k]? = wr.heap[k]? := fun k hk => (hb3.block k hk).trans (HBz.out.1.block k hk).symm
            have hsz : wr.heap.size ≤ w3.heap.size := by have := hg.size; simp at this; omega
            refine ⟨n + 1, hlt, h6, by simp, Lib.hid ⟨?_, hb3⟩⟩
            rw [← HE.out]
            exact OwnRc.snoc hu1 (fun j hj hj' => (hu3 j hj hj').keep hsz (fun k e _ => ⟨e, hold k e.2⟩)) (HV1.out.keep hsz (fun k e _ => ⟨e, hold k e.2⟩)) (by rw [HTl.out]; exact ho)
          case measure => simp [intOf]; omega
        · have h30' : ¬ (30 : Int) < (L.length : Int) := by omega
          have hv1 : CtIn (fun k => S k ∧ k < w.heap.size) wr (.slice pu L.length cu) (L.take 30) := by rw [List.take_of_length_le (by omega)]; exact hth
          clear hth
          have HV1 := Lib.hid hv1
          obtain ⟨us, hu1, hu2, hu3⟩ := HJ.out.1
          have HU := Lib.hid (And.intro hu1 (And.intro hu2 hu3))
          have HBz := Lib.hid (And.intro HJ.out.2 HJ.out.2.size)
          clear hu1 hu2 hu3 hv1
          go_wp2_with (at_builtin; refine wpList_app1 rfl (.tmp 25) (.tmp 27) 60 62 rfl w.heap.size (.slice none 0 0) 24 Try.underlying60 infoRc rfl (by decide) _ (.slice pu L.length cu) n wr.heap.size us rfl rfl (by rw [cell_of_row _ _ 0 _ _ (0, 0) (heap_alloc_new wr _)]; rfl) rfl (ownsRow_keep (by have h := HU.out.2.1; rw [HTl.out] at h; exact h) (fun k e => Below.heap_alloc _ _ _ (by have := (World.ownsRow.lt HU.out.2.1 k e).2; omega))) (by omega) (by have := HBz.out.2; simp; omega) ?_; intro v3 w3 ho hg _; have HN := Lib.hid (And.intro ho hg); clear ho hg)
          go_roundw
          case rel =>
            obtain ⟨ho, hg⟩ := HN.out
            obtain ⟨hu1, hu2, hu3⟩ := HU.out
            have hb3 : Below w.heap.size w w3 := ((HBz.out.1.alloc HBz.out.1.size _).grown hg (by have := HBz.out.2; simp; omega) (fun k e => (World.ownsRow.lt hu2 k e).1))
            have hold : ∀ k, k < w.heap.size → w3.heap[k]? = wr.heap[k]? := fun k hk => (hb3.block k hk).trans (HBz.out.1.block k hk).symm
            have hsz : wr.heap.size ≤ w3.heap.size := by have := hg.size; simp at this; omega
            refine ⟨n + 1, hlt, h6, by simp, Lib.hid ⟨?_, hb3⟩⟩
            rw [← HE.out]
            exact OwnRc.snoc hu1 (fun j hj hj' => (hu3 j hj hj').keep hsz (fun k e _ => ⟨e, hold k e.2⟩)) (HV1.out.keep hsz (fun k e _ => ⟨e, hold k e.2⟩)) (by rw [HTl.out]; exact ho)
          case measure => simp [intOf]; omega
      · obtain rfl : n = 6 := by omega
        have h6' : ¬ ((6 : Nat) : Int) < 6 := by omega
        go_wp2_with fail
        go_ret
        exact ⟨_, rfl, HJ.out⟩
    · obtain rfl : n = LL.length := by omega
      have HE := Lib.hid (show (LL.take LL.length).map (·.take 30) = cutC LL by unfold cutC; rw [List.take_length, List.take_of_length_le hn6])
      go_wp2_with fail
      go_ret
      refine ⟨_, rfl, ?_, HJ.out.2⟩
      rw [← HE.out]
      exact HJ.out.1
end
end Go.Proofs.Ytcfnpbmkcdmafaa
