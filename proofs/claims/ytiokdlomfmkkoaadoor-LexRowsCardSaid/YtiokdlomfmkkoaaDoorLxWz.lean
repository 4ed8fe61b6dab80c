/-
  Rows of tokens that an argument brings: their places are any ints.
-/
import Derived.Test.YtiokdlomfmkkoaaDoorLxJ
namespace Go.Proofs.YtiokdlomfmkkoaaDoor
open Go Go.RowKit Go.Shelf

attribute [local go_sem] Oper.semAt_some

/-- A token at any place. -/
structure Wz where
  kind : Int
  text : List UInt8
  val : VL
  pos : Int
def Wz.key (w : Wz) : Int × List UInt8 × VL := (w.kind, w.text, w.val)
/-- In memory's words. -/
def wzV (x : Wz) : Value := .agg #[.int .i64 x.kind, .string ⟨x.text.toArray⟩, .int .i64 x.val.1, .int .i64 x.val.2.1, .string x.val.2.2, .int .i64 x.pos]
/-- A token's cells. -/
def cellZ (x : Wz) : List Value := [.int .i64 x.kind, .string ⟨x.text.toArray⟩, .int .i64 x.val.1, .int .i64 x.val.2.1, .string x.val.2.2, .int .i64 x.pos]
def cellsZ : List Wz → List Value
  | [] => []
  | x :: r => cellZ x ++ cellsZ r
theorem cellsZ_len (L : List Wz) : (cellsZ L).length = L.length * 6 := by
  induction L with
  | nil => rfl
  | cons x r ih => simp only [cellsZ, cellZ, List.length_append, List.length_cons, List.length_nil, ih]; omega
theorem cellsZ_append (L M : List Wz) : cellsZ (L ++ M) = cellsZ L ++ cellsZ M := by
  induction L with
  | nil => rfl
  | cons x r ih => simp only [cellsZ, List.cons_append, ih, List.append_assoc]
theorem cellsZ_one (L : List Wz) : ∀ u ∈ cellsZ L, u.oneCell' = true := by
  induction L with
  | nil => intro u hu; cases hu
  | cons x r ih =>
    intro u hu
    simp only [cellsZ, List.mem_append] at hu
    rcases hu with hu | hu
    · simp only [cellZ, List.mem_cons, List.not_mem_nil, or_false] at hu
      rcases hu with rfl | rfl | rfl | rfl | rfl | rfl <;> rfl
    · exact ih u hu
theorem cellsZ_at : ∀ (L : List Wz) (j : Nat) (hj : j < L.length) (i : Nat) (u : Value), (cellZ L[j])[i]? = some u → (cellsZ L)[j * 6 + i]? = some u
  | [], j, hj, _, _, _ => by simp at hj
  | x :: r, 0, _, i, u, h => by
    have hi : i < (cellZ x).length := (List.getElem?_eq_some_iff.1 h).1
    simp only [cellsZ, Nat.zero_mul, Nat.zero_add]
    rw [List.getElem?_append_left hi]
    exact h
  | x :: r, j + 1, hj, i, u, h => by
    have hx := cellsZ_at r j (by simpa using hj) i u (by simpa using h)
    have e : (j + 1) * 6 + i = (cellZ x).length + (j * 6 + i) := by simp only [cellZ, List.length_cons, List.length_nil]; omega
    simp only [cellsZ]
    rw [e, List.getElem?_append_right (by omega), Nat.add_sub_cancel_left]
    exact hx
/-- A slice value reads as these tokens; its block is one of S. -/
def ZIn (S : Nat → Prop) (w : World) (v : Value) (L : List Wz) : Prop :=
  ∃ p c, v = .slice p L.length c ∧ L.length ≤ c ∧ c ≤ maxLen ∧ (L = [] ∨ ∃ b off, p = some ⟨b, off, none⟩ ∧ S b ∧ b < w.heap.size ∧ ∀ j (h : j < L.length) i u, (cellZ L[j])[i]? = some u → w.cell? ⟨b, off + (j * 6 + i), none⟩ = some u)
theorem ZIn.keep {S S' : Nat → Prop} {w w' : World} {v : Value} {L : List Wz} (h : ZIn S w v L) (hs : w.heap.size ≤ w'.heap.size) (hS : ∀ k, S k → k < w.heap.size → S' k ∧ w'.heap[k]? = w.heap[k]?) : ZIn S' w' v L := by
  obtain ⟨p, c, rfl, h1, h2, h⟩ := h
  refine ⟨p, c, rfl, h1, h2, ?_⟩
  rcases h with h | ⟨b, off, rfl, hb, hl, h⟩
  · exact .inl h
  · obtain ⟨g1, g2⟩ := hS b hb hl
    exact .inr ⟨b, off, rfl, g1, by omega, fun j hj i u hu => (World.cell?_of_block (a := ⟨b, off + (j * 6 + i), none⟩) g2).trans (h j hj i u hu)⟩
theorem ZIn.below {S : Nat → Prop} {n : Nat} {w w' : World} {v : Value} {L : List Wz} (h : ZIn S w v L) (hS : ∀ k, S k → k < n) (hb : Below n w w') : ZIn S w' v L := h.keep hb.size fun k e _ => ⟨e, hb.block k (hS k e)⟩
/-- The six cells of a token of the row. -/
theorem ZIn.at_ {S : Nat → Prop} {w : World} {v : Value} {L : List Wz} (h : ZIn S w v L) (h0 : 0 < L.length) : ∃ b off c, v = .slice (some ⟨b, off, none⟩) L.length c ∧ L.length ≤ c ∧ c ≤ maxLen ∧ b < w.heap.size ∧ S b ∧ ∀ j (h : j < L.length),
    w.cell? ⟨b, off + j * 6, none⟩ = some (.int .i64 L[j].kind) ∧ w.cell? ⟨b, off + j * 6 + 1, none⟩ = some (.string ⟨L[j].text.toArray⟩) ∧ w.cell? ⟨b, off + j * 6 + 2, none⟩ = some (.int .i64 L[j].val.1) ∧
    w.cell? ⟨b, off + j * 6 + 3, none⟩ = some (.int .i64 L[j].val.2.1) ∧ w.cell? ⟨b, off + j * 6 + 4, none⟩ = some (.string L[j].val.2.2) ∧ w.cell? ⟨b, off + j * 6 + 5, none⟩ = some (.int .i64 L[j].pos) := by
  obtain ⟨p, c, rfl, h1, h2, h⟩ := h
  rcases h with rfl | ⟨b, off, rfl, hb, hl, h⟩
  · simp at h0
  · refine ⟨b, off, c, rfl, h1, h2, hl, hb, fun j hj => ⟨?_, ?_, ?_, ?_, ?_, ?_⟩⟩
    · exact h j hj 0 _ rfl
    · exact h j hj 1 _ rfl
    · exact h j hj 2 _ rfl
    · exact h j hj 3 _ rfl
    · exact h j hj 4 _ rfl
    · exact h j hj 5 _ rfl
/-- A slice value that the call owns holds a row of tokens. -/
def OwnZ (B : Nat) (w : World) (v : Value) (L : List Wz) : Prop := w.ownsRow B 37 6 v L.length (cellsZ L)
theorem OwnZ.nil (B : Nat) (w : World) : OwnZ B w (.slice none 0 0) [] := World.ownsRow_nil w B _ 6
theorem OwnZ.alloc {B : Nat} {w : World} {v : Value} {L : List Wz} (h : OwnZ B w v L) (o : Obj) : OwnZ B (w.alloc o) v L := World.ownsRow.alloc h o
theorem OwnZ.keep {B : Nat} {w w' : World} {v : Value} {L : List Wz} (h : OwnZ B w v L) (hb : ∀ k, v.ownBlock = some k → w'.heap[k]? = w.heap[k]?) : OwnZ B w' v L := by
  refine ⟨h.1, ?_⟩
  rcases h.2 with hn | ⟨g, cap, cur, rfl, hB, hg, rest⟩
  · exact .inl hn
  · exact .inr ⟨g, cap, cur, rfl, hB, (hb g rfl).trans hg, rest⟩
theorem OwnZ.mono {B B' : Nat} {w : World} {v : Value} {L : List Wz} (h : OwnZ B w v L) (hB : B' ≤ B) : OwnZ B' w v L := by
  refine ⟨h.1, ?_⟩
  rcases h.2 with hn | ⟨g, cap, cur, rfl, hB', rest⟩
  · exact .inl hn
  · exact .inr ⟨g, cap, cur, rfl, by omega, rest⟩
theorem OwnZ.lt {B : Nat} {w : World} {v : Value} {L : List Wz} (h : OwnZ B w v L) : ∀ k, v.ownBlock = some k → B ≤ k ∧ k < w.heap.size := World.ownsRow.lt h
theorem OwnZ.below {B : Nat} {w w' : World} {v : Value} {L : List Wz} (h : OwnZ B w v L) (hb : Below w.heap.size w w') : OwnZ B w' v L := h.keep fun k e => hb.block k (h.lt k e).2
theorem OwnZ.in_ {B : Nat} {w : World} {v : Value} {L : List Wz} (h : OwnZ B w v L) (S : Nat → Prop) (hS : ∀ k, v.ownBlock = some k → S k) : ZIn S w v L := by
  rcases Nat.eq_zero_or_pos L.length with h0 | h0
  · obtain rfl := List.eq_nil_of_length_eq_zero h0
    rcases h.2 with ⟨rfl, -⟩ | ⟨g, cap, cur, rfl, -, -, hnc, hcm, -⟩
    · exact ⟨none, 0, rfl, by simp, by simp, .inl rfl⟩
    · exact ⟨_, cap, rfl, by simp, hcm, .inl rfl⟩
  · obtain ⟨g, cap, rfl, -, hg⟩ := World.ownsRow.form h h0
    have hcap : L.length ≤ cap ∧ cap ≤ maxLen := by
      rcases h.2 with ⟨e, -⟩ | ⟨g', cap', cur, e, -, -, hnc, hcm, -⟩
      · cases e
      · cases e; exact ⟨hnc, hcm⟩
    refine ⟨_, cap, rfl, hcap.1, hcap.2, .inr ⟨g, 0, rfl, hS g rfl, hg, fun j hj i u hu => ?_⟩⟩
    have hc := World.ownsRow.cells h (g := g) rfl (j * 6 + i) u (cellsZ_at L j hj i u hu)
    rw [addr_add] at hc
    exact hc
/-- An append of one token, laid in a block of its own, onto a row of the call's own. -/
theorem run_appZ (w : World) (B : Nat) (ty : TypeId) (v : Value) (T : List Wz) (x : Wz) (b c : Nat) (hown : OwnZ B w v T) (hx : ∀ j u, (cellZ x)[j]? = some u → w.cell? ⟨b, 0 + j, none⟩ = some u) (hT : T.length ≤ 1000000) (hB : B ≤ w.heap.size) :
    ∃ v' w', (Builtin.append_ #[23, 23] ty #[v, .slice (some ⟨b, 0, none⟩) 1 c]).run Tryd.prog w = .ok v' w' ∧ OwnZ B w' v' (T ++ [x]) ∧ w.grownBy w' v.ownBlock ∧ (v'.ownBlock = v.ownBlock ∨ v'.ownBlock = some w.heap.size) := by
  obtain ⟨i0, hi, hz0, hz1, hz2⟩ := info_parts Tryd.infoW
  obtain ⟨v', w', hr, ho, hg, -, hv⟩ := run_append_own_at (P := Tryd.prog) w B 23 ty 37 i0 _ 6 64 Tryd.underlying23 hi hz0 hz1 hz2 rfl (by decide) v _ _ hown ⟨b, 0, none⟩ 1 c (cellsZ [x])
    (cellsZ_len [x]) (fun j u hu => by rw [addr_add]; exact hx j u (by simpa [cellsZ] using hu)) (cellsZ_one [x]) (by unfold maxLen; omega) (by omega) hB
  refine ⟨v', w', hr, ?_, hg, hv⟩
  unfold OwnZ
  rw [List.length_append, cellsZ_append]
  exact ho
theorem wpListIn_appZ {F : Fence} {f : Nat} {ops : Array Oper} {rest : List Oper} {o : Oper} {a : Act} {w : World} {Q : Exit → Act → World → Prop} (hgd : o.guard = none) (s y : Operand)
    (ho : o.op = .call { callee := .builtin .append, args := #[s, y], argTypes := #[23, 23] })
    (B : Nat) (v : Value) (T : List Wz) (x : Wz) (b c : Nat) (hs : a.eval s = v) (hx : a.eval y = .slice (some ⟨b, 0, none⟩) 1 c) (hown : OwnZ B w v T) (hin : ∀ j u, (cellZ x)[j]? = some u → w.cell? ⟨b, 0 + j, none⟩ = some u) (hlen : T.length ≤ 1000000) (hB : B ≤ w.heap.size)
    (h : ∀ v' w', OwnZ B w' v' (T ++ [x]) → w.grownBy w' v.ownBlock → (v'.ownBlock = v.ownBlock ∨ v'.ownBlock = some w.heap.size) → wpListIn F f Tryd.prog ops Q rest (a.put o.dst v') w') : wpListIn F f Tryd.prog ops Q (o :: rest) a w := by
  refine wpListIn_plain hgd fun K hK => ?_
  obtain ⟨v', w', hr, h2, h3, h4⟩ := run_appZ w B o.type v T x b c hown hin hlen hB
  unfold Oper.wpIn
  refine ⟨?_, ?_⟩
  · simp [Oper.about, ho, resolve, Target.leads, Sem.run_pure]
  · rw [Oper.semAt_plain F _ _ (by rw [ho]; intro c hc'; cases hc')]
    simp [execOp, ho, resolve, invoke, builtin, hs, hx, hr, Result.andThen]
    exact hK _ _ (h v' w' h2 h3 h4)
theorem wpList_appZ {ops : Array Oper} {rest : List Oper} {o : Oper} {a : Act} {w : World} {Q : Exit → Act → World → Prop} (hgd : o.guard = none) (s y : Operand)
    (ho : o.op = .call { callee := .builtin .append, args := #[s, y], argTypes := #[23, 23] })
    (B : Nat) (v : Value) (T : List Wz) (x : Wz) (b c : Nat) (hs : a.eval s = v) (hx : a.eval y = .slice (some ⟨b, 0, none⟩) 1 c) (hown : OwnZ B w v T) (hin : ∀ j u, (cellZ x)[j]? = some u → w.cell? ⟨b, 0 + j, none⟩ = some u) (hlen : T.length ≤ 1000000) (hB : B ≤ w.heap.size)
    (h : ∀ v' w', OwnZ B w' v' (T ++ [x]) → w.grownBy w' v.ownBlock → (v'.ownBlock = v.ownBlock ∨ v'.ownBlock = some w.heap.size) → wpList Tryd.prog ops Q rest (a.put o.dst v') w') : wpList Tryd.prog ops Q (o :: rest) a w := by
  refine wpList_plain hgd fun K hK => ?_
  obtain ⟨v', w', hr, h2, h3, h4⟩ := run_appZ w B o.type v T x b c hown hin hlen hB
  unfold Oper.wp execOp
  simp only [ho, resolve, invoke, builtin, Sem.run_bind, Sem.run_pure, Result.andThen_ok, List.map_toArray, List.map_cons, List.map_nil, hs, hx, hr]
  exact hK _ _ (h v' w' h2 h3 h4)
/-- A token laid in a new block. -/
theorem litZ_in (w : World) (x : Wz) : ∀ j u, (cellZ x)[j]? = some u → (w.alloc (.cells #[.int .i64 x.kind, .string ⟨x.text.toArray⟩, .int .i64 x.val.1, .int .i64 x.val.2.1, .string x.val.2.2, .int .i64 x.pos] 37)).cell? ⟨w.heap.size, 0 + j, none⟩ = some u := by
  intro j u hu
  rw [Nat.zero_add, cell_of_row _ w.heap.size _ _ _ (0, 0) (heap_alloc_new w _)]
  simpa [cellZ] using hu
end Go.Proofs.YtiokdlomfmkkoaaDoor
