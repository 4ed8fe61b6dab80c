/-
  Words for cursors: what has turned, cell by cell; rows of things; what a cursor tells.
-/
import Derived.Test.YtcfnpbmkcdmafaaCmp0
import Derived.Shelf.Abstract
import Derived.BigRegion
import Derived.RegionTactic
import Derived.Defers
import Derived.Recover
import Derived.Maps.AppendAt
import Derived.Deep.AppendLies
import Derived.OwnWalk
import Derived.Laws.OwnMore
import Derived.StillTailTactics
import Derived.Deep.RegionHeld3
import Derived.Deep.RegionLaw
import Derived.Laws.EntriesVeiled
namespace Go.Proofs.Ytcfnpbmkcdmafaa
open Go Go.RowKit

/-- A block of n cells of a type, none of them frozen. -/
def Bk (w : World) (b : Nat) (t : TypeId) (n : Nat) : Prop := ∃ cs, w.heap[b]? = some (.cells cs t (0, 0)) ∧ cs.size = n
theorem Bk.lt {w : World} {b n : Nat} {t : TypeId} (h : Bk w b t n) : b < w.heap.size := by
  obtain ⟨cs, h, -⟩ := h
  exact (Array.getElem?_eq_some_iff.1 h).1
theorem Bk.free {w : World} {b n : Nat} {t : TypeId} (h : Bk w b t n) (o : Nat) : w.frozen? ⟨b, o, none⟩ = false := by
  obtain ⟨cs, h, -⟩ := h
  simp [World.frozen?, h]
theorem Bk.there {w : World} {b n : Nat} {t : TypeId} (h : Bk w b t n) {o : Nat} (ho : o < n) : (w.cell? ⟨b, o, none⟩).isSome = true := by
  obtain ⟨cs, h, hs⟩ := h
  simp [World.cell?, h, hs, ho]
theorem Bk.of_heap {w w' : World} {b n : Nat} {t : TypeId} (h : Bk w b t n) (e : w'.heap[b]? = w.heap[b]?) : Bk w' b t n := by
  obtain ⟨cs, h, hs⟩ := h
  exact ⟨cs, e.trans h, hs⟩
theorem Bk.setCell {w : World} {b n : Nat} {t : TypeId} (h : Bk w b t n) (k o : Nat) (u : Value) : Bk (w.setCell ⟨k, o, none⟩ u) b t n := by
  by_cases e : b = k
  · subst e
    obtain ⟨cs, h, hs⟩ := h
    refine ⟨cs.setIfInBounds o u, ?_, by simpa using hs⟩
    rw [Go.heap_setCell_same _ b _ _ _ _ h]
  · exact h.of_heap (Below.heap_setCell _ _ _ _ e)

/-- What has turned are the cells of C alone; what else is new lies in new blocks. -/
structure Upd (C : Nat → Nat → Prop) (w w' : World) : Prop where
  os : w'.os = w.os
  tape : w'.tape = w.tape
  output : w'.output = w.output
  size : w.heap.size ≤ w'.heap.size
  cell : ∀ b o, b < w.heap.size → ¬ C b o → w'.cell? ⟨b, o, none⟩ = w.cell? ⟨b, o, none⟩
  kind : ∀ b t n, Bk w b t n → Bk w' b t n
  block : ∀ k, k < w.heap.size → (∀ o, ¬ C k o) → w'.heap[k]? = w.heap[k]?
section
variable {C C' : Nat → Nat → Prop} {a b c : World}
theorem Upd.refl (C : Nat → Nat → Prop) (w : World) : Upd C w w := ⟨rfl, rfl, rfl, Nat.le_refl _, fun _ _ _ _ => rfl, fun _ _ _ h => h, fun _ _ _ => rfl⟩
theorem Upd.trans (h : Upd C a b) (k : Upd C b c) : Upd C a c :=
  ⟨k.os.trans h.os, k.tape.trans h.tape, k.output.trans h.output, Nat.le_trans h.size k.size, fun x o hx hn => (k.cell x o (by have := h.size; omega) hn).trans (h.cell x o hx hn),
    fun x t n hx => k.kind x t n (h.kind x t n hx), fun x hx hn => (k.block x (by have := h.size; omega) hn).trans (h.block x hx hn)⟩
theorem Upd.mono (h : Upd C a b) (hC : ∀ x o, x < a.heap.size → C x o → C' x o) : Upd C' a b :=
  ⟨h.os, h.tape, h.output, h.size, fun x o hx hn => h.cell x o hx (fun e => hn (hC x o hx e)), h.kind, fun x hx hn => h.block x hx (fun o e => hn o (hC x o hx e))⟩
theorem Upd.then (h : Upd C a b) (k : Upd C' b c) (hC : ∀ x o, x < a.heap.size → C' x o → C x o) : Upd C a c :=
  ⟨k.os.trans h.os, k.tape.trans h.tape, k.output.trans h.output, Nat.le_trans h.size k.size, fun x o hx hn => (k.cell x o (by have := h.size; omega) (fun e => hn (hC x o hx e))).trans (h.cell x o hx hn),
    fun x t n hx => k.kind x t n (h.kind x t n hx), fun x hx hn => (k.block x (by have := h.size; omega) (fun o e => hn o (hC x o hx e))).trans (h.block x hx hn)⟩
theorem Upd.of_below (h : Below a.heap.size a b) : Upd C a b :=
  ⟨h.os, h.tape, h.output, h.size, fun x o hx _ => h.cell (p := ⟨x, o, none⟩) hx, fun _ _ _ hx => hx.of_heap (h.block _ hx.lt), fun x hx _ => h.block x hx⟩
theorem Upd.drew (h : Upd C a b) : Upd C a b.drew := h.trans (Upd.of_below (Below.refl _ _).drew)
theorem Upd.alloc (h : Upd C a b) (o : Obj) : Upd C a (b.alloc o) := h.trans (Upd.of_below ((Below.refl _ _).alloc (Nat.le_refl _) o))
theorem Upd.setCell (h : Upd C a b) (k o : Nat) (u : Value) (hC : k < a.heap.size → C k o) : Upd C a (b.setCell ⟨k, o, none⟩ u) :=
  ⟨h.os, h.tape, h.output, by simpa [World.setCell] using h.size, fun x p hx hn => (World.cell?_setCell_other _ _ _ _ (show (⟨k, o, none⟩ : Addr) ≠ ⟨x, p, none⟩ from fun e => hn (by injection e with e1 e2; subst e1 e2; exact hC hx))).trans (h.cell x p hx hn),
    fun x t n hx => (h.kind x t n hx).setCell k o u, fun x hx hn => (Below.heap_setCell _ _ _ _ (fun e => hn o (by
      have e' : x = k := e
      subst e'
      exact hC hx))).trans (h.block x hx hn)⟩
theorem Upd.below (h : Upd C a b) {n : Nat} (hn : n ≤ a.heap.size) (hC : ∀ x o, C x o → n ≤ x) : Below n a b := ⟨h.os, h.tape, h.output, h.size, fun k hk => h.block k (by omega) (fun o e => by have := hC k o e; omega)⟩
end
/-- All cells of the blocks of A. -/
def allOf (A : Nat → Prop) : Nat → Nat → Prop := fun k _ => A k
theorem Upd.allMono {Y Z : Nat → Prop} {a b : World} (h : Upd (allOf Y) a b) (hs : ∀ k, Y k → Z k) : Upd (allOf Z) a b := h.mono fun x _ _ e => hs x e
theorem addr_add (b off j : Nat) : (⟨b, off, none⟩ : Addr).add j = ⟨b, off + j, none⟩ := by unfold Addr.add; split <;> simp_all

/-- A thing: its key, its mark. -/
abbrev Th := Int × Int
abbrev thV (x : Th) : Value := .agg #[.int .i8 x.1, .int .i64 x.2]
/-- What Next answers where these are left. -/
def headV : List Th → Value
  | [] => .tuple #[.agg #[.int .i8 0, .int .i64 0], .bool false]
  | x :: _ => .tuple #[.agg #[.int .i8 x.1, .int .i64 x.2], .bool true]
def cellsTh : List Th → List Value
  | [] => []
  | x :: r => .int .i8 x.1 :: .int .i64 x.2 :: cellsTh r
theorem cellsTh_len (L : List Th) : (cellsTh L).length = L.length * 2 := by
  induction L with
  | nil => rfl
  | cons x r ih => simp only [cellsTh, List.length_cons, ih]; omega
theorem cellsTh_append (L M : List Th) : cellsTh (L ++ M) = cellsTh L ++ cellsTh M := by
  induction L with
  | nil => rfl
  | cons x r ih => simp only [cellsTh, List.cons_append, ih]
theorem cellsTh_one (L : List Th) : ∀ u ∈ cellsTh L, u.oneCell' = true := by
  induction L with
  | nil => intro u hu; cases hu
  | cons x r ih =>
    intro u hu
    simp only [cellsTh, List.mem_cons] at hu
    rcases hu with rfl | rfl | hu
    · rfl
    · rfl
    · exact ih u hu
theorem cellsTh_at : ∀ (L : List Th) (j : Nat) (hj : j < L.length), (cellsTh L)[j * 2]? = some (.int .i8 L[j].1) ∧ (cellsTh L)[j * 2 + 1]? = some (.int .i64 L[j].2)
  | [], j, hj => by simp at hj
  | x :: r, 0, _ => ⟨rfl, rfl⟩
  | x :: r, j + 1, hj => by
    have h := cellsTh_at r j (by simpa using hj)
    have e : (j + 1) * 2 = j * 2 + 1 + 1 := by omega
    simp only [e, cellsTh, List.getElem?_cons_succ, List.getElem_cons_succ]
    exact h
/-- A slice value reads as these things; its block is one of S. -/
def ThIn (S : Nat → Prop) (w : World) (v : Value) (L : List Th) : Prop :=
  ∃ p c, v = .slice p L.length c ∧ L.length ≤ c ∧ c ≤ maxLen ∧ (L = [] ∨ ∃ b off, p = some ⟨b, off, none⟩ ∧ S b ∧ b < w.heap.size ∧ ∀ j (h : j < L.length), w.cell? ⟨b, off + j * 2, none⟩ = some (.int .i8 L[j].1) ∧ w.cell? ⟨b, off + j * 2 + 1, none⟩ = some (.int .i64 L[j].2))
theorem ThIn.keep {S S' : Nat → Prop} {w w' : World} {v : Value} {L : List Th} (h : ThIn S w v L) (hs : w.heap.size ≤ w'.heap.size) (hS : ∀ k, S k → k < w.heap.size → S' k ∧ w'.heap[k]? = w.heap[k]?) : ThIn S' w' v L := by
  obtain ⟨p, c, rfl, h1, h2, h⟩ := h
  refine ⟨p, c, rfl, h1, h2, ?_⟩
  rcases h with h | ⟨b, off, rfl, hb, hl, h⟩
  · exact .inl h
  · obtain ⟨g1, g2⟩ := hS b hb hl
    have cc : ∀ o, w'.cell? ⟨b, o, none⟩ = w.cell? ⟨b, o, none⟩ := fun o => World.cell?_of_block (a := ⟨b, o, none⟩) g2
    exact .inr ⟨b, off, rfl, g1, by omega, fun j hj => by rw [cc, cc]; exact h j hj⟩
theorem Try.infoTh : (Try.prog.info? 28).map (fun i => (i.zero, i.size, i.bytes)) = some (some (.agg #[.int .i8 0, .int .i64 0]), 2, 16) := by kernel_rfl
/-- A slice value that the call owns holds a row of things. -/
def OwnTh (B : Nat) (w : World) (v : Value) (L : List Th) : Prop := w.ownsRow B 28 2 v L.length (cellsTh L)
theorem OwnTh.nil (B : Nat) (w : World) : OwnTh B w (.slice none 0 0) [] := World.ownsRow_nil w B _ 2
theorem OwnTh.alloc {B : Nat} {w : World} {v : Value} {L : List Th} (h : OwnTh B w v L) (o : Obj) : OwnTh B (w.alloc o) v L := World.ownsRow.alloc h o
theorem OwnTh.keep {B : Nat} {w w' : World} {v : Value} {L : List Th} (h : OwnTh B w v L) (hb : ∀ k, v.ownBlock = some k → w'.heap[k]? = w.heap[k]?) : OwnTh B w' v L := by
  refine ⟨h.1, ?_⟩
  rcases h.2 with hn | ⟨g, cap, cur, rfl, hB, hg, rest⟩
  · exact .inl hn
  · exact .inr ⟨g, cap, cur, rfl, hB, (hb g rfl).trans hg, rest⟩
theorem OwnTh.mono {B B' : Nat} {w : World} {v : Value} {L : List Th} (h : OwnTh B w v L) (hB : B' ≤ B) : OwnTh B' w v L := by
  refine ⟨h.1, ?_⟩
  rcases h.2 with hn | ⟨g, cap, cur, rfl, hB', rest⟩
  · exact .inl hn
  · exact .inr ⟨g, cap, cur, rfl, by omega, rest⟩
theorem OwnTh.lt {B : Nat} {w : World} {v : Value} {L : List Th} (h : OwnTh B w v L) : ∀ k, v.ownBlock = some k → B ≤ k ∧ k < w.heap.size := World.ownsRow.lt h
theorem OwnTh.in_ {B : Nat} {w : World} {v : Value} {L : List Th} (h : OwnTh B w v L) (S : Nat → Prop) (hS : ∀ k, v.ownBlock = some k → S k) : ThIn S w v L := by
  rcases Nat.eq_zero_or_pos L.length with h0 | h0
  · obtain rfl := List.eq_nil_of_length_eq_zero h0
    rcases h.2 with ⟨rfl, -⟩ | ⟨g, cap, cur, rfl, -, -, hnc, hcm, -⟩
    · exact ⟨none, 0, rfl, by simp, by simp, .inl rfl⟩
    · exact ⟨_, cap, rfl, by simp, hcm, .inl rfl⟩
  · obtain ⟨g, cap, rfl, -, hg⟩ := World.ownsRow.form h h0
    have at_ : ∀ j u, (cellsTh L)[j]? = some u → w.cell? ⟨g, 0 + j, none⟩ = some u := fun j u hu => by
      have hc := World.ownsRow.cells h (g := g) rfl j u hu
      rw [addr_add] at hc
      exact hc
    have hcap : L.length ≤ cap ∧ cap ≤ maxLen := by
      rcases h.2 with ⟨e, -⟩ | ⟨g', cap', cur, e, -, -, hnc, hcm, -⟩
      · cases e
      · cases e; exact ⟨hnc, hcm⟩
    refine ⟨_, cap, rfl, hcap.1, hcap.2, .inr ⟨g, 0, rfl, hS g rfl, hg, fun j hj => ?_⟩⟩
    obtain ⟨h1, h2⟩ := cellsTh_at L j hj
    exact ⟨at_ _ _ h1, by rw [Nat.add_assoc]; exact at_ _ _ h2⟩
end Go.Proofs.Ytcfnpbmkcdmafaa
