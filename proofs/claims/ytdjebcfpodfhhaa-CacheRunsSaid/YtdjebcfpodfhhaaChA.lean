/-
  Words for caches: what has turned, cell by cell; blocks of a kind; keys of pages.
-/
import Derived.Test.YtdjebcfpodfhhaaCmp0
import Derived.Test.YtdjebcfpodfhhaaDkM
import Derived.BigRegion
import Derived.RegionTactic
import Derived.DeepKeys4
import Derived.LaidEqlPtr
import Derived.StillTailTactics
import Derived.Deep.RegionHeld3
import Derived.Deep.RegionLaw
namespace Go.Proofs.Ytdjebcfpodfhhaa
open Go Go.RowKit Go.Maps Go.WideMaps

/-- A block of n cells of a type, none of them frozen. -/
def Bk (w : World) (b : Nat) (t : TypeId) (n : Nat) : Prop := ∃ cs, w.heap[b]? = some (.cells cs t (0, 0)) ∧ cs.size = n
theorem Bk.lt {w : World} {b n : Nat} {t : TypeId} (h : Bk w b t n) : b < w.heap.size := by
  obtain ⟨cs, h, -⟩ := h
  exact (Array.getElem?_eq_some_iff.1 h).1
theorem Bk.free {w : World} {b n : Nat} {t : TypeId} (h : Bk w b t n) (o : Nat) : w.frozen? ⟨b, o, none⟩ = false := by
  obtain ⟨cs, h, -⟩ := h
  simp [World.frozen?, h]
theorem Bk.there {w : World} {b n : Nat} {t : TypeId} (h : Bk w b t n) {o : Nat} (ho : o < n) : (w.cell? ⟨b, o, none⟩).isSome = true := by
  obtain ⟨cs, h, hs⟩ := h
  simp [World.cell?, h, hs, ho]
theorem Bk.of_heap {w w' : World} {b n : Nat} {t : TypeId} (h : Bk w b t n) (e : w'.heap[b]? = w.heap[b]?) : Bk w' b t n := by
  obtain ⟨cs, h, hs⟩ := h
  exact ⟨cs, e.trans h, hs⟩
theorem Bk.setCell {w : World} {b n : Nat} {t : TypeId} (h : Bk w b t n) (k o : Nat) (u : Value) : Bk (w.setCell ⟨k, o, none⟩ u) b t n := by
  by_cases e : b = k
  · subst e
    obtain ⟨cs, h, hs⟩ := h
    refine ⟨cs.setIfInBounds o u, ?_, by simpa using hs⟩
    rw [Go.heap_setCell_same _ b _ _ _ _ h]
  · exact h.of_heap (Below.heap_setCell _ _ _ _ e)

/-- What has turned are the cells of C alone; what else is new lies in new blocks. -/
structure Upd (C : Nat → Nat → Prop) (w w' : World) : Prop where
  os : w'.os = w.os
  tape : w'.tape = w.tape
  output : w'.output = w.output
  size : w.heap.size ≤ w'.heap.size
  cell : ∀ b o, b < w.heap.size → ¬ C b o → w'.cell? ⟨b, o, none⟩ = w.cell? ⟨b, o, none⟩
  kind : ∀ b t n, Bk w b t n → Bk w' b t n
  block : ∀ k, k < w.heap.size → (∀ o, ¬ C k o) → w'.heap[k]? = w.heap[k]?
section
variable {C C' : Nat → Nat → Prop} {a b c : World}
theorem Upd.refl (C : Nat → Nat → Prop) (w : World) : Upd C w w := ⟨rfl, rfl, rfl, Nat.le_refl _, fun _ _ _ _ => rfl, fun _ _ _ h => h, fun _ _ _ => rfl⟩
theorem Upd.trans (h : Upd C a b) (k : Upd C b c) : Upd C a c :=
  ⟨k.os.trans h.os, k.tape.trans h.tape, k.output.trans h.output, Nat.le_trans h.size k.size, fun x o hx hn => (k.cell x o (by have := h.size; omega) hn).trans (h.cell x o hx hn),
    fun x t n hx => k.kind x t n (h.kind x t n hx), fun x hx hn => (k.block x (by have := h.size; omega) hn).trans (h.block x hx hn)⟩
theorem Upd.mono (h : Upd C a b) (hC : ∀ x o, x < a.heap.size → C x o → C' x o) : Upd C' a b :=
  ⟨h.os, h.tape, h.output, h.size, fun x o hx hn => h.cell x o hx (fun e => hn (hC x o hx e)), h.kind, fun x hx hn => h.block x hx (fun o e => hn o (hC x o hx e))⟩
theorem Upd.then (h : Upd C a b) (k : Upd C' b c) (hC : ∀ x o, x < a.heap.size → C' x o → C x o) : Upd C a c :=
  ⟨k.os.trans h.os, k.tape.trans h.tape, k.output.trans h.output, Nat.le_trans h.size k.size, fun x o hx hn => (k.cell x o (by have := h.size; omega) (fun e => hn (hC x o hx e))).trans (h.cell x o hx hn),
    fun x t n hx => k.kind x t n (h.kind x t n hx), fun x hx hn => (k.block x (by have := h.size; omega) (fun o e => hn o (hC x o hx e))).trans (h.block x hx hn)⟩
theorem Upd.of_below (h : Below a.heap.size a b) : Upd C a b :=
  ⟨h.os, h.tape, h.output, h.size, fun x o hx _ => h.cell (p := ⟨x, o, none⟩) hx, fun _ _ _ hx => hx.of_heap (h.block _ hx.lt), fun x hx _ => h.block x hx⟩
theorem Upd.drew (h : Upd C a b) : Upd C a b.drew := h.trans (Upd.of_below (Below.refl _ _).drew)
theorem Upd.alloc (h : Upd C a b) (o : Obj) : Upd C a (b.alloc o) := h.trans (Upd.of_below ((Below.refl _ _).alloc (Nat.le_refl _) o))
theorem Upd.setCell (h : Upd C a b) (k o : Nat) (u : Value) (hC : k < a.heap.size → C k o) : Upd C a (b.setCell ⟨k, o, none⟩ u) :=
  ⟨h.os, h.tape, h.output, by simpa [World.setCell] using h.size, fun x p hx hn => (World.cell?_setCell_other _ _ _ _ (show (⟨k, o, none⟩ : Addr) ≠ ⟨x, p, none⟩ from fun e => hn (by injection e with e1 e2; subst e1 e2; exact hC hx))).trans (h.cell x p hx hn),
    fun x t n hx => (h.kind x t n hx).setCell k o u, fun x hx hn => (Below.heap_setCell _ _ _ _ (fun e => hn o (by
      have e' : x = k := e
      subst e'
      exact hC hx))).trans (h.block x hx hn)⟩
theorem Upd.turned (h : Upd C a b) {M : Nat} (ht : b.mapTurned c M) (hC : M < a.heap.size → ∀ o, C M o) : Upd C a c := by
  have g := ht.grown
  have k : ∀ {x t : Nat} {cs : Array Value} {f : Nat × Nat}, b.heap[x]? = some (.cells cs t f) → c.heap[x]? = b.heap[x]? := fun {x t cs f} hx => g.block x (Array.getElem?_eq_some_iff.1 hx).1 (fun e => by
    obtain ⟨es, cl, es', cl', hb, -⟩ := ht
    cases e
    rw [hb] at hx
    cases hx)
  refine ⟨g.os.trans h.os, g.tape.trans h.tape, g.output.trans h.output, Nat.le_trans h.size g.size, fun x o hx hn => ?_, fun x t n hx => ?_, fun x hx hn => ?_⟩
  · refine (World.cell?_of_block (a := ⟨x, o, none⟩) (g.block x (by have := h.size; omega) (fun e => hn (by cases e; exact hC hx o)))).trans (h.cell x o hx hn)
  · have h1 := h.kind x t n hx
    obtain ⟨cs, h2, h3⟩ := h1
    exact ⟨cs, (k h2).trans h2, h3⟩
  · exact (g.block x (by have := h.size; omega) (fun e => hn 0 (by cases e; exact hC hx 0))).trans (h.block x hx hn)
theorem Upd.below (h : Upd C a b) {n : Nat} (hn : n ≤ a.heap.size) (hC : ∀ x o, C x o → n ≤ x) : Below n a b := ⟨h.os, h.tape, h.output, h.size, fun k hk => h.block k (by omega) (fun o e => by have := hC k o e; omega)⟩
end
/-- All cells of the blocks of A. -/
def allOf (A : Nat → Prop) : Nat → Nat → Prop := fun k _ => A k
theorem MapAt.upd {C : Nat → Nat → Prop} {w w' : World} {P : Program} {k b n : Nat} {D : DataW Value} (h : MapAt w P k b n D) (hg : Upd C w w') (hn : ∀ o, ¬ C b o) : MapAt w' P k b n D := by
  obtain ⟨es, c, h1, h2⟩ := h
  exact ⟨es, c, (hg.block b (Array.getElem?_eq_some_iff.1 h1).1 hn).trans h1, h2⟩

/-- The key of a page. -/
def pgV (r : ByteArray) (i : Int) : Value := .agg #[.string r, .int .i64 i]
def pgK (r : ByteArray) (i : Int) : Lit := .string (keyBytes [.string r.data.toList, .int .i64 i])
def KeyOk (r : ByteArray) (i : Int) : Prop := r.size ≤ 100 ∧ (Lit.int .i64 i).wf = true
theorem pgRow : (33 : TypeId) < Try.prog.types.size := of_decide_eq_true (by kernel_rfl)
theorem pgWide : (match Try.prog.underlying 33 with | some (.array _ _) | some (.struct _) => true | _ => false) = true := by rw [Try.underlying33]
theorem laidOutK : laidOutB Try.prog = true := by kernel_rfl
set_option maxRecDepth 100000 in
theorem keyPg : Keyed Try.prog 33 := Keyed.of_law (deep_law_laid laidOutK (m := 2) (by omega) pgRow (by kernel_rfl) pgWide)
theorem keyTypePg : Try.prog.keyType 33 = true := by kernel_rfl
theorem cellsPg : Try.prog.cellsOf 33 = 2 := by kernel_rfl
theorem cellsIn : Try.prog.cellsOf 3 = 1 := by kernel_rfl
theorem cellsStr : Try.prog.cellsOf 9 = 1 := by kernel_rfl
theorem up_of {k n : Nat} (h : k < n) : ∃ m, n = m + 1 := ⟨n - 1, by omega⟩
theorem typesUp : ∃ m, Try.prog.types.size = m + 1 := up_of pgRow
set_option maxRecDepth 100000 in
theorem keyOf_pg {r : ByteArray} {i : Int} (h : KeyOk r i) : keyOf Try.prog 33 (pgV r i) = some (pgK r i) := by
  obtain ⟨hr, hi⟩ := h
  have hr' : r.size ≤ maxLen := by unfold maxLen; omega
  obtain ⟨m, hm⟩ := typesUp
  unfold keyOf pgV
  simp only [Try.underlying33]
  rw [if_pos (by simp [keyTypePg, Value.formed, Try.underlying33, cellsPg]), hm]
  unfold Program.keyLits
  simp only [Try.underlying33, Value.cells]
  rw [if_pos (by simp [cellsPg])]
  simp [cellsIn, cellsStr, Program.keyLits, Try.underlying3, Try.underlying9, hr', hi, pgK]
theorem pgV_inj {r r' : ByteArray} {i i' : Int} (h : pgV r i = pgV r' i') : r = r' ∧ i = i' := by
  unfold pgV at h
  injection h with h
  have h1 : (#[Value.string r, Value.int .i64 i] : Array Value)[0]? = (#[Value.string r', Value.int .i64 i'] : Array Value)[0]? := by rw [h]
  have h2 : (#[Value.string r, Value.int .i64 i] : Array Value)[1]? = (#[Value.string r', Value.int .i64 i'] : Array Value)[1]? := by rw [h]
  simp at h1 h2
  exact ⟨h1, h2⟩
theorem pgK_inj {r r' : ByteArray} {i i' : Int} (h : KeyOk r i) (h' : KeyOk r' i') (e : pgK r i = pgK r' i') : r = r' ∧ i = i' :=
  pgV_inj (keyPg.inj (keyOf_pg h) (e ▸ keyOf_pg h'))
theorem pgK_lit (r : ByteArray) (i : Int) : WideAt.IsKeyLit (pgK r i) := by unfold pgK; trivial
theorem zeroPl (w : World) : (zeroValue 63).run Try.prog w = .ok (.pointer none) w := by kernel_rfl
end Go.Proofs.Ytdjebcfpodfhhaa
