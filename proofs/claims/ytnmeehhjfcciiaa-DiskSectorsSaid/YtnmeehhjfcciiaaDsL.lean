/-
  Disk.loosen at a file of which nothing is loose: its sectors, from one to another, are kept.
-/
import Derived.Test.YtnmeehhjfcciiaaDsK
namespace Go.Proofs.Ytnmeehhjfcciiaa
open Go Go.RowKit Go.Maps Go.WideMaps

/-- So many sectors from i0 on are kept. -/
def keptF (L : List UInt8) (i0 j : Nat) : Nat → Option (List UInt8) := fun i => if i0 ≤ i ∧ i < i0 + j then some (sec L i) else none
theorem keptF_zero (L : List UInt8) (i0 : Nat) : keptF L i0 0 = fun _ => none := by
  funext i
  unfold keptF
  rw [if_neg (by omega)]
theorem keptF_succ (L : List UInt8) (i0 j : Nat) : keptF L i0 (j + 1) = fun i => if i = i0 + j then some (sec L (i0 + j)) else keptF L i0 j i := by
  funext i
  unfold keptF
  by_cases h : i = i0 + j
  · rw [if_pos (by omega), if_pos h, h]
  · rw [if_neg h]
    by_cases h2 : i0 ≤ i ∧ i < i0 + j
    · rw [if_pos h2, if_pos (by omega)]
    · rw [if_neg h2, if_neg (by omega)]
def ints (i0 j : Nat) : List Value := (List.range' i0 j).map fun k : Nat => Value.int .i64 ((k : Nat) : Int)
theorem ints_succ (i0 j : Nat) : ints i0 (j + 1) = ints i0 j ++ [.int .i64 ((i0 + j : Nat) : Int)] := by
  unfold ints
  rw [List.range'_concat]
  simp
/-- What a round of loosen begins with. -/
structure LoG (w : World) (g O no i0 j : Nat) (fv : Value) (L : List UInt8) (fixed : Int) (oo : DataW Value) (wrn : Value) (wr : World) : Prop where
  olds : MapAt wr Try.prog 92 O (no + j) oo
  rel : Olds wr w.heap.size oo (keptF L i0 j)
  file : FileAt wr g fv fixed wrn
  own : wr.ownsRow w.heap.size 3 1 wrn j (ints i0 j)
  grow : Grow (fun b => b = O ∨ b = g) w wr
theorem LoG.same {w wr w1 : World} {g O no i0 j : Nat} {fv : Value} {L : List UInt8} {fixed : Int} {oo : DataW Value} {wrn : Value} (h : LoG w g O no i0 j fv L fixed oo wrn wr) (hg : Grow (fun _ => False) wr w1) : LoG w g O no i0 j fv L fixed oo wrn w1 :=
  ⟨h.olds.grow hg (fun e => e), h.rel.same hg, h.file.grow hg (fun e => e), own_grow h.own hg (fun _ _ e => e), h.grow.trans (hg.mono (fun _ _ e => e.elim))⟩
/-- Behind the store into the map. -/
structure LoGm (w : World) (g O no i0 j : Nat) (fv : Value) (L : List UInt8) (fixed : Int) (oo : DataW Value) (wrn : Value) (w3 : World) : Prop where
  olds : MapAt w3 Try.prog 92 O (no + j + 1) oo
  rel : Olds w3 w.heap.size oo (keptF L i0 (j + 1))
  file : FileAt w3 g fv fixed wrn
  own : w3.ownsRow w.heap.size 3 1 wrn j (ints i0 j)
  grow : Grow (fun b => b = O ∨ b = g) w w3
theorem log_upd {w w1 w2 : World} {g O no i0 j : Nat} {fv : Value} {L : List UInt8} {fixed : Int} {oo : DataW Value} {wrn v : Value} (h : LoG w g O no i0 j fv L fixed oo wrn w1) (hv : OwnF w1.drew.heap.size w2 v (sec L (i0 + j))) (hg : Grow (fun _ => False) w1.drew w2) (hn : no + j < maxLen) (hi : i0 + j ≤ 1000000) (hgO : g ≠ O) (hO : O < w.heap.size) :
    ∃ w3, (Instr.mapUpdate 60 (.map (some O)) (.agg #[.int .i64 0, .int .i64 ((i0 + j : Nat) : Int)]) v).run Try.prog w2 = .ok () w3 ∧ LoGm w g O no i0 j fv L fixed (oo.put (spotK 0 (i0 + j : Nat)) (.held v)) wrn w3 ∧ w2.grownBy w3 (some O) := by
  have g12 : Grow (fun _ => False) w1 w2 := (Grow.refl _ w1).drew.trans hg
  have h2 := h.same g12
  obtain ⟨w3, hrun, hm3, hg3⟩ := run_update_any w2 keySp Try.underlying60 h2.olds hn (keyOf_sp hi) (val := v)
  have g23 : Grow (fun b => b = O) w2 w3 := Grow.of_grown hg3 (fun k e _ => (Option.some.inj e).symm)
  have hw1 : w.heap.size ≤ w1.drew.heap.size := h.grow.size
  refine ⟨w3, hrun, ⟨hm3, ?_, h2.file.grow g23 hgO, own_grow h2.own g23 (fun k hk e => ?_), h2.grow.trans (g23.mono (fun _ _ e => .inl e))⟩, hg3⟩
  · rw [keptF_succ]
    refine Olds.put (h2.rel.grow g23 (fun k hk e => by omega)) hi ?_
    exact ((hv.grow g23 (fun k hk e => by have := (World.ownsRow.lt hv k hk).1; omega))).base hw1
  · have := (h2.own.lt k hk).1
    omega
theorem log_end {w w3 w5 : World} {g O no i0 j : Nat} {fv : Value} {L : List UInt8} {fixed : Int} {oo : DataW Value} {wrn v5 : Value} {o : Obj} (h : LoGm w g O no i0 j fv L fixed oo wrn w3) (how : w5.ownsRow w.heap.size 3 1 v5 (j + 1) (ints i0 j ++ [.int .i64 ((i0 + j : Nat) : Int)])) (hg : (w3.alloc o).grownBy w5 wrn.ownBlock) (hl : g < w.heap.size) (hgO : g ≠ O) (hOw : O < w.heap.size)
    (hne : ∀ i l v b, keptF L i0 (j + 1) i = some l → oo.atKey (spotK 0 i) (.held (.slice none 0 0)) = .held v → v.ownBlock = some b → wrn.ownBlock ≠ some b) :
    FileAt w5 g fv fixed wrn ∧ LoG w g O no i0 (j + 1) fv L fixed oo v5 (w5.setCell ⟨g, 2, none⟩ v5) := by
  have hw : ∀ k, wrn.ownBlock = some k → w.heap.size ≤ k := fun k hk => (h.own.lt k hk).1
  have g1 : Grow (fun b => wrn.ownBlock = some b) w3 w5 := ((Grow.refl _ w3).alloc o).trans (Grow.of_grown hg (fun k e _ => e))
  have hf : FileAt w5 g fv fixed wrn := h.file.grow g1 (fun e => by have := hw _ e; omega)
  refine ⟨hf, ?_, ?_, ?_, ?_, ?_⟩
  · exact (h.olds.grow g1 (fun e => by have := hw _ e; omega)).setCell (a := ⟨g, 2, none⟩) (fun e => hgO e.symm) _
  · refine ⟨h.rel.is, h.rel.no, fun i l hil => ?_, h.rel.only⟩
    obtain ⟨hi, v, h1, h2, h3⟩ := h.rel.yes i l hil
    refine ⟨hi, v, h1, h2, ?_⟩
    have h4 := h3.grow g1 (fun k hk e => hne i l v k hil h2 hk e)
    exact World.ownsRow.kept h4 (grown_setCell w5 ⟨g, 2, none⟩ _) (by
      cases e : v.ownBlock with
      | none => exact .inl rfl
      | some b => right; have := (World.ownsRow.lt h3 b e).1; simp; omega)
  · show (w5.setCell ⟨g, 2, none⟩ v5).heap[g]? = _
    rw [Go.heap_setCell_same _ g _ _ _ _ hf]
    rfl
  · rw [ints_succ]
    exact how.kept (grown_setCell w5 ⟨g, 2, none⟩ _) (by
      cases e : v5.ownBlock with
      | none => exact .inl rfl
      | some k => right; have := (how.lt k e).1; simp; omega)
  · have g2 : Grow (fun b => b = O ∨ b = g) w w5 := h.grow.thenNew g1 (fun k hk e => by have := hw k e; omega)
    exact g2.setCell _ _ (fun _ => .inr rfl)
theorem log_ne {w w3 : World} {g O no i0 j : Nat} {fv : Value} {L : List UInt8} {fixed : Int} {oo : DataW Value} {wrn : Value} (h : LoGm w g O no i0 j fv L fixed oo wrn w3) : ∀ i l v b, keptF L i0 (j + 1) i = some l → oo.atKey (spotK 0 i) (.held (.slice none 0 0)) = .held v → v.ownBlock = some b → wrn.ownBlock ≠ some b := by
  intro i l v b hil hat hb e
  obtain ⟨-, v', -, h2, h3⟩ := h.rel.yes i l hil
  rw [hat] at h2
  injection h2 with h2
  subst h2
  obtain ⟨-, c1, hc1⟩ := own_blockD h3 b hb
  obtain ⟨-, c2, hc2⟩ := own_blockD h.own b e
  rw [hc1] at hc2
  injection hc2 with hc2
  injection hc2 with _ hc2 _
  exact absurd hc2 (by decide)
end Go.Proofs.Ytnmeehhjfcciiaa
