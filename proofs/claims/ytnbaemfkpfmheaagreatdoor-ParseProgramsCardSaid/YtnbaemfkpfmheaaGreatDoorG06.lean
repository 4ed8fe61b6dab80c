/-
  The program's reader: program.
  The words of a text of any length; what a text says, as an answer.
-/
import Derived.Test.YtnbaemfkpfmheaaGreatDoorG05
import Derived.Test.YtnbaemfkpfmheaaGreatDoorLxH
import Derived.Defers
import Derived.Recover
import Derived.Laws.Pointers
import Derived.RegionTactic
import Derived.BigRegion
namespace Go.Proofs.YtnbaemfkpfmheaaGreatDoor
section
open Go Go.RowKit Go.Shelf

abbrev zPr : Obj := .cells #[.slice none 0 0, .slice none 0 0, .slice none 0 0] 27
def prT (S : Nat → Prop) (w : World) (v : Value) (cs : List ClL) : Prop := ∃ u x y, v = .agg #[u, x, y] ∧ RowIn deY S w u (ofCs cs).decls ∧ RowIn onY S w x (ofCs cs).ons ∧ RowIn ruY S w y (ofCs cs).rules
/-- What the loop of a program keeps. -/
structure PgJ (n b e : Nat) (W : World) (L : List Wd) (cs : List ClL) (vd vo vr : Value) (Zd Zo Zr : Nat → Prop) (L1 : List Wd) (w : World) : Prop where
  box : w.heap[W.heap.size + 1]? = some (.cells #[vd, vo, vr] 27 (0, 0))
  kt : w.heap[W.heap.size]? = some zPr
  d : RowZ deY 67 Zd w vd (ofCs cs).decls
  o : RowZ onY 72 Zo w vo (ofCs cs).ons
  r : RowZ ruY 41 Zr w vr (ofCs cs).rules
  zd : ∀ k, Zd k → W.heap.size + 2 ≤ k ∧ k < w.heap.size
  zo : ∀ k, Zo k → W.heap.size + 2 ≤ k ∧ k < w.heap.size
  zr : ∀ k, Zr k → W.heap.size + 2 ≤ k ∧ k < w.heap.size
  dor : (∀ k, Zd k → ¬ Zo k) ∧ (∀ k, Zd k → ¬ Zr k) ∧ ∀ k, Zo k → ¬ Zr k
  rd : Rp n w b L1 e
  only : Only W.heap.size b W w
  suf : L1 <:+ L
  eq : progR (keys L) = contP cs (keys L1)
  len : cs.length + L1.length ≤ L.length
  szk : W.heap.size + 2 ≤ w.heap.size
  lt : b < W.heap.size
theorem ofCs_len (cs : List ClL) : (ofCs cs).decls.length ≤ cs.length ∧ (ofCs cs).ons.length ≤ cs.length ∧ (ofCs cs).rules.length ≤ cs.length := ⟨List.length_filterMap_le _ _, List.length_filterMap_le _ _, List.length_filterMap_le _ _⟩
theorem keys_ne {x : Wd} {L : List Wd} : keys (x :: L) ≠ [] := by simp
theorem PgJ.step_d {n b e : Nat} {W w w3 w5 : World} {L L1 L4 : List Wd} {cs : List ClL} {vd vo vr v' : Value} {Zd Zo Zr : Nat → Prop} {a : DeL} {us : List Value} (h : PgJ n b e W L cs vd vo vr Zd Zo Zr L1 w) (hnW_ : n ≤ W.heap.size)
    (ht : Turned (fun k => k = b) w w3) (hrd : Rp n w3 b L4 e) (hne : keys L1 ≠ []) (hc : clauseR (keys L1) = .ok (.decl a) (keys L4)) (hs4 : L4 <:+ L1)
    (hr5 : RowZ deY 67 (fun k => Zd k ∨ (w.heap.size ≤ k ∧ k < w3.heap.size) ∨ k = (w3.alloc (.cells us.toArray 67)).heap.size) w5 v' ((ofCs cs).decls ++ [a])) (hg : (w3.alloc (.cells us.toArray 67)).grownBy w5 vd.ownBlock) :
    PgJ n b e W L (cs ++ [.decl a]) v' vo vr (fun k => Zd k ∨ (w.heap.size ≤ k ∧ k < w5.heap.size)) Zo Zr L4 (w5.setCell ⟨W.heap.size + 1, 0, none⟩ v') := by
  have htg := Turned.of_grown hg
  have hsz3 := ht.size
  have hsz4 : (w3.alloc (.cells us.toArray 67)).heap.size = w3.heap.size + 1 := by simp
  have hsz5 := htg.size
  have hszk := h.szk
  have hlt := h.lt
  have hown : ∀ k, vd.ownBlock = some k → W.heap.size + 2 ≤ k := fun k e => (h.zd k (h.d.lt k e).1).1
  have hkeep5 : ∀ k, k < w.heap.size → ¬ vd.ownBlock = some k → k ≠ b → w5.heap[k]? = w.heap[k]? := fun k hk e1 e2 => (htg.block k (by omega) e1).trans ((Below.heap_alloc _ _ _ (by omega)).trans (ht.block k hk e2))
  have hkeep : ∀ k, k < w.heap.size → ¬ vd.ownBlock = some k → k ≠ b → k ≠ W.heap.size + 1 → (w5.setCell ⟨W.heap.size + 1, 0, none⟩ v').heap[k]? = w.heap[k]? := fun k hk e1 e2 e3 => (heap_setCell_other w5 ⟨W.heap.size + 1, 0, none⟩ k _ e3).trans (hkeep5 k hk e1 e2)
  have hs56 : w.heap.size ≤ (w5.setCell ⟨W.heap.size + 1, 0, none⟩ v').heap.size := by simp; omega
  have hset : ∀ k, k ≠ W.heap.size + 1 → (w5.setCell ⟨W.heap.size + 1, 0, none⟩ v').heap[k]? = w5.heap[k]? := fun k e3 => heap_setCell_other w5 ⟨W.heap.size + 1, 0, none⟩ k _ e3
  have hbox := heap_setCell_same w5 (W.heap.size + 1) 0 _ _ v' ((hkeep5 _ (by omega) (fun e => by have := hown _ e; omega) (by omega)).trans h.box)
  have hlen := h.len
  have hl4 : L4.length < L1.length := by
    have := fit_clause.eats _ _ _ hc
    rw [keys_len, keys_len] at this
    exact this
  have hof : (ofCs (cs ++ [.decl a])).decls = (ofCs cs).decls ++ [a] := by simp [ofCs, ClL.decl?]
  have hofo : (ofCs (cs ++ [.decl a])).ons = (ofCs cs).ons := by simp [ofCs, ClL.on?]
  have hofr : (ofCs (cs ++ [.decl a])).rules = (ofCs cs).rules := by simp [ofCs, ClL.rule?]
  have hRd : RowZ deY 67 (fun k => Zd k ∨ (w.heap.size ≤ k ∧ k < w5.heap.size)) (w5.setCell ⟨W.heap.size + 1, 0, none⟩ v') v' (ofCs (cs ++ [.decl a])).decls := by
    rw [hof]
    refine hr5.keep (by simp) fun k e hk => ⟨?_, hset k ?_⟩
    · rcases e with e | e | e
      · exact .inl e
      · exact .inr ⟨e.1, hk⟩
      · exact .inr ⟨by omega, hk⟩
    · rcases e with e | e | e
      · have := (h.zd k e).1; omega
      · omega
      · omega
  have hZd : ∀ k, (fun k => Zd k ∨ (w.heap.size ≤ k ∧ k < w5.heap.size)) k → W.heap.size + 2 ≤ k ∧ k < (w5.setCell ⟨W.heap.size + 1, 0, none⟩ v').heap.size := fun k e => by
    rcases e with e | e
    · have := h.zd k e; simp; omega
    · simp; omega
  have hRo : RowZ onY 72 Zo (w5.setCell ⟨W.heap.size + 1, 0, none⟩ v') vo (ofCs (cs ++ [.decl a])).ons := by
    rw [hofo]
    exact h.o.keep hs56 fun k e hk => ⟨e, hkeep k hk (fun e2 => h.dor.1 k (h.d.lt k e2).1 e) (by have := (h.zo k e).1; have := h.lt; omega) (by have := (h.zo k e).1; omega)⟩
  have hZo : ∀ k, Zo k → W.heap.size + 2 ≤ k ∧ k < (w5.setCell ⟨W.heap.size + 1, 0, none⟩ v').heap.size := fun k e => by have := h.zo k e; simp; omega
  have hRr : RowZ ruY 41 Zr (w5.setCell ⟨W.heap.size + 1, 0, none⟩ v') vr (ofCs (cs ++ [.decl a])).rules := by
    rw [hofr]
    exact h.r.keep hs56 fun k e hk => ⟨e, hkeep k hk (fun e2 => h.dor.2.1 k (h.d.lt k e2).1 e) (by have := (h.zr k e).1; have := h.lt; omega) (by have := (h.zr k e).1; omega)⟩
  have hZr : ∀ k, Zr k → W.heap.size + 2 ≤ k ∧ k < (w5.setCell ⟨W.heap.size + 1, 0, none⟩ v').heap.size := fun k e => by have := h.zr k e; simp; omega
  have hDdo : ∀ k, (fun k => Zd k ∨ (w.heap.size ≤ k ∧ k < w5.heap.size)) k → ¬ Zo k := fun k e e2 => by
    rcases e with e | e
    · exact h.dor.1 k e e2
    · have := (h.zo k e2).2; omega
  have hDdr : ∀ k, (fun k => Zd k ∨ (w.heap.size ≤ k ∧ k < w5.heap.size)) k → ¬ Zr k := fun k e e2 => by
    rcases e with e | e
    · exact h.dor.2.1 k e e2
    · have := (h.zr k e2).2; omega
  have hDor : ∀ k, Zo k → ¬ Zr k := h.dor.2.2
  refine ⟨hbox, (hkeep _ (by omega) (fun e => by have := hown _ e; omega) (by omega) (by omega)).trans h.kt, hRd, hRo, hRr, hZd, hZo, hZr, ⟨hDdo, hDdr, hDor⟩, ((hrd.alloc _).turned htg fun k e => by have := hown k e; omega).set (by omega) _ _, (((h.only.on ht).alloc _).call htg fun k e => .inr (by have := hown k e; omega)).set (by omega) _ _, hs4.trans h.suf, h.eq.trans (contP_next hne hc), by simp; omega, by simp; omega, hlt⟩
theorem PgJ.step_o {n b e : Nat} {W w w3 w5 : World} {L L1 L4 : List Wd} {cs : List ClL} {vd vo vr v' : Value} {Zd Zo Zr : Nat → Prop} {a : OnL} {us : List Value} (h : PgJ n b e W L cs vd vo vr Zd Zo Zr L1 w) (hnW_ : n ≤ W.heap.size)
    (ht : Turned (fun k => k = b) w w3) (hrd : Rp n w3 b L4 e) (hne : keys L1 ≠ []) (hc : clauseR (keys L1) = .ok (.on a) (keys L4)) (hs4 : L4 <:+ L1)
    (hr5 : RowZ onY 72 (fun k => Zo k ∨ (w.heap.size ≤ k ∧ k < w3.heap.size) ∨ k = (w3.alloc (.cells us.toArray 72)).heap.size) w5 v' ((ofCs cs).ons ++ [a])) (hg : (w3.alloc (.cells us.toArray 72)).grownBy w5 vo.ownBlock) :
    PgJ n b e W L (cs ++ [.on a]) vd v' vr Zd (fun k => Zo k ∨ (w.heap.size ≤ k ∧ k < w5.heap.size)) Zr L4 (w5.setCell ⟨W.heap.size + 1, 1, none⟩ v') := by
  have htg := Turned.of_grown hg
  have hsz3 := ht.size
  have hsz4 : (w3.alloc (.cells us.toArray 72)).heap.size = w3.heap.size + 1 := by simp
  have hsz5 := htg.size
  have hszk := h.szk
  have hlt := h.lt
  have hown : ∀ k, vo.ownBlock = some k → W.heap.size + 2 ≤ k := fun k e => (h.zo k (h.o.lt k e).1).1
  have hkeep5 : ∀ k, k < w.heap.size → ¬ vo.ownBlock = some k → k ≠ b → w5.heap[k]? = w.heap[k]? := fun k hk e1 e2 => (htg.block k (by omega) e1).trans ((Below.heap_alloc _ _ _ (by omega)).trans (ht.block k hk e2))
  have hkeep : ∀ k, k < w.heap.size → ¬ vo.ownBlock = some k → k ≠ b → k ≠ W.heap.size + 1 → (w5.setCell ⟨W.heap.size + 1, 1, none⟩ v').heap[k]? = w.heap[k]? := fun k hk e1 e2 e3 => (heap_setCell_other w5 ⟨W.heap.size + 1, 1, none⟩ k _ e3).trans (hkeep5 k hk e1 e2)
  have hs56 : w.heap.size ≤ (w5.setCell ⟨W.heap.size + 1, 1, none⟩ v').heap.size := by simp; omega
  have hset : ∀ k, k ≠ W.heap.size + 1 → (w5.setCell ⟨W.heap.size + 1, 1, none⟩ v').heap[k]? = w5.heap[k]? := fun k e3 => heap_setCell_other w5 ⟨W.heap.size + 1, 1, none⟩ k _ e3
  have hbox := heap_setCell_same w5 (W.heap.size + 1) 1 _ _ v' ((hkeep5 _ (by omega) (fun e => by have := hown _ e; omega) (by omega)).trans h.box)
  have hlen := h.len
  have hl4 : L4.length < L1.length := by
    have := fit_clause.eats _ _ _ hc
    rw [keys_len, keys_len] at this
    exact this
  have hof : (ofCs (cs ++ [.on a])).ons = (ofCs cs).ons ++ [a] := by simp [ofCs, ClL.on?]
  have hofd : (ofCs (cs ++ [.on a])).decls = (ofCs cs).decls := by simp [ofCs, ClL.decl?]
  have hofr : (ofCs (cs ++ [.on a])).rules = (ofCs cs).rules := by simp [ofCs, ClL.rule?]
  have hRd : RowZ deY 67 Zd (w5.setCell ⟨W.heap.size + 1, 1, none⟩ v') vd (ofCs (cs ++ [.on a])).decls := by
    rw [hofd]
    exact h.d.keep hs56 fun k e hk => ⟨e, hkeep k hk (fun e2 => h.dor.1 k e (h.o.lt k e2).1) (by have := (h.zd k e).1; have := h.lt; omega) (by have := (h.zd k e).1; omega)⟩
  have hZd : ∀ k, Zd k → W.heap.size + 2 ≤ k ∧ k < (w5.setCell ⟨W.heap.size + 1, 1, none⟩ v').heap.size := fun k e => by have := h.zd k e; simp; omega
  have hRo : RowZ onY 72 (fun k => Zo k ∨ (w.heap.size ≤ k ∧ k < w5.heap.size)) (w5.setCell ⟨W.heap.size + 1, 1, none⟩ v') v' (ofCs (cs ++ [.on a])).ons := by
    rw [hof]
    refine hr5.keep (by simp) fun k e hk => ⟨?_, hset k ?_⟩
    · rcases e with e | e | e
      · exact .inl e
      · exact .inr ⟨e.1, hk⟩
      · exact .inr ⟨by omega, hk⟩
    · rcases e with e | e | e
      · have := (h.zo k e).1; omega
      · omega
      · omega
  have hZo : ∀ k, (fun k => Zo k ∨ (w.heap.size ≤ k ∧ k < w5.heap.size)) k → W.heap.size + 2 ≤ k ∧ k < (w5.setCell ⟨W.heap.size + 1, 1, none⟩ v').heap.size := fun k e => by
    rcases e with e | e
    · have := h.zo k e; simp; omega
    · simp; omega
  have hRr : RowZ ruY 41 Zr (w5.setCell ⟨W.heap.size + 1, 1, none⟩ v') vr (ofCs (cs ++ [.on a])).rules := by
    rw [hofr]
    exact h.r.keep hs56 fun k e hk => ⟨e, hkeep k hk (fun e2 => h.dor.2.2 k (h.o.lt k e2).1 e) (by have := (h.zr k e).1; have := h.lt; omega) (by have := (h.zr k e).1; omega)⟩
  have hZr : ∀ k, Zr k → W.heap.size + 2 ≤ k ∧ k < (w5.setCell ⟨W.heap.size + 1, 1, none⟩ v').heap.size := fun k e => by have := h.zr k e; simp; omega
  have hDdo : ∀ k, Zd k → ¬ (fun k => Zo k ∨ (w.heap.size ≤ k ∧ k < w5.heap.size)) k := fun k e e2 => by
    rcases e2 with e2 | e2
    · exact h.dor.1 k e e2
    · have := (h.zd k e).2; omega
  have hDdr : ∀ k, Zd k → ¬ Zr k := h.dor.2.1
  have hDor : ∀ k, (fun k => Zo k ∨ (w.heap.size ≤ k ∧ k < w5.heap.size)) k → ¬ Zr k := fun k e e2 => by
    rcases e with e | e
    · exact h.dor.2.2 k e e2
    · have := (h.zr k e2).2; omega
  refine ⟨hbox, (hkeep _ (by omega) (fun e => by have := hown _ e; omega) (by omega) (by omega)).trans h.kt, hRd, hRo, hRr, hZd, hZo, hZr, ⟨hDdo, hDdr, hDor⟩, ((hrd.alloc _).turned htg fun k e => by have := hown k e; omega).set (by omega) _ _, (((h.only.on ht).alloc _).call htg fun k e => .inr (by have := hown k e; omega)).set (by omega) _ _, hs4.trans h.suf, h.eq.trans (contP_next hne hc), by simp; omega, by simp; omega, hlt⟩
theorem PgJ.step_r {n b e : Nat} {W w w3 w5 : World} {L L1 L4 : List Wd} {cs : List ClL} {vd vo vr v' : Value} {Zd Zo Zr : Nat → Prop} {a : RuL} {us : List Value} (h : PgJ n b e W L cs vd vo vr Zd Zo Zr L1 w) (hnW_ : n ≤ W.heap.size)
    (ht : Turned (fun k => k = b) w w3) (hrd : Rp n w3 b L4 e) (hne : keys L1 ≠ []) (hc : clauseR (keys L1) = .ok (.rule a) (keys L4)) (hs4 : L4 <:+ L1)
    (hr5 : RowZ ruY 41 (fun k => Zr k ∨ (w.heap.size ≤ k ∧ k < w3.heap.size) ∨ k = (w3.alloc (.cells us.toArray 41)).heap.size) w5 v' ((ofCs cs).rules ++ [a])) (hg : (w3.alloc (.cells us.toArray 41)).grownBy w5 vr.ownBlock) :
    PgJ n b e W L (cs ++ [.rule a]) vd vo v' Zd Zo (fun k => Zr k ∨ (w.heap.size ≤ k ∧ k < w5.heap.size)) L4 (w5.setCell ⟨W.heap.size + 1, 2, none⟩ v') := by
  have htg := Turned.of_grown hg
  have hsz3 := ht.size
  have hsz4 : (w3.alloc (.cells us.toArray 41)).heap.size = w3.heap.size + 1 := by simp
  have hsz5 := htg.size
  have hszk := h.szk
  have hlt := h.lt
  have hown : ∀ k, vr.ownBlock = some k → W.heap.size + 2 ≤ k := fun k e => (h.zr k (h.r.lt k e).1).1
  have hkeep5 : ∀ k, k < w.heap.size → ¬ vr.ownBlock = some k → k ≠ b → w5.heap[k]? = w.heap[k]? := fun k hk e1 e2 => (htg.block k (by omega) e1).trans ((Below.heap_alloc _ _ _ (by omega)).trans (ht.block k hk e2))
  have hkeep : ∀ k, k < w.heap.size → ¬ vr.ownBlock = some k → k ≠ b → k ≠ W.heap.size + 1 → (w5.setCell ⟨W.heap.size + 1, 2, none⟩ v').heap[k]? = w.heap[k]? := fun k hk e1 e2 e3 => (heap_setCell_other w5 ⟨W.heap.size + 1, 2, none⟩ k _ e3).trans (hkeep5 k hk e1 e2)
  have hs56 : w.heap.size ≤ (w5.setCell ⟨W.heap.size + 1, 2, none⟩ v').heap.size := by simp; omega
  have hset : ∀ k, k ≠ W.heap.size + 1 → (w5.setCell ⟨W.heap.size + 1, 2, none⟩ v').heap[k]? = w5.heap[k]? := fun k e3 => heap_setCell_other w5 ⟨W.heap.size + 1, 2, none⟩ k _ e3
  have hbox := heap_setCell_same w5 (W.heap.size + 1) 2 _ _ v' ((hkeep5 _ (by omega) (fun e => by have := hown _ e; omega) (by omega)).trans h.box)
  have hlen := h.len
  have hl4 : L4.length < L1.length := by
    have := fit_clause.eats _ _ _ hc
    rw [keys_len, keys_len] at this
    exact this
  have hof : (ofCs (cs ++ [.rule a])).rules = (ofCs cs).rules ++ [a] := by simp [ofCs, ClL.rule?]
  have hofd : (ofCs (cs ++ [.rule a])).decls = (ofCs cs).decls := by simp [ofCs, ClL.decl?]
  have hofo : (ofCs (cs ++ [.rule a])).ons = (ofCs cs).ons := by simp [ofCs, ClL.on?]
  have hRd : RowZ deY 67 Zd (w5.setCell ⟨W.heap.size + 1, 2, none⟩ v') vd (ofCs (cs ++ [.rule a])).decls := by
    rw [hofd]
    exact h.d.keep hs56 fun k e hk => ⟨e, hkeep k hk (fun e2 => h.dor.2.1 k e (h.r.lt k e2).1) (by have := (h.zd k e).1; have := h.lt; omega) (by have := (h.zd k e).1; omega)⟩
  have hZd : ∀ k, Zd k → W.heap.size + 2 ≤ k ∧ k < (w5.setCell ⟨W.heap.size + 1, 2, none⟩ v').heap.size := fun k e => by have := h.zd k e; simp; omega
  have hRo : RowZ onY 72 Zo (w5.setCell ⟨W.heap.size + 1, 2, none⟩ v') vo (ofCs (cs ++ [.rule a])).ons := by
    rw [hofo]
    exact h.o.keep hs56 fun k e hk => ⟨e, hkeep k hk (fun e2 => h.dor.2.2 k e (h.r.lt k e2).1) (by have := (h.zo k e).1; have := h.lt; omega) (by have := (h.zo k e).1; omega)⟩
  have hZo : ∀ k, Zo k → W.heap.size + 2 ≤ k ∧ k < (w5.setCell ⟨W.heap.size + 1, 2, none⟩ v').heap.size := fun k e => by have := h.zo k e; simp; omega
  have hRr : RowZ ruY 41 (fun k => Zr k ∨ (w.heap.size ≤ k ∧ k < w5.heap.size)) (w5.setCell ⟨W.heap.size + 1, 2, none⟩ v') v' (ofCs (cs ++ [.rule a])).rules := by
    rw [hof]
    refine hr5.keep (by simp) fun k e hk => ⟨?_, hset k ?_⟩
    · rcases e with e | e | e
      · exact .inl e
      · exact .inr ⟨e.1, hk⟩
      · exact .inr ⟨by omega, hk⟩
    · rcases e with e | e | e
      · have := (h.zr k e).1; omega
      · omega
      · omega
  have hZr : ∀ k, (fun k => Zr k ∨ (w.heap.size ≤ k ∧ k < w5.heap.size)) k → W.heap.size + 2 ≤ k ∧ k < (w5.setCell ⟨W.heap.size + 1, 2, none⟩ v').heap.size := fun k e => by
    rcases e with e | e
    · have := h.zr k e; simp; omega
    · simp; omega
  have hDdo : ∀ k, Zd k → ¬ Zo k := h.dor.1
  have hDdr : ∀ k, Zd k → ¬ (fun k => Zr k ∨ (w.heap.size ≤ k ∧ k < w5.heap.size)) k := fun k e e2 => by
    rcases e2 with e2 | e2
    · exact h.dor.2.1 k e e2
    · have := (h.zd k e).2; omega
  have hDor : ∀ k, Zo k → ¬ (fun k => Zr k ∨ (w.heap.size ≤ k ∧ k < w5.heap.size)) k := fun k e e2 => by
    rcases e2 with e2 | e2
    · exact h.dor.2.2 k e e2
    · have := (h.zo k e).2; omega
  refine ⟨hbox, (hkeep _ (by omega) (fun e => by have := hown _ e; omega) (by omega) (by omega)).trans h.kt, hRd, hRo, hRr, hZd, hZo, hZr, ⟨hDdo, hDdr, hDor⟩, ((hrd.alloc _).turned htg fun k e => by have := hown k e; omega).set (by omega) _ _, (((h.only.on ht).alloc _).call htg fun k e => .inr (by have := hown k e; omega)).set (by omega) _ _, hs4.trans h.suf, h.eq.trans (contP_next hne hc), by simp; omega, by simp; omega, hlt⟩
set_option maxRecDepth 100000 in
set_option maxHeartbeats 8000000 in
theorem pprogram_any {W : World} {n b e : Nat} {L : List Wd} (h : Rp n W b L e) : Calls Tryz.prog 22 #[rdp b] W (PEnd progR prT n b e L W) := by
  have HR := Lib.hid h
  have hnW := h.below_
  have hlt := h.lt
  have F1 := wf1
  have mixed : Tryz.prog.follows .mixedOrders = true := by kernel_rfl
  have HJ0 : Hid (PgJ n b e W L [] (.slice none 0 0) (.slice none 0 0) (.slice none 0 0) (fun _ => False) (fun _ => False) (fun _ => False) L ((W.alloc zPr).alloc zPr)) := Lib.hid
    ⟨(two_new W zPr zPr).2, (two_new W zPr zPr).1, RowZ.nil _ _ _ _, RowZ.nil _ _ _ _, RowZ.nil _ _ _ _, fun _ e => e.elim, fun _ e => e.elim, fun _ e => e.elim, ⟨fun _ e => e.elim, fun _ e => e.elim, fun _ e => e.elim⟩, (h.alloc zPr).alloc zPr, ((Only.refl b W).alloc zPr).alloc zPr, List.suffix_refl _, contP_nil _, by simp, by simp, hlt⟩
  clear h
  go_enter Tryz.func22, Tryz.ntmps22
  go_wp2_with fail
  go_loopw [4] (fun _ wr => ∃ cs vd vo vr Zd Zo Zr L1, Hid (PgJ n b e W L cs vd vo vr Zd Zo Zr L1 wr)) (fun _ wr => leftW wr b)
  case atStart => exact ⟨_, _, _, _, _, _, _, _, HJ0⟩
  case round =>
    obtain ⟨cs, vd, vo, vr, Zd, Zo, Zr, L1, HJ⟩ := hrel
    obtain ⟨vw, hvw, pw, cw, rfl, -⟩ := HJ.out.rd.row
    have cl0 : wr.cell? ⟨b, 0, none⟩ = some (.slice pw L1.length cw) := cell_of_row wr b 0 _ _ (0, 0) hvw
    clear hvw
    cases L1 with
    | nil =>
      have hl0 : ((([] : List Wd).length : Nat) : Int) = 0 := rfl
      obtain ⟨⟨b0, b1, b2⟩, -⟩ := cells3 HJ.out.box
      obtain ⟨⟨q0, q1, q2⟩, k0, k1, k2⟩ := cells3 HJ.out.kt
      obtain ⟨p1, c1, rfl⟩ := HJ.out.d.slice
      obtain ⟨p2, c2, rfl⟩ := HJ.out.o.slice
      obtain ⟨p3, c3, rfl⟩ := HJ.out.r.slice
      go_wp2_with fail
      refine bodyPost_ret (results_cell_row (fn := Tryz.f22) (by rfl) _ _ _ _ _ _ _ (by rfl) (rowS3_set HJ.out.kt) Tryz.underlying27 (by rfl) (by kernel_rfl)) (by rfl) ?_
      refine ⟨Only.turned (((HJ.out.only.set (Nat.le_refl _) _ _).set (Nat.le_refl _) _ _).set (Nat.le_refl _) _ _), .inl ⟨cs, [], _, HJ.out.eq.trans (contP_end cs), HJ.out.suf, rfl, ⟨_, _, _, rfl, ?_, ?_, ?_⟩, ((HJ.out.rd.set hnW _ _).set hnW _ _).set hnW _ _⟩⟩
      · exact HJ.out.d.in_.keep (by simp) fun k e hk => ⟨by have := (HJ.out.zd k e).1; omega, set3_off (by have := (HJ.out.zd k e).1; omega)⟩
      · exact HJ.out.o.in_.keep (by simp) fun k e hk => ⟨by have := (HJ.out.zo k e).1; omega, set3_off (by have := (HJ.out.zo k e).1; omega)⟩
      · exact HJ.out.r.in_.keep (by simp) fun k e hk => ⟨by have := (HJ.out.zr k e).1; omega, set3_off (by have := (HJ.out.zr k e).1; omega)⟩
    | cons x L2 =>
      have hl0 : (0 : Int) < (((x :: L2).length : Nat) : Int) := by rw [List.length_cons]; omega
      go_wp2_with fail
      refine (pnext_any HJ.out.rd).mono ?_
      rintro y w1 ⟨rfl, hb⟩
      have HJ1 : Hid (PgJ n b e W L cs vd vo vr Zd Zo Zr (x :: L2) w1) := Lib.hid (by
        have hj := HJ.out
        have hk : ∀ k, k < wr.heap.size → w1.heap[k]? = wr.heap[k]? := hb.block
        have hs := hb.size
        have hz := hj.szk
        exact ⟨(hk _ (by omega)).trans hj.box, (hk _ (by omega)).trans hj.kt, hj.d.keep hs fun k e h => ⟨e, hk k h⟩, hj.o.keep hs fun k e h => ⟨e, hk k h⟩, hj.r.keep hs fun k e h => ⟨e, hk k h⟩, fun k e => ⟨(hj.zd k e).1, Nat.lt_of_lt_of_le (hj.zd k e).2 hs⟩, fun k e => ⟨(hj.zo k e).1, Nat.lt_of_lt_of_le (hj.zo k e).2 hs⟩, fun k e => ⟨(hj.zr k e).1, Nat.lt_of_lt_of_le (hj.zr k e).2 hs⟩, hj.dor, hj.rd.below hb, hj.only.below hb, hj.suf, hj.eq, hj.len, by omega, hj.lt⟩)
      have hlW : leftW wr b = (x :: L2).length := HJ.out.rd.left
      clear hb cl0 HJ
      have HJ := HJ1
      clear HJ1
      obtain ⟨T, hTx⟩ : ∃ T, T = x.text := ⟨_, rfl⟩
      unfold wordV headW
      simp only
      rw [← hTx]
      cases h1 : (T == [98, 97, 115, 101])
      · cases h2 : (T == [118, 105, 101, 119])
        · cases h3 : (T == [111, 110])
          · have HT : Hid (txt (x :: L2) ≠ wBase ∧ txt (x :: L2) ≠ wView ∧ txt (x :: L2) ≠ wOn) := Lib.hid (by show x.text ≠ _ ∧ x.text ≠ _ ∧ x.text ≠ _; rw [← hTx]; exact ⟨by show T ≠ [98, 97, 115, 101]; simpa using h1, by show T ≠ [118, 105, 101, 119]; simpa using h2, by show T ≠ [111, 110]; simpa using h3⟩)
            clear hTx
            go_wp2_with fail
            have HS : Hid (w1.drew.cell? ⟨W.heap.size + 1, 2, none⟩ = some vr) := Lib.hid (cell_of_row w1 _ 2 _ _ (0, 0) HJ.out.box)
            refine wp_region_held_drew (S := fun _ => True) (by kernel_rfl) trivial (fun _ => ?_)
            refine take1 0 16 (v := ?_) rfl rfl (by kernel_rfl) (by kernel_rfl) (by kernel_rfl) (fun _ _ _ h => h) (by kernel_rfl) ?_ trivial (by first | (simp only [put_norm]; exact rfl) | exact rfl) ?_
            rotate_left
            · rintro X0 -; go_simp; try (with_reducible rfl)
            refine take1 2 18 (v := ?_) rfl rfl (by kernel_rfl) (by kernel_rfl) (by kernel_rfl) (fun _ _ _ h => h) (by kernel_rfl) ?_ trivial (by first | (simp only [put_norm]; exact rfl) | exact rfl) ?_
            rotate_left
            · rintro X0 -; go_simp; try (with_reducible rfl)
            refine wpAnyH_ready (rs := [1, 3]) (by kernel_rfl) (by simp) ?_
            refine AllReadyH.cons rfl (fun K hK => ?_) ?_
            · have cS := HS.out
              go_simp
              refine hK.out _ _ trivial (fun _ => ?_)
              clear hK K cS
              refine wpAnyH_ready (rs := [3]) (by kernel_rfl) (by simp) ?_
              refine AllReadyH.cons rfl (fun K hK => ?_) AllReadyH.nil
              go_simp
              refine (prule_any HJ.out.rd.drew).mono ?_
              rintro y w3 ⟨ht, ⟨a, L4, v1, hp, hs, rfl, hv, hr⟩ | ⟨L4, hp, hs, rfl⟩⟩
              rotate_left
              · exact ⟨rfl, Only.turned (HJ.out.only.drew.on ht), .inr ⟨L4, HJ.out.eq.trans (contP_bad keys_ne ((clause_rule HJ.out.rd.tidy HT.out.1 HT.out.2.1 HT.out.2.2).trans (bind_bad hp))), hs.trans HJ.out.suf, rfl⟩⟩
              obtain ⟨u, u2, rfl, hu, hu2⟩ := hv
              have HE : Hid (Turned (fun k => k = b) w1 w3 ∧ Rp n w3 b L4 e ∧ clauseR (keys (x :: L2)) = .ok (.rule a) (keys L4) ∧ L4 <:+ x :: L2) := Lib.hid ⟨⟨ht.os, ht.tape, ht.output, ht.size, ht.block⟩, hr, (clause_rule HJ.out.rd.tidy HT.out.1 HT.out.2.1 HT.out.2.2).trans ((bind_ok hp).trans rfl), hs⟩
              have hown : ∀ k, vr.ownBlock = some k → k < w1.heap.size := fun k e => (HJ.out.r.lt k e).2
              have HX3 : Hid (ruY.is (fun k => w1.heap.size ≤ k ∧ k < w3.heap.size) (w3.alloc (.cells #[.string ⟨a.head.pred.toArray⟩, u, u2] 41)) [.string ⟨a.head.pred.toArray⟩, u, u2] a) := Lib.hid ⟨u, u2, rfl, hu.keep (by simp) fun k e hk => ⟨⟨e, hk⟩, Below.heap_alloc _ _ _ hk⟩, hu2.keep (by simp) fun k e hk => ⟨⟨e, hk⟩, Below.heap_alloc _ _ _ hk⟩⟩
              have hb3 : ∀ k, W.heap.size + 1 = k → w3.heap[k]? = w1.heap[k]? := fun k e => HE.out.1.block k (by have := HJ.out.szk; omega) (by have := HJ.out.lt; omega)
              have HS3 : Hid (w3.cell? ⟨W.heap.size + 1, 2, none⟩ = some vr) := Lib.hid (cell_of_row w3 _ 2 _ _ (0, 0) ((hb3 _ rfl).trans HJ.out.box))
              have HS4 : Hid ((w3.alloc (.cells #[.string ⟨a.head.pred.toArray⟩, u, u2] 41)).cell? ⟨W.heap.size + 1, 2, none⟩ = some vr) := Lib.hid ((World.cell?_alloc_some _ _ _ (by rw [HS3.out]; rfl)).trans HS3.out)
              have HOw : Hid (RowZ ruY 41 Zr (w3.alloc (.cells #[.string ⟨a.head.pred.toArray⟩, u, u2] 41)) vr (ofCs cs).rules) := Lib.hid (HJ.out.r.keep (by have := HE.out.1.size; simp; omega) fun k e hk => ⟨e, (Below.heap_alloc _ _ _ (Nat.lt_of_lt_of_le hk HE.out.1.size)).trans (HE.out.1.block k hk (by have := (HJ.out.zr k e).1; have := HJ.out.lt; omega))⟩)
              have hlenA : (ofCs cs).rules.length ≤ 1000000 := by have := HJ.out.len; have := HR.out.len; have := ofCs_len cs; omega
              have HCl : Hid (∀ j u', ([.string ⟨a.head.pred.toArray⟩, u, u2] : List Value)[j]? = some u' → (w3.alloc (.cells #[.string ⟨a.head.pred.toArray⟩, u, u2] 41)).cell? ⟨w3.heap.size, 0 + j, none⟩ = some u') := Lib.hid (lit_rowcells w3 [.string ⟨a.head.pred.toArray⟩, u, u2] _)
              clear ht hp hs hr hb3
              go_wp2_with fail
              refine hK.out _ _ trivial (fun _ => ?_)
              clear hK K
              refine wpAnyH_ready (rs := [4]) (by kernel_rfl) (by simp) ?_
              refine AllReadyH.cons rfl (fun K hK => ?_) AllReadyH.nil
              go_simp
              refine hK.out _ _ trivial (fun _ => ?_)
              clear hK K
              refine wpAnyH_ready (rs := [5]) (by kernel_rfl) (by simp) ?_
              refine AllReadyH.cons rfl (fun K hK => ?_) AllReadyH.nil
              refine step_appZ ruY rfl (.tmp 17) (.tmp 20) 25 41 rfl Zr (fun k => w1.heap.size ≤ k ∧ k < w3.heap.size) (.agg #[.string ⟨#[]⟩, .slice none 0 0, .slice none 0 0]) 64 Tryz.underlying25 Tryz.infoRu rfl (by decide) (by decide) vr _ a [.string ⟨a.head.pred.toArray⟩, u, u2] w3.heap.size 1 rfl rfl HOw.out HX3.out (fun k e e2 => by have := hown k e2; omega) HCl.out hlenA ?_
              intro v2 w5 ho hg
              have HN := Lib.hid (HJ.out.step_r hnW HE.out.1 HE.out.2.1 keys_ne HE.out.2.2.1 HE.out.2.2.2 ho hg)
              obtain ⟨pv, lv, cv, rfl⟩ : ∃ p l c, v2 = .slice p l c := (by obtain ⟨p, c, e⟩ := ho.slice; exact ⟨p, _, c, e⟩)
              have HB5 : Hid (w5.heap[W.heap.size + 1]? = some (.cells #[vd, vo, vr] 27 (0, 0))) := Lib.hid (((Turned.of_grown hg).block _ (by have := HJ.out.szk; have := HE.out.1.size; simp; omega) (fun e => by have := (HJ.out.zr _ (HJ.out.r.lt _ e).1).1; omega)).trans ((Below.heap_alloc _ _ _ (by have := HJ.out.szk; have := HE.out.1.size; omega)).trans ((HE.out.1.block _ (by have := HJ.out.szk; omega) (by have := HJ.out.lt; omega)).trans HJ.out.box)))
              clear ho hg
              refine hK.out _ _ trivial (fun _ => ?_)
              clear hK K
              refine take1 6 22 (v := ?_) rfl rfl (by kernel_rfl) (by kernel_rfl) (by kernel_rfl) (fun _ _ _ h => h) (by kernel_rfl) ?_ trivial (by first | (simp only [put_norm]; exact rfl) | exact rfl) ?_
              rotate_left
              · rintro X0 -; go_simp; try (with_reducible rfl)
              obtain ⟨⟨b0, b1, b2⟩, k0, k1, k2⟩ := cells3 HB5.out
              refine wpAnyH_ready (rs := [7]) (by kernel_rfl) (by simp) ?_
              refine AllReadyH.cons rfl (fun K hK => ?_) AllReadyH.nil
              go_simp
              refine hK.out _ _ trivial (fun _ => ?_)
              clear hK K b0 b1 b2 k0 k1 k2
              refine wpAnyH_done (by kernel_rfl) ?_ _
              go_wp2_with fail
              go_roundw
              case rel => exact ⟨_, _, _, _, _, _, _, _, HN⟩
              case measure =>
                rw [HN.out.rd.left, hlW]
                have := fit_clause.eats _ _ _ HE.out.2.2.1
                rw [keys_len, keys_len] at this
                exact this
            refine AllReadyH.cons rfl (fun K hK => ?_) AllReadyH.nil
            go_simp
            refine (prule_any HJ.out.rd.drew).mono ?_
            rintro y w3 ⟨ht, ⟨a, L4, v1, hp, hs, rfl, hv, hr⟩ | ⟨L4, hp, hs, rfl⟩⟩
            rotate_left
            · exact ⟨rfl, Only.turned (HJ.out.only.drew.on ht), .inr ⟨L4, HJ.out.eq.trans (contP_bad keys_ne ((clause_rule HJ.out.rd.tidy HT.out.1 HT.out.2.1 HT.out.2.2).trans (bind_bad hp))), hs.trans HJ.out.suf, rfl⟩⟩
            obtain ⟨u, u2, rfl, hu, hu2⟩ := hv
            have HE : Hid (Turned (fun k => k = b) w1 w3 ∧ Rp n w3 b L4 e ∧ clauseR (keys (x :: L2)) = .ok (.rule a) (keys L4) ∧ L4 <:+ x :: L2) := Lib.hid ⟨⟨ht.os, ht.tape, ht.output, ht.size, ht.block⟩, hr, (clause_rule HJ.out.rd.tidy HT.out.1 HT.out.2.1 HT.out.2.2).trans ((bind_ok hp).trans rfl), hs⟩
            have hown : ∀ k, vr.ownBlock = some k → k < w1.heap.size := fun k e => (HJ.out.r.lt k e).2
            have HX3 : Hid (ruY.is (fun k => w1.heap.size ≤ k ∧ k < w3.heap.size) (w3.alloc (.cells #[.string ⟨a.head.pred.toArray⟩, u, u2] 41)) [.string ⟨a.head.pred.toArray⟩, u, u2] a) := Lib.hid ⟨u, u2, rfl, hu.keep (by simp) fun k e hk => ⟨⟨e, hk⟩, Below.heap_alloc _ _ _ hk⟩, hu2.keep (by simp) fun k e hk => ⟨⟨e, hk⟩, Below.heap_alloc _ _ _ hk⟩⟩
            have hb3 : ∀ k, W.heap.size + 1 = k → w3.heap[k]? = w1.heap[k]? := fun k e => HE.out.1.block k (by have := HJ.out.szk; omega) (by have := HJ.out.lt; omega)
            have HS3 : Hid (w3.cell? ⟨W.heap.size + 1, 2, none⟩ = some vr) := Lib.hid (cell_of_row w3 _ 2 _ _ (0, 0) ((hb3 _ rfl).trans HJ.out.box))
            have HS4 : Hid ((w3.alloc (.cells #[.string ⟨a.head.pred.toArray⟩, u, u2] 41)).cell? ⟨W.heap.size + 1, 2, none⟩ = some vr) := Lib.hid ((World.cell?_alloc_some _ _ _ (by rw [HS3.out]; rfl)).trans HS3.out)
            have HOw : Hid (RowZ ruY 41 Zr (w3.alloc (.cells #[.string ⟨a.head.pred.toArray⟩, u, u2] 41)) vr (ofCs cs).rules) := Lib.hid (HJ.out.r.keep (by have := HE.out.1.size; simp; omega) fun k e hk => ⟨e, (Below.heap_alloc _ _ _ (Nat.lt_of_lt_of_le hk HE.out.1.size)).trans (HE.out.1.block k hk (by have := (HJ.out.zr k e).1; have := HJ.out.lt; omega))⟩)
            have hlenA : (ofCs cs).rules.length ≤ 1000000 := by have := HJ.out.len; have := HR.out.len; have := ofCs_len cs; omega
            have HCl : Hid (∀ j u', ([.string ⟨a.head.pred.toArray⟩, u, u2] : List Value)[j]? = some u' → (w3.alloc (.cells #[.string ⟨a.head.pred.toArray⟩, u, u2] 41)).cell? ⟨w3.heap.size, 0 + j, none⟩ = some u') := Lib.hid (lit_rowcells w3 [.string ⟨a.head.pred.toArray⟩, u, u2] _)
            clear ht hp hs hr hb3
            go_wp2_with fail
            refine hK.out _ _ trivial (fun _ => ?_)
            clear hK K
            refine wpAnyH_ready (rs := [1, 4]) (by kernel_rfl) (by simp) ?_
            refine AllReadyH.cons rfl (fun K hK => ?_) ?_
            · have cS := HS3.out
              go_simp
              refine hK.out _ _ trivial (fun _ => ?_)
              clear hK K cS
              refine wpAnyH_ready (rs := [4]) (by kernel_rfl) (by simp) ?_
              refine AllReadyH.cons rfl (fun K hK => ?_) AllReadyH.nil
              go_simp
              refine hK.out _ _ trivial (fun _ => ?_)
              clear hK K
              refine wpAnyH_ready (rs := [5]) (by kernel_rfl) (by simp) ?_
              refine AllReadyH.cons rfl (fun K hK => ?_) AllReadyH.nil
              refine step_appZ ruY rfl (.tmp 17) (.tmp 20) 25 41 rfl Zr (fun k => w1.heap.size ≤ k ∧ k < w3.heap.size) (.agg #[.string ⟨#[]⟩, .slice none 0 0, .slice none 0 0]) 64 Tryz.underlying25 Tryz.infoRu rfl (by decide) (by decide) vr _ a [.string ⟨a.head.pred.toArray⟩, u, u2] w3.heap.size 1 rfl rfl HOw.out HX3.out (fun k e e2 => by have := hown k e2; omega) HCl.out hlenA ?_
              intro v2 w5 ho hg
              have HN := Lib.hid (HJ.out.step_r hnW HE.out.1 HE.out.2.1 keys_ne HE.out.2.2.1 HE.out.2.2.2 ho hg)
              obtain ⟨pv, lv, cv, rfl⟩ : ∃ p l c, v2 = .slice p l c := (by obtain ⟨p, c, e⟩ := ho.slice; exact ⟨p, _, c, e⟩)
              have HB5 : Hid (w5.heap[W.heap.size + 1]? = some (.cells #[vd, vo, vr] 27 (0, 0))) := Lib.hid (((Turned.of_grown hg).block _ (by have := HJ.out.szk; have := HE.out.1.size; simp; omega) (fun e => by have := (HJ.out.zr _ (HJ.out.r.lt _ e).1).1; omega)).trans ((Below.heap_alloc _ _ _ (by have := HJ.out.szk; have := HE.out.1.size; omega)).trans ((HE.out.1.block _ (by have := HJ.out.szk; omega) (by have := HJ.out.lt; omega)).trans HJ.out.box)))
              clear ho hg
              refine hK.out _ _ trivial (fun _ => ?_)
              clear hK K
              refine take1 6 22 (v := ?_) rfl rfl (by kernel_rfl) (by kernel_rfl) (by kernel_rfl) (fun _ _ _ h => h) (by kernel_rfl) ?_ trivial (by first | (simp only [put_norm]; exact rfl) | exact rfl) ?_
              rotate_left
              · rintro X0 -; go_simp; try (with_reducible rfl)
              obtain ⟨⟨b0, b1, b2⟩, k0, k1, k2⟩ := cells3 HB5.out
              refine wpAnyH_ready (rs := [7]) (by kernel_rfl) (by simp) ?_
              refine AllReadyH.cons rfl (fun K hK => ?_) AllReadyH.nil
              go_simp
              refine hK.out _ _ trivial (fun _ => ?_)
              clear hK K b0 b1 b2 k0 k1 k2
              refine wpAnyH_done (by kernel_rfl) ?_ _
              go_wp2_with fail
              go_roundw
              case rel => exact ⟨_, _, _, _, _, _, _, _, HN⟩
              case measure =>
                rw [HN.out.rd.left, hlW]
                have := fit_clause.eats _ _ _ HE.out.2.2.1
                rw [keys_len, keys_len] at this
                exact this
            refine AllReadyH.cons rfl (fun K hK => ?_) AllReadyH.nil
            go_simp
            refine hK.out _ _ trivial (fun _ => ?_)
            clear hK K
            refine wpAnyH_ready (rs := [1]) (by kernel_rfl) (by simp) ?_
            refine AllReadyH.cons rfl (fun K hK => ?_) AllReadyH.nil
            have cS := HS4.out
            go_simp
            refine hK.out _ _ trivial (fun _ => ?_)
            clear hK K cS
            refine wpAnyH_ready (rs := [5]) (by kernel_rfl) (by simp) ?_
            refine AllReadyH.cons rfl (fun K hK => ?_) AllReadyH.nil
            refine step_appZ ruY rfl (.tmp 17) (.tmp 20) 25 41 rfl Zr (fun k => w1.heap.size ≤ k ∧ k < w3.heap.size) (.agg #[.string ⟨#[]⟩, .slice none 0 0, .slice none 0 0]) 64 Tryz.underlying25 Tryz.infoRu rfl (by decide) (by decide) vr _ a [.string ⟨a.head.pred.toArray⟩, u, u2] w3.heap.size 1 rfl rfl HOw.out HX3.out (fun k e e2 => by have := hown k e2; omega) HCl.out hlenA ?_
            intro v2 w5 ho hg
            have HN := Lib.hid (HJ.out.step_r hnW HE.out.1 HE.out.2.1 keys_ne HE.out.2.2.1 HE.out.2.2.2 ho hg)
            obtain ⟨pv, lv, cv, rfl⟩ : ∃ p l c, v2 = .slice p l c := (by obtain ⟨p, c, e⟩ := ho.slice; exact ⟨p, _, c, e⟩)
            have HB5 : Hid (w5.heap[W.heap.size + 1]? = some (.cells #[vd, vo, vr] 27 (0, 0))) := Lib.hid (((Turned.of_grown hg).block _ (by have := HJ.out.szk; have := HE.out.1.size; simp; omega) (fun e => by have := (HJ.out.zr _ (HJ.out.r.lt _ e).1).1; omega)).trans ((Below.heap_alloc _ _ _ (by have := HJ.out.szk; have := HE.out.1.size; omega)).trans ((HE.out.1.block _ (by have := HJ.out.szk; omega) (by have := HJ.out.lt; omega)).trans HJ.out.box)))
            clear ho hg
            refine hK.out _ _ trivial (fun _ => ?_)
            clear hK K
            refine take1 6 22 (v := ?_) rfl rfl (by kernel_rfl) (by kernel_rfl) (by kernel_rfl) (fun _ _ _ h => h) (by kernel_rfl) ?_ trivial (by first | (simp only [put_norm]; exact rfl) | exact rfl) ?_
            rotate_left
            · rintro X0 -; go_simp; try (with_reducible rfl)
            obtain ⟨⟨b0, b1, b2⟩, k0, k1, k2⟩ := cells3 HB5.out
            refine wpAnyH_ready (rs := [7]) (by kernel_rfl) (by simp) ?_
            refine AllReadyH.cons rfl (fun K hK => ?_) AllReadyH.nil
            go_simp
            refine hK.out _ _ trivial (fun _ => ?_)
            clear hK K b0 b1 b2 k0 k1 k2
            refine wpAnyH_done (by kernel_rfl) ?_ _
            go_wp2_with fail
            go_roundw
            case rel => exact ⟨_, _, _, _, _, _, _, _, HN⟩
            case measure =>
              rw [HN.out.rd.left, hlW]
              have := fit_clause.eats _ _ _ HE.out.2.2.1
              rw [keys_len, keys_len] at this
              exact this
          · have HT : Hid (x.text = wOn) := Lib.hid (by rw [← hTx]; show T = [111, 110]; simpa using h3)
            clear hTx
            go_wp2_with fail
            have HS : Hid (w1.drew.cell? ⟨W.heap.size + 1, 1, none⟩ = some vo) := Lib.hid (cell_of_row w1 _ 1 _ _ (0, 0) HJ.out.box)
            refine wp_region_held_drew (S := fun _ => True) (by kernel_rfl) trivial (fun _ => ?_)
            refine take1 0 35 (v := ?_) rfl rfl (by kernel_rfl) (by kernel_rfl) (by kernel_rfl) (fun _ _ _ h => h) (by kernel_rfl) ?_ trivial (by first | (simp only [put_norm]; exact rfl) | exact rfl) ?_
            rotate_left
            · rintro X0 -; go_simp; try (with_reducible rfl)
            refine take1 2 37 (v := ?_) rfl rfl (by kernel_rfl) (by kernel_rfl) (by kernel_rfl) (fun _ _ _ h => h) (by kernel_rfl) ?_ trivial (by first | (simp only [put_norm]; exact rfl) | exact rfl) ?_
            rotate_left
            · rintro X0 -; go_simp; try (with_reducible rfl)
            refine wpAnyH_ready (rs := [1, 3]) (by kernel_rfl) (by simp) ?_
            refine AllReadyH.cons rfl (fun K hK => ?_) ?_
            · have cS := HS.out
              go_simp
              refine hK.out _ _ trivial (fun _ => ?_)
              clear hK K cS
              refine wpAnyH_ready (rs := [3]) (by kernel_rfl) (by simp) ?_
              refine AllReadyH.cons rfl (fun K hK => ?_) AllReadyH.nil
              go_simp
              refine (pon_any HJ.out.rd.drew HT.out).mono ?_
              rintro y w3 ⟨ht, ⟨a, L4, v1, hp, hs, rfl, hv, hr⟩ | ⟨L4, hp, hs, rfl⟩⟩
              rotate_left
              · exact ⟨rfl, Only.turned (HJ.out.only.drew.on ht), .inr ⟨L4, HJ.out.eq.trans (contP_bad keys_ne ((clause_on HJ.out.rd.tidy HT.out).trans (bind_bad hp))), hs.trans HJ.out.suf, rfl⟩⟩
              obtain ⟨u, u2, rfl, hu, hu2⟩ := hv
              have HE : Hid (Turned (fun k => k = b) w1 w3 ∧ Rp n w3 b L4 e ∧ clauseR (keys (x :: L2)) = .ok (.on a) (keys L4) ∧ L4 <:+ x :: L2) := Lib.hid ⟨⟨ht.os, ht.tape, ht.output, ht.size, ht.block⟩, hr, (clause_on HJ.out.rd.tidy HT.out).trans ((bind_ok hp).trans rfl), hs⟩
              have hown : ∀ k, vo.ownBlock = some k → k < w1.heap.size := fun k e => (HJ.out.o.lt k e).2
              have HX3 : Hid (onY.is (fun k => w1.heap.size ≤ k ∧ k < w3.heap.size) (w3.alloc (.cells #[.string ⟨a.event.toArray⟩, u, u2] 72)) [.string ⟨a.event.toArray⟩, u, u2] a) := Lib.hid ⟨u, u2, rfl, hu.keep (by simp) fun k e hk => ⟨⟨e, hk⟩, Below.heap_alloc _ _ _ hk⟩, hu2.keep (by simp) fun k e hk => ⟨⟨e, hk⟩, Below.heap_alloc _ _ _ hk⟩⟩
              have hb3 : ∀ k, W.heap.size + 1 = k → w3.heap[k]? = w1.heap[k]? := fun k e => HE.out.1.block k (by have := HJ.out.szk; omega) (by have := HJ.out.lt; omega)
              have HS3 : Hid (w3.cell? ⟨W.heap.size + 1, 1, none⟩ = some vo) := Lib.hid (cell_of_row w3 _ 1 _ _ (0, 0) ((hb3 _ rfl).trans HJ.out.box))
              have HS4 : Hid ((w3.alloc (.cells #[.string ⟨a.event.toArray⟩, u, u2] 72)).cell? ⟨W.heap.size + 1, 1, none⟩ = some vo) := Lib.hid ((World.cell?_alloc_some _ _ _ (by rw [HS3.out]; rfl)).trans HS3.out)
              have HOw : Hid (RowZ onY 72 Zo (w3.alloc (.cells #[.string ⟨a.event.toArray⟩, u, u2] 72)) vo (ofCs cs).ons) := Lib.hid (HJ.out.o.keep (by have := HE.out.1.size; simp; omega) fun k e hk => ⟨e, (Below.heap_alloc _ _ _ (Nat.lt_of_lt_of_le hk HE.out.1.size)).trans (HE.out.1.block k hk (by have := (HJ.out.zo k e).1; have := HJ.out.lt; omega))⟩)
              have hlenA : (ofCs cs).ons.length ≤ 1000000 := by have := HJ.out.len; have := HR.out.len; have := ofCs_len cs; omega
              have HCl : Hid (∀ j u', ([.string ⟨a.event.toArray⟩, u, u2] : List Value)[j]? = some u' → (w3.alloc (.cells #[.string ⟨a.event.toArray⟩, u, u2] 72)).cell? ⟨w3.heap.size, 0 + j, none⟩ = some u') := Lib.hid (lit_rowcells w3 [.string ⟨a.event.toArray⟩, u, u2] _)
              clear ht hp hs hr hb3
              go_wp2_with fail
              refine hK.out _ _ trivial (fun _ => ?_)
              clear hK K
              refine wpAnyH_ready (rs := [4]) (by kernel_rfl) (by simp) ?_
              refine AllReadyH.cons rfl (fun K hK => ?_) AllReadyH.nil
              go_simp
              refine hK.out _ _ trivial (fun _ => ?_)
              clear hK K
              refine wpAnyH_ready (rs := [5]) (by kernel_rfl) (by simp) ?_
              refine AllReadyH.cons rfl (fun K hK => ?_) AllReadyH.nil
              refine step_appZ onY rfl (.tmp 36) (.tmp 39) 24 72 rfl Zo (fun k => w1.heap.size ≤ k ∧ k < w3.heap.size) (.agg #[.string ⟨#[]⟩, .slice none 0 0, .slice none 0 0]) 64 Tryz.underlying24 Tryz.infoOn rfl (by decide) (by decide) vo _ a [.string ⟨a.event.toArray⟩, u, u2] w3.heap.size 1 rfl rfl HOw.out HX3.out (fun k e e2 => by have := hown k e2; omega) HCl.out hlenA ?_
              intro v2 w5 ho hg
              have HN := Lib.hid (HJ.out.step_o hnW HE.out.1 HE.out.2.1 keys_ne HE.out.2.2.1 HE.out.2.2.2 ho hg)
              obtain ⟨pv, lv, cv, rfl⟩ : ∃ p l c, v2 = .slice p l c := (by obtain ⟨p, c, e⟩ := ho.slice; exact ⟨p, _, c, e⟩)
              have HB5 : Hid (w5.heap[W.heap.size + 1]? = some (.cells #[vd, vo, vr] 27 (0, 0))) := Lib.hid (((Turned.of_grown hg).block _ (by have := HJ.out.szk; have := HE.out.1.size; simp; omega) (fun e => by have := (HJ.out.zo _ (HJ.out.o.lt _ e).1).1; omega)).trans ((Below.heap_alloc _ _ _ (by have := HJ.out.szk; have := HE.out.1.size; omega)).trans ((HE.out.1.block _ (by have := HJ.out.szk; omega) (by have := HJ.out.lt; omega)).trans HJ.out.box)))
              clear ho hg
              refine hK.out _ _ trivial (fun _ => ?_)
              clear hK K
              refine take1 6 41 (v := ?_) rfl rfl (by kernel_rfl) (by kernel_rfl) (by kernel_rfl) (fun _ _ _ h => h) (by kernel_rfl) ?_ trivial (by first | (simp only [put_norm]; exact rfl) | exact rfl) ?_
              rotate_left
              · rintro X0 -; go_simp; try (with_reducible rfl)
              obtain ⟨⟨b0, b1, b2⟩, k0, k1, k2⟩ := cells3 HB5.out
              refine wpAnyH_ready (rs := [7]) (by kernel_rfl) (by simp) ?_
              refine AllReadyH.cons rfl (fun K hK => ?_) AllReadyH.nil
              go_simp
              refine hK.out _ _ trivial (fun _ => ?_)
              clear hK K b0 b1 b2 k0 k1 k2
              refine wpAnyH_done (by kernel_rfl) ?_ _
              go_wp2_with fail
              go_roundw
              case rel => exact ⟨_, _, _, _, _, _, _, _, HN⟩
              case measure =>
                rw [HN.out.rd.left, hlW]
                have := fit_clause.eats _ _ _ HE.out.2.2.1
                rw [keys_len, keys_len] at this
                exact this
            refine AllReadyH.cons rfl (fun K hK => ?_) AllReadyH.nil
            go_simp
            refine (pon_any HJ.out.rd.drew HT.out).mono ?_
            rintro y w3 ⟨ht, ⟨a, L4, v1, hp, hs, rfl, hv, hr⟩ | ⟨L4, hp, hs, rfl⟩⟩
            rotate_left
            · exact ⟨rfl, Only.turned (HJ.out.only.drew.on ht), .inr ⟨L4, HJ.out.eq.trans (contP_bad keys_ne ((clause_on HJ.out.rd.tidy HT.out).trans (bind_bad hp))), hs.trans HJ.out.suf, rfl⟩⟩
            obtain ⟨u, u2, rfl, hu, hu2⟩ := hv
            have HE : Hid (Turned (fun k => k = b) w1 w3 ∧ Rp n w3 b L4 e ∧ clauseR (keys (x :: L2)) = .ok (.on a) (keys L4) ∧ L4 <:+ x :: L2) := Lib.hid ⟨⟨ht.os, ht.tape, ht.output, ht.size, ht.block⟩, hr, (clause_on HJ.out.rd.tidy HT.out).trans ((bind_ok hp).trans rfl), hs⟩
            have hown : ∀ k, vo.ownBlock = some k → k < w1.heap.size := fun k e => (HJ.out.o.lt k e).2
            have HX3 : Hid (onY.is (fun k => w1.heap.size ≤ k ∧ k < w3.heap.size) (w3.alloc (.cells #[.string ⟨a.event.toArray⟩, u, u2] 72)) [.string ⟨a.event.toArray⟩, u, u2] a) := Lib.hid ⟨u, u2, rfl, hu.keep (by simp) fun k e hk => ⟨⟨e, hk⟩, Below.heap_alloc _ _ _ hk⟩, hu2.keep (by simp) fun k e hk => ⟨⟨e, hk⟩, Below.heap_alloc _ _ _ hk⟩⟩
            have hb3 : ∀ k, W.heap.size + 1 = k → w3.heap[k]? = w1.heap[k]? := fun k e => HE.out.1.block k (by have := HJ.out.szk; omega) (by have := HJ.out.lt; omega)
            have HS3 : Hid (w3.cell? ⟨W.heap.size + 1, 1, none⟩ = some vo) := Lib.hid (cell_of_row w3 _ 1 _ _ (0, 0) ((hb3 _ rfl).trans HJ.out.box))
            have HS4 : Hid ((w3.alloc (.cells #[.string ⟨a.event.toArray⟩, u, u2] 72)).cell? ⟨W.heap.size + 1, 1, none⟩ = some vo) := Lib.hid ((World.cell?_alloc_some _ _ _ (by rw [HS3.out]; rfl)).trans HS3.out)
            have HOw : Hid (RowZ onY 72 Zo (w3.alloc (.cells #[.string ⟨a.event.toArray⟩, u, u2] 72)) vo (ofCs cs).ons) := Lib.hid (HJ.out.o.keep (by have := HE.out.1.size; simp; omega) fun k e hk => ⟨e, (Below.heap_alloc _ _ _ (Nat.lt_of_lt_of_le hk HE.out.1.size)).trans (HE.out.1.block k hk (by have := (HJ.out.zo k e).1; have := HJ.out.lt; omega))⟩)
            have hlenA : (ofCs cs).ons.length ≤ 1000000 := by have := HJ.out.len; have := HR.out.len; have := ofCs_len cs; omega
            have HCl : Hid (∀ j u', ([.string ⟨a.event.toArray⟩, u, u2] : List Value)[j]? = some u' → (w3.alloc (.cells #[.string ⟨a.event.toArray⟩, u, u2] 72)).cell? ⟨w3.heap.size, 0 + j, none⟩ = some u') := Lib.hid (lit_rowcells w3 [.string ⟨a.event.toArray⟩, u, u2] _)
            clear ht hp hs hr hb3
            go_wp2_with fail
            refine hK.out _ _ trivial (fun _ => ?_)
            clear hK K
            refine wpAnyH_ready (rs := [1, 4]) (by kernel_rfl) (by simp) ?_
            refine AllReadyH.cons rfl (fun K hK => ?_) ?_
            · have cS := HS3.out
              go_simp
              refine hK.out _ _ trivial (fun _ => ?_)
              clear hK K cS
              refine wpAnyH_ready (rs := [4]) (by kernel_rfl) (by simp) ?_
              refine AllReadyH.cons rfl (fun K hK => ?_) AllReadyH.nil
              go_simp
              refine hK.out _ _ trivial (fun _ => ?_)
              clear hK K
              refine wpAnyH_ready (rs := [5]) (by kernel_rfl) (by simp) ?_
              refine AllReadyH.cons rfl (fun K hK => ?_) AllReadyH.nil
              refine step_appZ onY rfl (.tmp 36) (.tmp 39) 24 72 rfl Zo (fun k => w1.heap.size ≤ k ∧ k < w3.heap.size) (.agg #[.string ⟨#[]⟩, .slice none 0 0, .slice none 0 0]) 64 Tryz.underlying24 Tryz.infoOn rfl (by decide) (by decide) vo _ a [.string ⟨a.event.toArray⟩, u, u2] w3.heap.size 1 rfl rfl HOw.out HX3.out (fun k e e2 => by have := hown k e2; omega) HCl.out hlenA ?_
              intro v2 w5 ho hg
              have HN := Lib.hid (HJ.out.step_o hnW HE.out.1 HE.out.2.1 keys_ne HE.out.2.2.1 HE.out.2.2.2 ho hg)
              obtain ⟨pv, lv, cv, rfl⟩ : ∃ p l c, v2 = .slice p l c := (by obtain ⟨p, c, e⟩ := ho.slice; exact ⟨p, _, c, e⟩)
              have HB5 : Hid (w5.heap[W.heap.size + 1]? = some (.cells #[vd, vo, vr] 27 (0, 0))) := Lib.hid (((Turned.of_grown hg).block _ (by have := HJ.out.szk; have := HE.out.1.size; simp; omega) (fun e => by have := (HJ.out.zo _ (HJ.out.o.lt _ e).1).1; omega)).trans ((Below.heap_alloc _ _ _ (by have := HJ.out.szk; have := HE.out.1.size; omega)).trans ((HE.out.1.block _ (by have := HJ.out.szk; omega) (by have := HJ.out.lt; omega)).trans HJ.out.box)))
              clear ho hg
              refine hK.out _ _ trivial (fun _ => ?_)
              clear hK K
              refine take1 6 41 (v := ?_) rfl rfl (by kernel_rfl) (by kernel_rfl) (by kernel_rfl) (fun _ _ _ h => h) (by kernel_rfl) ?_ trivial (by first | (simp only [put_norm]; exact rfl) | exact rfl) ?_
              rotate_left
              · rintro X0 -; go_simp; try (with_reducible rfl)
              obtain ⟨⟨b0, b1, b2⟩, k0, k1, k2⟩ := cells3 HB5.out
              refine wpAnyH_ready (rs := [7]) (by kernel_rfl) (by simp) ?_
              refine AllReadyH.cons rfl (fun K hK => ?_) AllReadyH.nil
              go_simp
              refine hK.out _ _ trivial (fun _ => ?_)
              clear hK K b0 b1 b2 k0 k1 k2
              refine wpAnyH_done (by kernel_rfl) ?_ _
              go_wp2_with fail
              go_roundw
              case rel => exact ⟨_, _, _, _, _, _, _, _, HN⟩
              case measure =>
                rw [HN.out.rd.left, hlW]
                have := fit_clause.eats _ _ _ HE.out.2.2.1
                rw [keys_len, keys_len] at this
                exact this
            refine AllReadyH.cons rfl (fun K hK => ?_) AllReadyH.nil
            go_simp
            refine hK.out _ _ trivial (fun _ => ?_)
            clear hK K
            refine wpAnyH_ready (rs := [1]) (by kernel_rfl) (by simp) ?_
            refine AllReadyH.cons rfl (fun K hK => ?_) AllReadyH.nil
            have cS := HS4.out
            go_simp
            refine hK.out _ _ trivial (fun _ => ?_)
            clear hK K cS
            refine wpAnyH_ready (rs := [5]) (by kernel_rfl) (by simp) ?_
            refine AllReadyH.cons rfl (fun K hK => ?_) AllReadyH.nil
            refine step_appZ onY rfl (.tmp 36) (.tmp 39) 24 72 rfl Zo (fun k => w1.heap.size ≤ k ∧ k < w3.heap.size) (.agg #[.string ⟨#[]⟩, .slice none 0 0, .slice none 0 0]) 64 Tryz.underlying24 Tryz.infoOn rfl (by decide) (by decide) vo _ a [.string ⟨a.event.toArray⟩, u, u2] w3.heap.size 1 rfl rfl HOw.out HX3.out (fun k e e2 => by have := hown k e2; omega) HCl.out hlenA ?_
            intro v2 w5 ho hg
            have HN := Lib.hid (HJ.out.step_o hnW HE.out.1 HE.out.2.1 keys_ne HE.out.2.2.1 HE.out.2.2.2 ho hg)
            obtain ⟨pv, lv, cv, rfl⟩ : ∃ p l c, v2 = .slice p l c := (by obtain ⟨p, c, e⟩ := ho.slice; exact ⟨p, _, c, e⟩)
            have HB5 : Hid (w5.heap[W.heap.size + 1]? = some (.cells #[vd, vo, vr] 27 (0, 0))) := Lib.hid (((Turned.of_grown hg).block _ (by have := HJ.out.szk; have := HE.out.1.size; simp; omega) (fun e => by have := (HJ.out.zo _ (HJ.out.o.lt _ e).1).1; omega)).trans ((Below.heap_alloc _ _ _ (by have := HJ.out.szk; have := HE.out.1.size; omega)).trans ((HE.out.1.block _ (by have := HJ.out.szk; omega) (by have := HJ.out.lt; omega)).trans HJ.out.box)))
            clear ho hg
            refine hK.out _ _ trivial (fun _ => ?_)
            clear hK K
            refine take1 6 41 (v := ?_) rfl rfl (by kernel_rfl) (by kernel_rfl) (by kernel_rfl) (fun _ _ _ h => h) (by kernel_rfl) ?_ trivial (by first | (simp only [put_norm]; exact rfl) | exact rfl) ?_
            rotate_left
            · rintro X0 -; go_simp; try (with_reducible rfl)
            obtain ⟨⟨b0, b1, b2⟩, k0, k1, k2⟩ := cells3 HB5.out
            refine wpAnyH_ready (rs := [7]) (by kernel_rfl) (by simp) ?_
            refine AllReadyH.cons rfl (fun K hK => ?_) AllReadyH.nil
            go_simp
            refine hK.out _ _ trivial (fun _ => ?_)
            clear hK K b0 b1 b2 k0 k1 k2
            refine wpAnyH_done (by kernel_rfl) ?_ _
            go_wp2_with fail
            go_roundw
            case rel => exact ⟨_, _, _, _, _, _, _, _, HN⟩
            case measure =>
              rw [HN.out.rd.left, hlW]
              have := fit_clause.eats _ _ _ HE.out.2.2.1
              rw [keys_len, keys_len] at this
              exact this
        · have HT : Hid (x.text = wBase ∨ x.text = wView) := Lib.hid (.inr (by rw [← hTx]; show T = [118, 105, 101, 119]; simpa using h2))
          clear hTx
          go_wp2_with fail
          have HS : Hid (w1.drew.cell? ⟨W.heap.size + 1, 0, none⟩ = some vd) := Lib.hid (cell_of_row w1 _ 0 _ _ (0, 0) HJ.out.box)
          refine wp_region_held_drew (S := fun _ => True) (by kernel_rfl) trivial (fun _ => ?_)
          refine take1 0 26 (v := ?_) rfl rfl (by kernel_rfl) (by kernel_rfl) (by kernel_rfl) (fun _ _ _ h => h) (by kernel_rfl) ?_ trivial (by first | (simp only [put_norm]; exact rfl) | exact rfl) ?_
          rotate_left
          · rintro X0 -; go_simp; try (with_reducible rfl)
          refine take1 2 28 (v := ?_) rfl rfl (by kernel_rfl) (by kernel_rfl) (by kernel_rfl) (fun _ _ _ h => h) (by kernel_rfl) ?_ trivial (by first | (simp only [put_norm]; exact rfl) | exact rfl) ?_
          rotate_left
          · rintro X0 -; go_simp; try (with_reducible rfl)
          refine wpAnyH_ready (rs := [1, 3]) (by kernel_rfl) (by simp) ?_
          refine AllReadyH.cons rfl (fun K hK => ?_) ?_
          · have cS := HS.out
            go_simp
            refine hK.out _ _ trivial (fun _ => ?_)
            clear hK K cS
            refine wpAnyH_ready (rs := [3]) (by kernel_rfl) (by simp) ?_
            refine AllReadyH.cons rfl (fun K hK => ?_) AllReadyH.nil
            go_simp
            refine (pdecl_any HJ.out.rd.drew HT.out).mono ?_
            rintro y w3 ⟨ht, ⟨a, L4, v1, hp, hs, rfl, hv, hr⟩ | ⟨L4, hp, hs, rfl⟩⟩
            rotate_left
            · exact ⟨rfl, Only.turned (HJ.out.only.drew.on ht), .inr ⟨L4, HJ.out.eq.trans (contP_bad keys_ne ((clause_decl HJ.out.rd.tidy HT.out).trans (bind_bad hp))), hs.trans HJ.out.suf, rfl⟩⟩
            obtain ⟨u, rfl, hu⟩ := hv
            have HE : Hid (Turned (fun k => k = b) w1 w3 ∧ Rp n w3 b L4 e ∧ clauseR (keys (x :: L2)) = .ok (.decl a) (keys L4) ∧ L4 <:+ x :: L2) := Lib.hid ⟨⟨ht.os, ht.tape, ht.output, ht.size, ht.block⟩, hr, (clause_decl HJ.out.rd.tidy HT.out).trans ((bind_ok hp).trans rfl), hs⟩
            have hown : ∀ k, vd.ownBlock = some k → k < w1.heap.size := fun k e => (HJ.out.d.lt k e).2
            have HX3 : Hid (deY.is (fun k => w1.heap.size ≤ k ∧ k < w3.heap.size) (w3.alloc (.cells #[.string ⟨a.name.toArray⟩, .bool a.base, u] 67)) [.string ⟨a.name.toArray⟩, .bool a.base, u] a) := Lib.hid ⟨u, rfl, hu.keep (by simp) fun k e hk => ⟨⟨e, hk⟩, Below.heap_alloc _ _ _ hk⟩⟩
            have hb3 : ∀ k, W.heap.size + 1 = k → w3.heap[k]? = w1.heap[k]? := fun k e => HE.out.1.block k (by have := HJ.out.szk; omega) (by have := HJ.out.lt; omega)
            have HS3 : Hid (w3.cell? ⟨W.heap.size + 1, 0, none⟩ = some vd) := Lib.hid (cell_of_row w3 _ 0 _ _ (0, 0) ((hb3 _ rfl).trans HJ.out.box))
            have HS4 : Hid ((w3.alloc (.cells #[.string ⟨a.name.toArray⟩, .bool a.base, u] 67)).cell? ⟨W.heap.size + 1, 0, none⟩ = some vd) := Lib.hid ((World.cell?_alloc_some _ _ _ (by rw [HS3.out]; rfl)).trans HS3.out)
            have HOw : Hid (RowZ deY 67 Zd (w3.alloc (.cells #[.string ⟨a.name.toArray⟩, .bool a.base, u] 67)) vd (ofCs cs).decls) := Lib.hid (HJ.out.d.keep (by have := HE.out.1.size; simp; omega) fun k e hk => ⟨e, (Below.heap_alloc _ _ _ (Nat.lt_of_lt_of_le hk HE.out.1.size)).trans (HE.out.1.block k hk (by have := (HJ.out.zd k e).1; have := HJ.out.lt; omega))⟩)
            have hlenA : (ofCs cs).decls.length ≤ 1000000 := by have := HJ.out.len; have := HR.out.len; have := ofCs_len cs; omega
            have HCl : Hid (∀ j u', ([.string ⟨a.name.toArray⟩, .bool a.base, u] : List Value)[j]? = some u' → (w3.alloc (.cells #[.string ⟨a.name.toArray⟩, .bool a.base, u] 67)).cell? ⟨w3.heap.size, 0 + j, none⟩ = some u') := Lib.hid (lit_rowcells w3 [.string ⟨a.name.toArray⟩, .bool a.base, u] _)
            clear ht hp hs hr hb3
            go_wp2_with fail
            refine hK.out _ _ trivial (fun _ => ?_)
            clear hK K
            refine wpAnyH_ready (rs := [4]) (by kernel_rfl) (by simp) ?_
            refine AllReadyH.cons rfl (fun K hK => ?_) AllReadyH.nil
            go_simp
            refine hK.out _ _ trivial (fun _ => ?_)
            clear hK K
            refine wpAnyH_ready (rs := [5]) (by kernel_rfl) (by simp) ?_
            refine AllReadyH.cons rfl (fun K hK => ?_) AllReadyH.nil
            refine step_appZ deY rfl (.tmp 27) (.tmp 30) 23 67 rfl Zd (fun k => w1.heap.size ≤ k ∧ k < w3.heap.size) (.agg #[.string ⟨#[]⟩, .bool false, .slice none 0 0]) 48 Tryz.underlying23 Tryz.infoDe rfl (by decide) (by decide) vd _ a [.string ⟨a.name.toArray⟩, .bool a.base, u] w3.heap.size 1 rfl rfl HOw.out HX3.out (fun k e e2 => by have := hown k e2; omega) HCl.out hlenA ?_
            intro v2 w5 ho hg
            have HN := Lib.hid (HJ.out.step_d hnW HE.out.1 HE.out.2.1 keys_ne HE.out.2.2.1 HE.out.2.2.2 ho hg)
            obtain ⟨pv, lv, cv, rfl⟩ : ∃ p l c, v2 = .slice p l c := (by obtain ⟨p, c, e⟩ := ho.slice; exact ⟨p, _, c, e⟩)
            have HB5 : Hid (w5.heap[W.heap.size + 1]? = some (.cells #[vd, vo, vr] 27 (0, 0))) := Lib.hid (((Turned.of_grown hg).block _ (by have := HJ.out.szk; have := HE.out.1.size; simp; omega) (fun e => by have := (HJ.out.zd _ (HJ.out.d.lt _ e).1).1; omega)).trans ((Below.heap_alloc _ _ _ (by have := HJ.out.szk; have := HE.out.1.size; omega)).trans ((HE.out.1.block _ (by have := HJ.out.szk; omega) (by have := HJ.out.lt; omega)).trans HJ.out.box)))
            clear ho hg
            refine hK.out _ _ trivial (fun _ => ?_)
            clear hK K
            refine take1 6 32 (v := ?_) rfl rfl (by kernel_rfl) (by kernel_rfl) (by kernel_rfl) (fun _ _ _ h => h) (by kernel_rfl) ?_ trivial (by first | (simp only [put_norm]; exact rfl) | exact rfl) ?_
            rotate_left
            · rintro X0 -; go_simp; try (with_reducible rfl)
            obtain ⟨⟨b0, b1, b2⟩, k0, k1, k2⟩ := cells3 HB5.out
            refine wpAnyH_ready (rs := [7]) (by kernel_rfl) (by simp) ?_
            refine AllReadyH.cons rfl (fun K hK => ?_) AllReadyH.nil
            go_simp
            refine hK.out _ _ trivial (fun _ => ?_)
            clear hK K b0 b1 b2 k0 k1 k2
            refine wpAnyH_done (by kernel_rfl) ?_ _
            go_wp2_with fail
            go_roundw
            case rel => exact ⟨_, _, _, _, _, _, _, _, HN⟩
            case measure =>
              rw [HN.out.rd.left, hlW]
              have := fit_clause.eats _ _ _ HE.out.2.2.1
              rw [keys_len, keys_len] at this
              exact this
          refine AllReadyH.cons rfl (fun K hK => ?_) AllReadyH.nil
          go_simp
          refine (pdecl_any HJ.out.rd.drew HT.out).mono ?_
          rintro y w3 ⟨ht, ⟨a, L4, v1, hp, hs, rfl, hv, hr⟩ | ⟨L4, hp, hs, rfl⟩⟩
          rotate_left
          · exact ⟨rfl, Only.turned (HJ.out.only.drew.on ht), .inr ⟨L4, HJ.out.eq.trans (contP_bad keys_ne ((clause_decl HJ.out.rd.tidy HT.out).trans (bind_bad hp))), hs.trans HJ.out.suf, rfl⟩⟩
          obtain ⟨u, rfl, hu⟩ := hv
          have HE : Hid (Turned (fun k => k = b) w1 w3 ∧ Rp n w3 b L4 e ∧ clauseR (keys (x :: L2)) = .ok (.decl a) (keys L4) ∧ L4 <:+ x :: L2) := Lib.hid ⟨⟨ht.os, ht.tape, ht.output, ht.size, ht.block⟩, hr, (clause_decl HJ.out.rd.tidy HT.out).trans ((bind_ok hp).trans rfl), hs⟩
          have hown : ∀ k, vd.ownBlock = some k → k < w1.heap.size := fun k e => (HJ.out.d.lt k e).2
          have HX3 : Hid (deY.is (fun k => w1.heap.size ≤ k ∧ k < w3.heap.size) (w3.alloc (.cells #[.string ⟨a.name.toArray⟩, .bool a.base, u] 67)) [.string ⟨a.name.toArray⟩, .bool a.base, u] a) := Lib.hid ⟨u, rfl, hu.keep (by simp) fun k e hk => ⟨⟨e, hk⟩, Below.heap_alloc _ _ _ hk⟩⟩
          have hb3 : ∀ k, W.heap.size + 1 = k → w3.heap[k]? = w1.heap[k]? := fun k e => HE.out.1.block k (by have := HJ.out.szk; omega) (by have := HJ.out.lt; omega)
          have HS3 : Hid (w3.cell? ⟨W.heap.size + 1, 0, none⟩ = some vd) := Lib.hid (cell_of_row w3 _ 0 _ _ (0, 0) ((hb3 _ rfl).trans HJ.out.box))
          have HS4 : Hid ((w3.alloc (.cells #[.string ⟨a.name.toArray⟩, .bool a.base, u] 67)).cell? ⟨W.heap.size + 1, 0, none⟩ = some vd) := Lib.hid ((World.cell?_alloc_some _ _ _ (by rw [HS3.out]; rfl)).trans HS3.out)
          have HOw : Hid (RowZ deY 67 Zd (w3.alloc (.cells #[.string ⟨a.name.toArray⟩, .bool a.base, u] 67)) vd (ofCs cs).decls) := Lib.hid (HJ.out.d.keep (by have := HE.out.1.size; simp; omega) fun k e hk => ⟨e, (Below.heap_alloc _ _ _ (Nat.lt_of_lt_of_le hk HE.out.1.size)).trans (HE.out.1.block k hk (by have := (HJ.out.zd k e).1; have := HJ.out.lt; omega))⟩)
          have hlenA : (ofCs cs).decls.length ≤ 1000000 := by have := HJ.out.len; have := HR.out.len; have := ofCs_len cs; omega
          have HCl : Hid (∀ j u', ([.string ⟨a.name.toArray⟩, .bool a.base, u] : List Value)[j]? = some u' → (w3.alloc (.cells #[.string ⟨a.name.toArray⟩, .bool a.base, u] 67)).cell? ⟨w3.heap.size, 0 + j, none⟩ = some u') := Lib.hid (lit_rowcells w3 [.string ⟨a.name.toArray⟩, .bool a.base, u] _)
          clear ht hp hs hr hb3
          go_wp2_with fail
          refine hK.out _ _ trivial (fun _ => ?_)
          clear hK K
          refine wpAnyH_ready (rs := [1, 4]) (by kernel_rfl) (by simp) ?_
          refine AllReadyH.cons rfl (fun K hK => ?_) ?_
          · have cS := HS3.out
            go_simp
            refine hK.out _ _ trivial (fun _ => ?_)
            clear hK K cS
            refine wpAnyH_ready (rs := [4]) (by kernel_rfl) (by simp) ?_
            refine AllReadyH.cons rfl (fun K hK => ?_) AllReadyH.nil
            go_simp
            refine hK.out _ _ trivial (fun _ => ?_)
            clear hK K
            refine wpAnyH_ready (rs := [5]) (by kernel_rfl) (by simp) ?_
            refine AllReadyH.cons rfl (fun K hK => ?_) AllReadyH.nil
            refine step_appZ deY rfl (.tmp 27) (.tmp 30) 23 67 rfl Zd (fun k => w1.heap.size ≤ k ∧ k < w3.heap.size) (.agg #[.string ⟨#[]⟩, .bool false, .slice none 0 0]) 48 Tryz.underlying23 Tryz.infoDe rfl (by decide) (by decide) vd _ a [.string ⟨a.name.toArray⟩, .bool a.base, u] w3.heap.size 1 rfl rfl HOw.out HX3.out (fun k e e2 => by have := hown k e2; omega) HCl.out hlenA ?_
            intro v2 w5 ho hg
            have HN := Lib.hid (HJ.out.step_d hnW HE.out.1 HE.out.2.1 keys_ne HE.out.2.2.1 HE.out.2.2.2 ho hg)
            obtain ⟨pv, lv, cv, rfl⟩ : ∃ p l c, v2 = .slice p l c := (by obtain ⟨p, c, e⟩ := ho.slice; exact ⟨p, _, c, e⟩)
            have HB5 : Hid (w5.heap[W.heap.size + 1]? = some (.cells #[vd, vo, vr] 27 (0, 0))) := Lib.hid (((Turned.of_grown hg).block _ (by have := HJ.out.szk; have := HE.out.1.size; simp; omega) (fun e => by have := (HJ.out.zd _ (HJ.out.d.lt _ e).1).1; omega)).trans ((Below.heap_alloc _ _ _ (by have := HJ.out.szk; have := HE.out.1.size; omega)).trans ((HE.out.1.block _ (by have := HJ.out.szk; omega) (by have := HJ.out.lt; omega)).trans HJ.out.box)))
            clear ho hg
            refine hK.out _ _ trivial (fun _ => ?_)
            clear hK K
            refine take1 6 32 (v := ?_) rfl rfl (by kernel_rfl) (by kernel_rfl) (by kernel_rfl) (fun _ _ _ h => h) (by kernel_rfl) ?_ trivial (by first | (simp only [put_norm]; exact rfl) | exact rfl) ?_
            rotate_left
            · rintro X0 -; go_simp; try (with_reducible rfl)
            obtain ⟨⟨b0, b1, b2⟩, k0, k1, k2⟩ := cells3 HB5.out
            refine wpAnyH_ready (rs := [7]) (by kernel_rfl) (by simp) ?_
            refine AllReadyH.cons rfl (fun K hK => ?_) AllReadyH.nil
            go_simp
            refine hK.out _ _ trivial (fun _ => ?_)
            clear hK K b0 b1 b2 k0 k1 k2
            refine wpAnyH_done (by kernel_rfl) ?_ _
            go_wp2_with fail
            go_roundw
            case rel => exact ⟨_, _, _, _, _, _, _, _, HN⟩
            case measure =>
              rw [HN.out.rd.left, hlW]
              have := fit_clause.eats _ _ _ HE.out.2.2.1
              rw [keys_len, keys_len] at this
              exact this
          refine AllReadyH.cons rfl (fun K hK => ?_) AllReadyH.nil
          go_simp
          refine hK.out _ _ trivial (fun _ => ?_)
          clear hK K
          refine wpAnyH_ready (rs := [1]) (by kernel_rfl) (by simp) ?_
          refine AllReadyH.cons rfl (fun K hK => ?_) AllReadyH.nil
          have cS := HS4.out
          go_simp
          refine hK.out _ _ trivial (fun _ => ?_)
          clear hK K cS
          refine wpAnyH_ready (rs := [5]) (by kernel_rfl) (by simp) ?_
          refine AllReadyH.cons rfl (fun K hK => ?_) AllReadyH.nil
          refine step_appZ deY rfl (.tmp 27) (.tmp 30) 23 67 rfl Zd (fun k => w1.heap.size ≤ k ∧ k < w3.heap.size) (.agg #[.string ⟨#[]⟩, .bool false, .slice none 0 0]) 48 Tryz.underlying23 Tryz.infoDe rfl (by decide) (by decide) vd _ a [.string ⟨a.name.toArray⟩, .bool a.base, u] w3.heap.size 1 rfl rfl HOw.out HX3.out (fun k e e2 => by have := hown k e2; omega) HCl.out hlenA ?_
          intro v2 w5 ho hg
          have HN := Lib.hid (HJ.out.step_d hnW HE.out.1 HE.out.2.1 keys_ne HE.out.2.2.1 HE.out.2.2.2 ho hg)
          obtain ⟨pv, lv, cv, rfl⟩ : ∃ p l c, v2 = .slice p l c := (by obtain ⟨p, c, e⟩ := ho.slice; exact ⟨p, _, c, e⟩)
          have HB5 : Hid (w5.heap[W.heap.size + 1]? = some (.cells #[vd, vo, vr] 27 (0, 0))) := Lib.hid (((Turned.of_grown hg).block _ (by have := HJ.out.szk; have := HE.out.1.size; simp; omega) (fun e => by have := (HJ.out.zd _ (HJ.out.d.lt _ e).1).1; omega)).trans ((Below.heap_alloc _ _ _ (by have := HJ.out.szk; have := HE.out.1.size; omega)).trans ((HE.out.1.block _ (by have := HJ.out.szk; omega) (by have := HJ.out.lt; omega)).trans HJ.out.box)))
          clear ho hg
          refine hK.out _ _ trivial (fun _ => ?_)
          clear hK K
          refine take1 6 32 (v := ?_) rfl rfl (by kernel_rfl) (by kernel_rfl) (by kernel_rfl) (fun _ _ _ h => h) (by kernel_rfl) ?_ trivial (by first | (simp only [put_norm]; exact rfl) | exact rfl) ?_
          rotate_left
          · rintro X0 -; go_simp; try (with_reducible rfl)
          obtain ⟨⟨b0, b1, b2⟩, k0, k1, k2⟩ := cells3 HB5.out
          refine wpAnyH_ready (rs := [7]) (by kernel_rfl) (by simp) ?_
          refine AllReadyH.cons rfl (fun K hK => ?_) AllReadyH.nil
          go_simp
          refine hK.out _ _ trivial (fun _ => ?_)
          clear hK K b0 b1 b2 k0 k1 k2
          refine wpAnyH_done (by kernel_rfl) ?_ _
          go_wp2_with fail
          go_roundw
          case rel => exact ⟨_, _, _, _, _, _, _, _, HN⟩
          case measure =>
            rw [HN.out.rd.left, hlW]
            have := fit_clause.eats _ _ _ HE.out.2.2.1
            rw [keys_len, keys_len] at this
            exact this
      · have HT : Hid (x.text = wBase ∨ x.text = wView) := Lib.hid (.inl (by rw [← hTx]; show T = [98, 97, 115, 101]; simpa using h1))
        clear hTx
        go_wp2_with fail
        have HS : Hid (w1.drew.cell? ⟨W.heap.size + 1, 0, none⟩ = some vd) := Lib.hid (cell_of_row w1 _ 0 _ _ (0, 0) HJ.out.box)
        refine wp_region_held_drew (S := fun _ => True) (by kernel_rfl) trivial (fun _ => ?_)
        refine take1 0 26 (v := ?_) rfl rfl (by kernel_rfl) (by kernel_rfl) (by kernel_rfl) (fun _ _ _ h => h) (by kernel_rfl) ?_ trivial (by first | (simp only [put_norm]; exact rfl) | exact rfl) ?_
        rotate_left
        · rintro X0 -; go_simp; try (with_reducible rfl)
        refine take1 2 28 (v := ?_) rfl rfl (by kernel_rfl) (by kernel_rfl) (by kernel_rfl) (fun _ _ _ h => h) (by kernel_rfl) ?_ trivial (by first | (simp only [put_norm]; exact rfl) | exact rfl) ?_
        rotate_left
        · rintro X0 -; go_simp; try (with_reducible rfl)
        refine wpAnyH_ready (rs := [1, 3]) (by kernel_rfl) (by simp) ?_
        refine AllReadyH.cons rfl (fun K hK => ?_) ?_
        · have cS := HS.out
          go_simp
          refine hK.out _ _ trivial (fun _ => ?_)
          clear hK K cS
          refine wpAnyH_ready (rs := [3]) (by kernel_rfl) (by simp) ?_
          refine AllReadyH.cons rfl (fun K hK => ?_) AllReadyH.nil
          go_simp
          refine (pdecl_any HJ.out.rd.drew HT.out).mono ?_
          rintro y w3 ⟨ht, ⟨a, L4, v1, hp, hs, rfl, hv, hr⟩ | ⟨L4, hp, hs, rfl⟩⟩
          rotate_left
          · exact ⟨rfl, Only.turned (HJ.out.only.drew.on ht), .inr ⟨L4, HJ.out.eq.trans (contP_bad keys_ne ((clause_decl HJ.out.rd.tidy HT.out).trans (bind_bad hp))), hs.trans HJ.out.suf, rfl⟩⟩
          obtain ⟨u, rfl, hu⟩ := hv
          have HE : Hid (Turned (fun k => k = b) w1 w3 ∧ Rp n w3 b L4 e ∧ clauseR (keys (x :: L2)) = .ok (.decl a) (keys L4) ∧ L4 <:+ x :: L2) := Lib.hid ⟨⟨ht.os, ht.tape, ht.output, ht.size, ht.block⟩, hr, (clause_decl HJ.out.rd.tidy HT.out).trans ((bind_ok hp).trans rfl), hs⟩
          have hown : ∀ k, vd.ownBlock = some k → k < w1.heap.size := fun k e => (HJ.out.d.lt k e).2
          have HX3 : Hid (deY.is (fun k => w1.heap.size ≤ k ∧ k < w3.heap.size) (w3.alloc (.cells #[.string ⟨a.name.toArray⟩, .bool a.base, u] 67)) [.string ⟨a.name.toArray⟩, .bool a.base, u] a) := Lib.hid ⟨u, rfl, hu.keep (by simp) fun k e hk => ⟨⟨e, hk⟩, Below.heap_alloc _ _ _ hk⟩⟩
          have hb3 : ∀ k, W.heap.size + 1 = k → w3.heap[k]? = w1.heap[k]? := fun k e => HE.out.1.block k (by have := HJ.out.szk; omega) (by have := HJ.out.lt; omega)
          have HS3 : Hid (w3.cell? ⟨W.heap.size + 1, 0, none⟩ = some vd) := Lib.hid (cell_of_row w3 _ 0 _ _ (0, 0) ((hb3 _ rfl).trans HJ.out.box))
          have HS4 : Hid ((w3.alloc (.cells #[.string ⟨a.name.toArray⟩, .bool a.base, u] 67)).cell? ⟨W.heap.size + 1, 0, none⟩ = some vd) := Lib.hid ((World.cell?_alloc_some _ _ _ (by rw [HS3.out]; rfl)).trans HS3.out)
          have HOw : Hid (RowZ deY 67 Zd (w3.alloc (.cells #[.string ⟨a.name.toArray⟩, .bool a.base, u] 67)) vd (ofCs cs).decls) := Lib.hid (HJ.out.d.keep (by have := HE.out.1.size; simp; omega) fun k e hk => ⟨e, (Below.heap_alloc _ _ _ (Nat.lt_of_lt_of_le hk HE.out.1.size)).trans (HE.out.1.block k hk (by have := (HJ.out.zd k e).1; have := HJ.out.lt; omega))⟩)
          have hlenA : (ofCs cs).decls.length ≤ 1000000 := by have := HJ.out.len; have := HR.out.len; have := ofCs_len cs; omega
          have HCl : Hid (∀ j u', ([.string ⟨a.name.toArray⟩, .bool a.base, u] : List Value)[j]? = some u' → (w3.alloc (.cells #[.string ⟨a.name.toArray⟩, .bool a.base, u] 67)).cell? ⟨w3.heap.size, 0 + j, none⟩ = some u') := Lib.hid (lit_rowcells w3 [.string ⟨a.name.toArray⟩, .bool a.base, u] _)
          clear ht hp hs hr hb3
          go_wp2_with fail
          refine hK.out _ _ trivial (fun _ => ?_)
          clear hK K
          refine wpAnyH_ready (rs := [4]) (by kernel_rfl) (by simp) ?_
          refine AllReadyH.cons rfl (fun K hK => ?_) AllReadyH.nil
          go_simp
          refine hK.out _ _ trivial (fun _ => ?_)
          clear hK K
          refine wpAnyH_ready (rs := [5]) (by kernel_rfl) (by simp) ?_
          refine AllReadyH.cons rfl (fun K hK => ?_) AllReadyH.nil
          refine step_appZ deY rfl (.tmp 27) (.tmp 30) 23 67 rfl Zd (fun k => w1.heap.size ≤ k ∧ k < w3.heap.size) (.agg #[.string ⟨#[]⟩, .bool false, .slice none 0 0]) 48 Tryz.underlying23 Tryz.infoDe rfl (by decide) (by decide) vd _ a [.string ⟨a.name.toArray⟩, .bool a.base, u] w3.heap.size 1 rfl rfl HOw.out HX3.out (fun k e e2 => by have := hown k e2; omega) HCl.out hlenA ?_
          intro v2 w5 ho hg
          have HN := Lib.hid (HJ.out.step_d hnW HE.out.1 HE.out.2.1 keys_ne HE.out.2.2.1 HE.out.2.2.2 ho hg)
          obtain ⟨pv, lv, cv, rfl⟩ : ∃ p l c, v2 = .slice p l c := (by obtain ⟨p, c, e⟩ := ho.slice; exact ⟨p, _, c, e⟩)
          have HB5 : Hid (w5.heap[W.heap.size + 1]? = some (.cells #[vd, vo, vr] 27 (0, 0))) := Lib.hid (((Turned.of_grown hg).block _ (by have := HJ.out.szk; have := HE.out.1.size; simp; omega) (fun e => by have := (HJ.out.zd _ (HJ.out.d.lt _ e).1).1; omega)).trans ((Below.heap_alloc _ _ _ (by have := HJ.out.szk; have := HE.out.1.size; omega)).trans ((HE.out.1.block _ (by have := HJ.out.szk; omega) (by have := HJ.out.lt; omega)).trans HJ.out.box)))
          clear ho hg
          refine hK.out _ _ trivial (fun _ => ?_)
          clear hK K
          refine take1 6 32 (v := ?_) rfl rfl (by kernel_rfl) (by kernel_rfl) (by kernel_rfl) (fun _ _ _ h => h) (by kernel_rfl) ?_ trivial (by first | (simp only [put_norm]; exact rfl) | exact rfl) ?_
          rotate_left
          · rintro X0 -; go_simp; try (with_reducible rfl)
          obtain ⟨⟨b0, b1, b2⟩, k0, k1, k2⟩ := cells3 HB5.out
          refine wpAnyH_ready (rs := [7]) (by kernel_rfl) (by simp) ?_
          refine AllReadyH.cons rfl (fun K hK => ?_) AllReadyH.nil
          go_simp
          refine hK.out _ _ trivial (fun _ => ?_)
          clear hK K b0 b1 b2 k0 k1 k2
          refine wpAnyH_done (by kernel_rfl) ?_ _
          go_wp2_with fail
          go_roundw
          case rel => exact ⟨_, _, _, _, _, _, _, _, HN⟩
          case measure =>
            rw [HN.out.rd.left, hlW]
            have := fit_clause.eats _ _ _ HE.out.2.2.1
            rw [keys_len, keys_len] at this
            exact this
        refine AllReadyH.cons rfl (fun K hK => ?_) AllReadyH.nil
        go_simp
        refine (pdecl_any HJ.out.rd.drew HT.out).mono ?_
        rintro y w3 ⟨ht, ⟨a, L4, v1, hp, hs, rfl, hv, hr⟩ | ⟨L4, hp, hs, rfl⟩⟩
        rotate_left
        · exact ⟨rfl, Only.turned (HJ.out.only.drew.on ht), .inr ⟨L4, HJ.out.eq.trans (contP_bad keys_ne ((clause_decl HJ.out.rd.tidy HT.out).trans (bind_bad hp))), hs.trans HJ.out.suf, rfl⟩⟩
        obtain ⟨u, rfl, hu⟩ := hv
        have HE : Hid (Turned (fun k => k = b) w1 w3 ∧ Rp n w3 b L4 e ∧ clauseR (keys (x :: L2)) = .ok (.decl a) (keys L4) ∧ L4 <:+ x :: L2) := Lib.hid ⟨⟨ht.os, ht.tape, ht.output, ht.size, ht.block⟩, hr, (clause_decl HJ.out.rd.tidy HT.out).trans ((bind_ok hp).trans rfl), hs⟩
        have hown : ∀ k, vd.ownBlock = some k → k < w1.heap.size := fun k e => (HJ.out.d.lt k e).2
        have HX3 : Hid (deY.is (fun k => w1.heap.size ≤ k ∧ k < w3.heap.size) (w3.alloc (.cells #[.string ⟨a.name.toArray⟩, .bool a.base, u] 67)) [.string ⟨a.name.toArray⟩, .bool a.base, u] a) := Lib.hid ⟨u, rfl, hu.keep (by simp) fun k e hk => ⟨⟨e, hk⟩, Below.heap_alloc _ _ _ hk⟩⟩
        have hb3 : ∀ k, W.heap.size + 1 = k → w3.heap[k]? = w1.heap[k]? := fun k e => HE.out.1.block k (by have := HJ.out.szk; omega) (by have := HJ.out.lt; omega)
        have HS3 : Hid (w3.cell? ⟨W.heap.size + 1, 0, none⟩ = some vd) := Lib.hid (cell_of_row w3 _ 0 _ _ (0, 0) ((hb3 _ rfl).trans HJ.out.box))
        have HS4 : Hid ((w3.alloc (.cells #[.string ⟨a.name.toArray⟩, .bool a.base, u] 67)).cell? ⟨W.heap.size + 1, 0, none⟩ = some vd) := Lib.hid ((World.cell?_alloc_some _ _ _ (by rw [HS3.out]; rfl)).trans HS3.out)
        have HOw : Hid (RowZ deY 67 Zd (w3.alloc (.cells #[.string ⟨a.name.toArray⟩, .bool a.base, u] 67)) vd (ofCs cs).decls) := Lib.hid (HJ.out.d.keep (by have := HE.out.1.size; simp; omega) fun k e hk => ⟨e, (Below.heap_alloc _ _ _ (Nat.lt_of_lt_of_le hk HE.out.1.size)).trans (HE.out.1.block k hk (by have := (HJ.out.zd k e).1; have := HJ.out.lt; omega))⟩)
        have hlenA : (ofCs cs).decls.length ≤ 1000000 := by have := HJ.out.len; have := HR.out.len; have := ofCs_len cs; omega
        have HCl : Hid (∀ j u', ([.string ⟨a.name.toArray⟩, .bool a.base, u] : List Value)[j]? = some u' → (w3.alloc (.cells #[.string ⟨a.name.toArray⟩, .bool a.base, u] 67)).cell? ⟨w3.heap.size, 0 + j, none⟩ = some u') := Lib.hid (lit_rowcells w3 [.string ⟨a.name.toArray⟩, .bool a.base, u] _)
        clear ht hp hs hr hb3
        go_wp2_with fail
        refine hK.out _ _ trivial (fun _ => ?_)
        clear hK K
        refine wpAnyH_ready (rs := [1, 4]) (by kernel_rfl) (by simp) ?_
        refine AllReadyH.cons rfl (fun K hK => ?_) ?_
        · have cS := HS3.out
          go_simp
          refine hK.out _ _ trivial (fun _ => ?_)
          clear hK K cS
          refine wpAnyH_ready (rs := [4]) (by kernel_rfl) (by simp) ?_
          refine AllReadyH.cons rfl (fun K hK => ?_) AllReadyH.nil
          go_simp
          refine hK.out _ _ trivial (fun _ => ?_)
          clear hK K
          refine wpAnyH_ready (rs := [5]) (by kernel_rfl) (by simp) ?_
          refine AllReadyH.cons rfl (fun K hK => ?_) AllReadyH.nil
          refine step_appZ deY rfl (.tmp 27) (.tmp 30) 23 67 rfl Zd (fun k => w1.heap.size ≤ k ∧ k < w3.heap.size) (.agg #[.string ⟨#[]⟩, .bool false, .slice none 0 0]) 48 Tryz.underlying23 Tryz.infoDe rfl (by decide) (by decide) vd _ a [.string ⟨a.name.toArray⟩, .bool a.base, u] w3.heap.size 1 rfl rfl HOw.out HX3.out (fun k e e2 => by have := hown k e2; omega) HCl.out hlenA ?_
          intro v2 w5 ho hg
          have HN := Lib.hid (HJ.out.step_d hnW HE.out.1 HE.out.2.1 keys_ne HE.out.2.2.1 HE.out.2.2.2 ho hg)
          obtain ⟨pv, lv, cv, rfl⟩ : ∃ p l c, v2 = .slice p l c := (by obtain ⟨p, c, e⟩ := ho.slice; exact ⟨p, _, c, e⟩)
          have HB5 : Hid (w5.heap[W.heap.size + 1]? = some (.cells #[vd, vo, vr] 27 (0, 0))) := Lib.hid (((Turned.of_grown hg).block _ (by have := HJ.out.szk; have := HE.out.1.size; simp; omega) (fun e => by have := (HJ.out.zd _ (HJ.out.d.lt _ e).1).1; omega)).trans ((Below.heap_alloc _ _ _ (by have := HJ.out.szk; have := HE.out.1.size; omega)).trans ((HE.out.1.block _ (by have := HJ.out.szk; omega) (by have := HJ.out.lt; omega)).trans HJ.out.box)))
          clear ho hg
          refine hK.out _ _ trivial (fun _ => ?_)
          clear hK K
          refine take1 6 32 (v := ?_) rfl rfl (by kernel_rfl) (by kernel_rfl) (by kernel_rfl) (fun _ _ _ h => h) (by kernel_rfl) ?_ trivial (by first | (simp only [put_norm]; exact rfl) | exact rfl) ?_
          rotate_left
          · rintro X0 -; go_simp; try (with_reducible rfl)
          obtain ⟨⟨b0, b1, b2⟩, k0, k1, k2⟩ := cells3 HB5.out
          refine wpAnyH_ready (rs := [7]) (by kernel_rfl) (by simp) ?_
          refine AllReadyH.cons rfl (fun K hK => ?_) AllReadyH.nil
          go_simp
          refine hK.out _ _ trivial (fun _ => ?_)
          clear hK K b0 b1 b2 k0 k1 k2
          refine wpAnyH_done (by kernel_rfl) ?_ _
          go_wp2_with fail
          go_roundw
          case rel => exact ⟨_, _, _, _, _, _, _, _, HN⟩
          case measure =>
            rw [HN.out.rd.left, hlW]
            have := fit_clause.eats _ _ _ HE.out.2.2.1
            rw [keys_len, keys_len] at this
            exact this
        refine AllReadyH.cons rfl (fun K hK => ?_) AllReadyH.nil
        go_simp
        refine hK.out _ _ trivial (fun _ => ?_)
        clear hK K
        refine wpAnyH_ready (rs := [1]) (by kernel_rfl) (by simp) ?_
        refine AllReadyH.cons rfl (fun K hK => ?_) AllReadyH.nil
        have cS := HS4.out
        go_simp
        refine hK.out _ _ trivial (fun _ => ?_)
        clear hK K cS
        refine wpAnyH_ready (rs := [5]) (by kernel_rfl) (by simp) ?_
        refine AllReadyH.cons rfl (fun K hK => ?_) AllReadyH.nil
        refine step_appZ deY rfl (.tmp 27) (.tmp 30) 23 67 rfl Zd (fun k => w1.heap.size ≤ k ∧ k < w3.heap.size) (.agg #[.string ⟨#[]⟩, .bool false, .slice none 0 0]) 48 Tryz.underlying23 Tryz.infoDe rfl (by decide) (by decide) vd _ a [.string ⟨a.name.toArray⟩, .bool a.base, u] w3.heap.size 1 rfl rfl HOw.out HX3.out (fun k e e2 => by have := hown k e2; omega) HCl.out hlenA ?_
        intro v2 w5 ho hg
        have HN := Lib.hid (HJ.out.step_d hnW HE.out.1 HE.out.2.1 keys_ne HE.out.2.2.1 HE.out.2.2.2 ho hg)
        obtain ⟨pv, lv, cv, rfl⟩ : ∃ p l c, v2 = .slice p l c := (by obtain ⟨p, c, e⟩ := ho.slice; exact ⟨p, _, c, e⟩)
        have HB5 : Hid (w5.heap[W.heap.size + 1]? = some (.cells #[vd, vo, vr] 27 (0, 0))) := Lib.hid (((Turned.of_grown hg).block _ (by have := HJ.out.szk; have := HE.out.1.size; simp; omega) (fun e => by have := (HJ.out.zd _ (HJ.out.d.lt _ e).1).1; omega)).trans ((Below.heap_alloc _ _ _ (by have := HJ.out.szk; have := HE.out.1.size; omega)).trans ((HE.out.1.block _ (by have := HJ.out.szk; omega) (by have := HJ.out.lt; omega)).trans HJ.out.box)))
        clear ho hg
        refine hK.out _ _ trivial (fun _ => ?_)
        clear hK K
        refine take1 6 32 (v := ?_) rfl rfl (by kernel_rfl) (by kernel_rfl) (by kernel_rfl) (fun _ _ _ h => h) (by kernel_rfl) ?_ trivial (by first | (simp only [put_norm]; exact rfl) | exact rfl) ?_
        rotate_left
        · rintro X0 -; go_simp; try (with_reducible rfl)
        obtain ⟨⟨b0, b1, b2⟩, k0, k1, k2⟩ := cells3 HB5.out
        refine wpAnyH_ready (rs := [7]) (by kernel_rfl) (by simp) ?_
        refine AllReadyH.cons rfl (fun K hK => ?_) AllReadyH.nil
        go_simp
        refine hK.out _ _ trivial (fun _ => ?_)
        clear hK K b0 b1 b2 k0 k1 k2
        refine wpAnyH_done (by kernel_rfl) ?_ _
        go_wp2_with fail
        go_roundw
        case rel => exact ⟨_, _, _, _, _, _, _, _, HN⟩
        case measure =>
          rw [HN.out.rd.left, hlW]
          have := fit_clause.eats _ _ _ HE.out.2.2.1
          rw [keys_len, keys_len] at this
          exact this
end
section
open Go Go.RowKit Go.Shelf

set_option maxRecDepth 100000 in
set_option maxHeartbeats 2000000 in
theorem words_all (s : ByteArray) (w : World) (G : Glob w) :
    Calls Tryz.prog 44 #[.string s] w fun e w' => (∃ v, e = .returned (.tuple #[v, .int .i64 ((wordsL s.data.toList).2.1 : Int), .int .i64 (wordsL s.data.toList).2.2]) ∧ OwnW w.heap.size w' v (wordsL s.data.toList).1) ∧ Below w.heap.size w w' := by
  by_cases hsh : s.size ≤ 1000000
  · exact words_any s w hsh G
  · have hl' : (65536 : Int) < (s.size : Int) := by omega
    have HE := Lib.hid (show wordsL s.data.toList = ([], 0, 2) by unfold wordsL; rw [if_pos (by rw [← Lib.size_eq]; omega)])
    rw [HE.out]
    clear G
    go_enter Tryz.func44, Tryz.ntmps44
    go_wp2_with fail
    refine bodyPost_ret (v := .tuple #[.slice none 0 0, .int .i64 0, .int .i64 2]) (by simp [results, Tryz.results44, go_sem]) rfl ⟨⟨_, rfl, OwnW.nil _ _⟩, ?_⟩
    exact ((Below.refl _ _).alloc (Nat.le_refl _) _).alloc (by simp) _ |>.alloc (by simp; omega) _
/-- How a text is answered: what it says, or where it doesn't, or that it is too long. -/
def SayEnd {α : Type} (p : Rd α) (T : (Nat → Prop) → World → Value → α → Prop) (z : Value) (s : ByteArray) (w : World) (x : Ending) (w' : World) : Prop :=
  Below w.heap.size w w' ∧
  ((s.size ≤ 65536 ∧ ∃ a v, sayOf valL p s.data.toList = .ok a ∧ x = .returned (.tuple #[v, .int .i64 0, .int .i64 0]) ∧ T (fun k => w.heap.size ≤ k) w' v a) ∨
   (s.size ≤ 65536 ∧ ∃ n : Nat, sayOf valL p s.data.toList = .bad n ∧ x = .returned (.tuple #[z, .int .i64 n, .int .i64 130])) ∨
   (s.size ≤ 65536 ∧ ∃ n : Nat, sayOf valL p s.data.toList = .lex n ∧ x = .returned (.tuple #[z, .int .i64 n, .int .i64 120])) ∨
   (65536 < s.size ∧ x = .returned (.tuple #[z, .int .i64 0, .int .i64 2])))
theorem say_end_lex {α : Type} {p : Rd α} {s : List UInt8} {n : Nat} (h : (lexS valL s 0).2 = some n) : sayOf valL p s = .lex n := sayOf_lex h
/-- The ways of the words of a text. -/
theorem words_ways (s : ByteArray) : (65536 < s.size ∧ wordsL s.data.toList = ([], 0, 2)) ∨ (s.size ≤ 65536 ∧ ∃ n, (lexS valL s.data.toList 0).2 = some n ∧ wordsL s.data.toList = ([], n, 120)) ∨ (s.size ≤ 65536 ∧ (lexS valL s.data.toList 0).2 = none ∧ wordsL s.data.toList = ((lexS valL s.data.toList 0).1, 0, 0)) := by
  unfold wordsL
  rw [← Lib.size_eq]
  by_cases h : 65536 < s.size
  · exact .inl ⟨h, by rw [if_pos h]⟩
  · right
    rw [if_neg h]
    cases e : (lexS valL s.data.toList 0).2 with
    | none => exact .inr ⟨by omega, rfl, rfl⟩
    | some n => exact .inl ⟨by omega, n, rfl, rfl⟩
theorem say_ok {α : Type} {p : Rd α} {s : List UInt8} {L L' : List Wd} {a : α} {e : Nat} (hn : (lexS valL s 0).2 = none) (hL : L = (lexS valL s 0).1) (h : p (keys L) = .ok a (keys L')) (hs : L' <:+ L) (he : e = s.length) : (L' = [] ∧ sayOf valL p s = .ok a) ∨ (L' ≠ [] ∧ sayOf valL p s = .bad (hereW e L')) := by
  subst hL
  cases L' with
  | nil => exact .inl ⟨rfl, sayOf_ok hn h⟩
  | cons w L' =>
    refine .inr ⟨by simp, ?_⟩
    rw [sayOf_more hn (t := w.key) (r := keys L') h, ← he]
    congr 1
    exact placeOf_suf e hs
theorem say_bad {α : Type} {p : Rd α} {s : List UInt8} {L L' : List Wd} {e : Nat} (hn : (lexS valL s 0).2 = none) (hL : L = (lexS valL s 0).1) (h : p (keys L) = .bad (keys L')) (hs : L' <:+ L) (he : e = s.length) : sayOf valL p s = .bad (hereW e L') := by
  subst hL
  rw [sayOf_bad hn h, ← he]
  congr 1
  exact placeOf_suf e hs
theorem three_at (W : World) (a b c : Obj) : (((W.alloc a).alloc b).alloc c).heap[W.heap.size]? = some a ∧ (((W.alloc a).alloc b).alloc c).heap[W.heap.size + 1]? = some b ∧ (((W.alloc a).alloc b).alloc c).heap[W.heap.size + 2]? = some c := by
  have h := two_new W a b
  refine ⟨(Below.heap_alloc _ _ _ (by simp; omega)).trans h.1, (Below.heap_alloc _ _ _ (by simp)).trans h.2, ?_⟩
  have := heap_alloc_new ((W.alloc a).alloc b) c
  rw [show ((W.alloc a).alloc b).heap.size = W.heap.size + 2 by simp] at this
  exact this
theorem name_c {P : Program} {f : Nat} {args : Array Value} {w : World} {Q : Ending → World → Prop} (h : ∀ X, X = w → Calls P f args X Q) : Calls P f args w Q := h w rfl
theorem finP_at {X : World} {B : Nat} {t t5 t6 : TypeId} {cs : Array Value} {a0 c0 : Value} (R4 : X.heap[B]? = some (.cells cs t (0, 0))) (R5 : X.heap[B + 1]? = some (.cells #[a0] t5 (0, 0))) (R6 : X.heap[B + 2]? = some (.cells #[c0] t6 (0, 0))) (m : Nat) :
    ((X.setCell ⟨B + 1, 0, none⟩ (.int .i64 m)).setCell ⟨B + 1 + 1, 0, none⟩ (.int .i64 130)).heap[B]? = some (.cells cs t (0, 0)) ∧ ((X.setCell ⟨B + 1, 0, none⟩ (.int .i64 m)).setCell ⟨B + 1 + 1, 0, none⟩ (.int .i64 130)).heap[B + 1]? = some (.cells #[.int .i64 m] t5 (0, 0)) ∧ ((X.setCell ⟨B + 1, 0, none⟩ (.int .i64 m)).setCell ⟨B + 1 + 1, 0, none⟩ (.int .i64 130)).heap[B + 1 + 1]? = some (.cells #[.int .i64 130] t6 (0, 0)) := by
  have R6a : X.heap[B + 1 + 1]? = some (.cells #[c0] t6 (0, 0)) := R6
  have g5 := heap_setCell_same X (B + 1) 0 _ _ (.int .i64 m) R5
  have g4 := (heap_setCell_other X ⟨B + 1, 0, none⟩ B (.int .i64 m) (by show B ≠ B + 1; omega)).trans R4
  have g6 := (heap_setCell_other X ⟨B + 1, 0, none⟩ (B + 1 + 1) (.int .i64 m) (by show B + 1 + 1 ≠ B + 1; omega)).trans R6a
  generalize X.setCell ⟨B + 1, 0, none⟩ (.int .i64 m) = Z at g4 g5 g6 ⊢
  exact ⟨(heap_setCell_other Z ⟨B + 1 + 1, 0, none⟩ B _ (by show B ≠ B + 1 + 1; omega)).trans g4, (heap_setCell_other Z ⟨B + 1 + 1, 0, none⟩ (B + 1) _ (by show B + 1 ≠ B + 1 + 1; omega)).trans g5, heap_setCell_same Z (B + 1 + 1) 0 _ _ _ g6⟩
theorem fin2_at {X : World} {B : Nat} {t t5 t6 : TypeId} {x0 x1 a0 c0 : Value} (R4 : X.heap[B]? = some (.cells #[x0, x1] t (0, 0))) (R5 : X.heap[B + 1]? = some (.cells #[a0] t5 (0, 0))) (R6 : X.heap[B + 2]? = some (.cells #[c0] t6 (0, 0))) (y0 y1 a c : Value) :
    ((((X.setCell ⟨B, 0, none⟩ y0).setCell ⟨B, 1, none⟩ y1).setCell ⟨B + 1, 0, none⟩ a).setCell ⟨B + 1 + 1, 0, none⟩ c).drew.heap[B]? = some (.cells #[y0, y1] t (0, 0)) ∧ ((((X.setCell ⟨B, 0, none⟩ y0).setCell ⟨B, 1, none⟩ y1).setCell ⟨B + 1, 0, none⟩ a).setCell ⟨B + 1 + 1, 0, none⟩ c).drew.heap[B + 1]? = some (.cells #[a] t5 (0, 0)) ∧ ((((X.setCell ⟨B, 0, none⟩ y0).setCell ⟨B, 1, none⟩ y1).setCell ⟨B + 1, 0, none⟩ a).setCell ⟨B + 1 + 1, 0, none⟩ c).drew.heap[B + 1 + 1]? = some (.cells #[c] t6 (0, 0)) := by
  have ho : ∀ k, k ≠ B → ((X.setCell ⟨B, 0, none⟩ y0).setCell ⟨B, 1, none⟩ y1).heap[k]? = X.heap[k]? := fun k h => (heap_setCell_other _ ⟨B, 1, none⟩ k _ h).trans (heap_setCell_other _ ⟨B, 0, none⟩ k _ h)
  have R6a : X.heap[B + 1 + 1]? = some (.cells #[c0] t6 (0, 0)) := R6
  have h5 := (ho (B + 1) (by omega)).trans R5
  have h6 := (ho (B + 1 + 1) (by omega)).trans R6a
  have h4 := row2_set (u' := y0) (v' := y1) R4
  generalize ((X.setCell ⟨B, 0, none⟩ y0).setCell ⟨B, 1, none⟩ y1) = Y at h4 h5 h6 ⊢
  have g5 := heap_setCell_same Y (B + 1) 0 _ _ a h5
  have g4 := (heap_setCell_other Y ⟨B + 1, 0, none⟩ B a (by show B ≠ B + 1; omega)).trans h4
  have g6 := (heap_setCell_other Y ⟨B + 1, 0, none⟩ (B + 1 + 1) a (by show B + 1 + 1 ≠ B + 1; omega)).trans h6
  generalize Y.setCell ⟨B + 1, 0, none⟩ a = Z at g4 g5 g6 ⊢
  exact ⟨(heap_setCell_other Z ⟨B + 1 + 1, 0, none⟩ B c (by show B ≠ B + 1 + 1; omega)).trans g4, (heap_setCell_other Z ⟨B + 1 + 1, 0, none⟩ (B + 1) c (by show B + 1 ≠ B + 1 + 1; omega)).trans g5, heap_setCell_same Z (B + 1 + 1) 0 _ _ c g6⟩
theorem fin2_below {w X : World} {B : Nat} (h : Below B w X) (y0 y1 a c : Value) : Below B w ((((X.setCell ⟨B, 0, none⟩ y0).setCell ⟨B, 1, none⟩ y1).setCell ⟨B + 1, 0, none⟩ a).setCell ⟨B + 1 + 1, 0, none⟩ c) := by
  refine Below.setCell (Below.setCell ?_ (by show B ≤ B + 1; omega) _) (by show B ≤ B + 1 + 1; omega) _
  iterate 2 refine Below.setCell ?_ (by exact Nat.le_refl _) _
  exact h
theorem fin3_at {X : World} {B : Nat} {t t5 t6 : TypeId} {x0 x1 x2 a0 c0 : Value} (R4 : X.heap[B]? = some (.cells #[x0, x1, x2] t (0, 0))) (R5 : X.heap[B + 1]? = some (.cells #[a0] t5 (0, 0))) (R6 : X.heap[B + 2]? = some (.cells #[c0] t6 (0, 0))) (y0 y1 y2 a c : Value) :
    (((((X.setCell ⟨B, 0, none⟩ y0).setCell ⟨B, 1, none⟩ y1).setCell ⟨B, 2, none⟩ y2).setCell ⟨B + 1, 0, none⟩ a).setCell ⟨B + 1 + 1, 0, none⟩ c).drew.heap[B]? = some (.cells #[y0, y1, y2] t (0, 0)) ∧ (((((X.setCell ⟨B, 0, none⟩ y0).setCell ⟨B, 1, none⟩ y1).setCell ⟨B, 2, none⟩ y2).setCell ⟨B + 1, 0, none⟩ a).setCell ⟨B + 1 + 1, 0, none⟩ c).drew.heap[B + 1]? = some (.cells #[a] t5 (0, 0)) ∧ (((((X.setCell ⟨B, 0, none⟩ y0).setCell ⟨B, 1, none⟩ y1).setCell ⟨B, 2, none⟩ y2).setCell ⟨B + 1, 0, none⟩ a).setCell ⟨B + 1 + 1, 0, none⟩ c).drew.heap[B + 1 + 1]? = some (.cells #[c] t6 (0, 0)) := by
  have ho : ∀ k, k ≠ B → (((X.setCell ⟨B, 0, none⟩ y0).setCell ⟨B, 1, none⟩ y1).setCell ⟨B, 2, none⟩ y2).heap[k]? = X.heap[k]? := fun k h => set3_off h
  have R6a : X.heap[B + 1 + 1]? = some (.cells #[c0] t6 (0, 0)) := R6
  have h5 := (ho (B + 1) (by omega)).trans R5
  have h6 := (ho (B + 1 + 1) (by omega)).trans R6a
  have h4 := rowS3_set (y0 := y0) (y1 := y1) (y2 := y2) R4
  generalize (((X.setCell ⟨B, 0, none⟩ y0).setCell ⟨B, 1, none⟩ y1).setCell ⟨B, 2, none⟩ y2) = Y at h4 h5 h6 ⊢
  have g5 := heap_setCell_same Y (B + 1) 0 _ _ a h5
  have g4 := (heap_setCell_other Y ⟨B + 1, 0, none⟩ B a (by show B ≠ B + 1; omega)).trans h4
  have g6 := (heap_setCell_other Y ⟨B + 1, 0, none⟩ (B + 1 + 1) a (by show B + 1 + 1 ≠ B + 1; omega)).trans h6
  generalize Y.setCell ⟨B + 1, 0, none⟩ a = Z at g4 g5 g6 ⊢
  exact ⟨(heap_setCell_other Z ⟨B + 1 + 1, 0, none⟩ B c (by show B ≠ B + 1 + 1; omega)).trans g4, (heap_setCell_other Z ⟨B + 1 + 1, 0, none⟩ (B + 1) c (by show B + 1 ≠ B + 1 + 1; omega)).trans g5, heap_setCell_same Z (B + 1 + 1) 0 _ _ c g6⟩
theorem fin3_below {w X : World} {B : Nat} (h : Below B w X) (y0 y1 y2 a c : Value) : Below B w (((((X.setCell ⟨B, 0, none⟩ y0).setCell ⟨B, 1, none⟩ y1).setCell ⟨B, 2, none⟩ y2).setCell ⟨B + 1, 0, none⟩ a).setCell ⟨B + 1 + 1, 0, none⟩ c) := by
  refine Below.setCell (Below.setCell ?_ (by show B ≤ B + 1; omega) _) (by show B ≤ B + 1 + 1; omega) _
  iterate 3 refine Below.setCell ?_ (by exact Nat.le_refl _) _
  exact h
end
end Go.Proofs.YtnbaemfkpfmheaaGreatDoor
