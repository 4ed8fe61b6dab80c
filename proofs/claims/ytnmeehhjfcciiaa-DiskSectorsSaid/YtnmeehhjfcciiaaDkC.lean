/-
  A change of the directory that is loose: Disk.change.
-/
import Derived.Test.YtnmeehhjfcciiaaDkA
import Derived.Deep.RegionHeld3
import Derived.StillTailTactics
import Derived.BigQuiet
import Derived.Deep.RegionLaw
import Derived.OwnWalk
namespace Go.Proofs.Ytnmeehhjfcciiaa
open Go Go.RowKit Go.Maps Go.WideMaps

/-- All blocks but those of S stand as they stood. -/
structure Grow (S : Nat → Prop) (w w' : World) : Prop where
  os : w'.os = w.os
  tape : w'.tape = w.tape
  output : w'.output = w.output
  size : w.heap.size ≤ w'.heap.size
  block : ∀ k, k < w.heap.size → ¬ S k → w'.heap[k]? = w.heap[k]?
theorem Grow.refl (S : Nat → Prop) (w : World) : Grow S w w := ⟨rfl, rfl, rfl, Nat.le_refl _, fun _ _ _ => rfl⟩
theorem Grow.of_grown {S : Nat → Prop} {w w' : World} {row : Option Nat} (h : w.grownBy w' row) (hS : ∀ k, row = some k → k < w.heap.size → S k) : Grow S w w' := ⟨h.os, h.tape, h.output, h.size, fun k hk hn => h.block k hk (fun e => hn (hS k e.symm hk))⟩
theorem Grow.trans {S : Nat → Prop} {a b c : World} (h : Grow S a b) (k : Grow S b c) : Grow S a c :=
  ⟨k.os.trans h.os, k.tape.trans h.tape, k.output.trans h.output, Nat.le_trans h.size k.size, fun i hi hn => (k.block i (by have := h.size; omega) hn).trans (h.block i hi hn)⟩
theorem Grow.drew {S : Nat → Prop} {a b : World} (h : Grow S a b) : Grow S a b.drew := ⟨h.os, h.tape, h.output, h.size, h.block⟩
theorem Grow.alloc {S : Nat → Prop} {a b : World} (h : Grow S a b) (o : Obj) : Grow S a (b.alloc o) := h.trans (Grow.of_grown (World.grownBy_alloc b o none) (fun _ e _ => absurd e (by simp)))
theorem Grow.mono {S T : Nat → Prop} {a b : World} (h : Grow S a b) (hST : ∀ k, k < a.heap.size → S k → T k) : Grow T a b := ⟨h.os, h.tape, h.output, h.size, fun k hk hn => h.block k hk (fun hs => hn (hST k hk hs))⟩
theorem Grow.setCell {S : Nat → Prop} {a b : World} (h : Grow S a b) (p : Addr) (u : Value) (hp : p.block < a.heap.size → S p.block) : Grow S a (b.setCell p u) :=
  ⟨h.os, h.tape, h.output, by simp [World.setCell]; exact h.size, fun k hk hn => (Below.heap_setCell _ _ _ _ (fun e => hn (by rw [e] at hk ⊢; exact hp hk))).trans (h.block k hk hn)⟩
theorem Grow.below {S : Nat → Prop} {a b : World} (h : Grow S a b) {n : Nat} (hn : n ≤ a.heap.size) (hS : ∀ k, S k → n ≤ k) : Below n a b := ⟨h.os, h.tape, h.output, h.size, fun k hk => h.block k (by omega) (fun hs => by have := hS k hs; omega)⟩
theorem MapAt.grow {S : Nat → Prop} {w w' : World} {P : Program} {k b n : Nat} {D : DataW Value} (h : MapAt w P k b n D) (hg : Grow S w w') (hn : ¬ S b) : MapAt w' P k b n D := by
  obtain ⟨es, c, h1, h2⟩ := h
  exact ⟨es, c, (hg.block b (Array.getElem?_eq_some_iff.1 h1).1 hn).trans h1, h2⟩
theorem DkOn.grow {S : Nat → Prop} {w w' : World} {d F O D X : Nat} {room next : Int} {chg : Value} (h : DkOn w d room next F O D X chg) (hg : Grow S w w') (hn : ¬ S d) : DkOn w' d room next F O D X chg := (hg.block d h.lt hn).trans h
theorem lit_cells (w : World) (cs : Array Value) (t : TypeId) : ∀ j u, cs.toList[j]? = some u → (w.alloc (.cells cs t)).cell? ((⟨w.heap.size, 0, none⟩ : Addr).add j) = some u := by
  intro j u hj
  have h : (⟨w.heap.size, 0, none⟩ : Addr).add j = ⟨w.heap.size, j, none⟩ := by
    unfold Addr.add
    split <;> simp_all
  rw [h, cell_of_row _ w.heap.size j cs t (0, 0) (heap_alloc_new w _)]
  simpa using hj
theorem one_cells {l : List Value} (h : l.all (fun u => u.oneCell') = true) : ∀ u ∈ l, u.oneCell' = true := fun u hu => List.all_eq_true.1 h u hu
theorem DkOn.alloc {w : World} {d F O D X : Nat} {room next : Int} {chg : Value} (h : DkOn w d room next F O D X chg) (o : Obj) : DkOn (w.alloc o) d room next F O D X chg := h.kept (World.grownBy_alloc w o none) (by simp)
theorem DkOn.drew {w : World} {d F O D X : Nat} {room next : Int} {chg : Value} (h : DkOn w d room next F O D X chg) : DkOn w.drew d room next F O D X chg := h
theorem DkOn.setChg {w : World} {d F O D X : Nat} {room next : Int} {chg : Value} (h : DkOn w d room next F O D X chg) (v : Value) : DkOn (w.setCell ⟨d, 7, none⟩ v) d room next F O D X v := by
  show (w.setCell ⟨d, 7, none⟩ v).heap[d]? = _
  rw [Go.heap_setCell_same _ d _ _ _ _ h]
  rfl
theorem DkOn.setNext {w : World} {d F O D X : Nat} {room next : Int} {chg : Value} (h : DkOn w d room next F O D X chg) (x : Int) : DkOn (w.setCell ⟨d, 2, none⟩ (.int .i64 x)) d room x F O D X chg := by
  show (w.setCell ⟨d, 2, none⟩ (.int .i64 x)).heap[d]? = _
  rw [Go.heap_setCell_same _ d _ _ _ _ h]
  rfl
theorem infoCh : (Try.prog.info? 72).map (fun i => (i.zero, i.size, i.bytes)) = some (some (.agg #[.string ⟨#[]⟩, .string ⟨#[]⟩, .int .i64 0]), 3, 40) := by kernel_rfl
/-- What the regions of change load. -/
def ChgS (w : World) (d D : Nat) (a c : ByteArray) (file : Int) (W : World) : Prop := W.cell? ⟨d, 5, none⟩ = some (.map (some D)) ∧ W.cell? ⟨w.heap.size, 0, none⟩ = some (.string a) ∧ W.cell? ⟨w.heap.size, 1, none⟩ = some (.string c) ∧ W.cell? ⟨w.heap.size, 2, none⟩ = some (.int .i64 file)
theorem chgS_start (w : World) (d D : Nat) (a c : ByteArray) (file : Int) (hl : d < w.heap.size) (c5 : w.cell? ⟨d, 5, none⟩ = some (.map (some D))) : ChgS w d D a c file (w.alloc (.cells #[.string a, .string c, .int .i64 file] 72)).drew :=
  ⟨(World.cell?_alloc_lt _ _ _ hl).trans c5, (World.cell?_alloc_new w _ _ 0).trans rfl, (World.cell?_alloc_new w _ _ 1).trans rfl, (World.cell?_alloc_new w _ _ 2).trans rfl⟩
theorem chgS_kept {w w1 W : World} {d D : Nat} {a c : ByteArray} {file : Int} (h : ChgS w d D a c file W) (hg : W.grownBy w1 (some D)) (hx : D ≠ d ∧ D < w.heap.size) : ChgS w d D a c file w1 :=
  ⟨hg.cell h.1 (by simp; exact fun e => hx.1 e.symm), hg.cell h.2.1 (by simp; omega), hg.cell h.2.2.1 (by simp; omega), hg.cell h.2.2.2 (by simp; omega)⟩
/-- What a change leaves behind. -/
structure ChgEnd (w w' : World) (d F O D X n m n0 : Nat) (room next : Int) (chg : Value) (df : DataW Value) (xs : List Value) (a c : ByteArray) (file : Int) (chg' : Value) : Prop where
  on : DkOn w' d room next F O D X chg'
  dir : MapAt w' Try.prog 9 D (n + 1) (doD df a c file)
  own : w'.ownsRow n0 72 3 chg' (m + 1) (xs ++ [.string a, .string c, .int .i64 file])
  far : ∀ k, chg'.ownBlock = some k → chg.ownBlock = some k ∨ w.heap.size ≤ k
  grow : Grow (fun k => k = d ∨ k = D ∨ chg.ownBlock = some k) w w'
theorem grown_setCell (w : World) (p : Addr) (u : Value) : w.grownBy (w.setCell p u) (some p.block) := ⟨rfl, rfl, rfl, by simp [World.setCell], fun k _ hne => Below.heap_setCell _ _ _ _ (fun e => hne (by rw [e]))⟩
theorem chg_end {w w1 w4 : World} {d F O D X n m n0 gg cap : Nat} {room next : Int} {chg : Value} {df : DataW Value} {xs : List Value} {a c : ByteArray} {file : Int} {o : Obj}
    (hN : D ≠ d ∧ chg.ownBlock ≠ some d ∧ chg.ownBlock ≠ some D ∧ m ≤ 1000000 ∧ n0 ≤ w.heap.size) (hl : d < w.heap.size) (hx : D ≠ d ∧ D < w.heap.size)
    (hg1 : (w.alloc o).drew.grownBy w1 (some D)) (hm1 : MapAt w1 Try.prog 9 D (n + 1) (doD df a c file)) (h4 : DkOn w4 d room next F O D X chg)
    (how : w4.ownsRow n0 72 3 (.slice (some ⟨gg, 0, none⟩) (m + 1) cap) (m + 1) (xs ++ [.string a, .string c, .int .i64 file])) (hgr : (w1.drew.alloc o).grownBy w4 chg.ownBlock) (hloc : chg.ownBlock = some gg ∨ gg = w1.heap.size + 1) :
    ChgEnd w (w4.setCell ⟨d, 7, none⟩ (.slice (some ⟨gg, 0, none⟩) (m + 1) cap)) d F O D X n m n0 room next chg df xs a c file (.slice (some ⟨gg, 0, none⟩) (m + 1) cap) := by
  obtain ⟨hD, hc1, hc2, -, -⟩ := hN
  have s1 : w.heap.size + 1 ≤ w1.heap.size := by have := hg1.size; simpa using this
  have hgd : gg ≠ d := by
    rcases hloc with h | h
    · rintro rfl; exact hc1 h
    · omega
  have g0 : Grow (fun k => k = d ∨ k = D ∨ chg.ownBlock = some k) w (w.alloc o).drew := ((Grow.refl _ w).alloc o).drew
  have g1 : Grow (fun k => k = d ∨ k = D ∨ chg.ownBlock = some k) (w.alloc o).drew w1 := Grow.of_grown hg1 (fun k h _ => .inr (.inl (Option.some.inj h).symm))
  have g2 : Grow (fun k => k = d ∨ k = D ∨ chg.ownBlock = some k) w1 (w1.drew.alloc o) := (Grow.refl _ w1).drew.alloc o
  have g3 : Grow (fun k => k = d ∨ k = D ∨ chg.ownBlock = some k) (w1.drew.alloc o) w4 := Grow.of_grown hgr (fun k h _ => .inr (.inr h))
  refine ⟨h4.setChg _, ?_, ?_, ?_, ?_⟩
  · have h1 : MapAt (w1.drew.alloc o) Try.prog 9 D (n + 1) (doD df a c file) := (show MapAt w1.drew Try.prog 9 D (n + 1) (doD df a c file) from hm1).alloc o
    exact (h1.kept hgr (fun e => hc2 e.symm)).setCell (a := ⟨d, 7, none⟩) hD _
  · exact how.kept (grown_setCell w4 ⟨d, 7, none⟩ _) (.inr (by simpa [Value.ownBlock] using hgd))
  · intro k hk
    have hk' : gg = k := by simpa [Value.ownBlock] using hk
    subst hk'
    rcases hloc with h | h
    · exact .inl h
    · exact .inr (by omega)
  · exact (((g0.trans g1).trans g2).trans g3).setCell _ _ (fun _ => .inl rfl)
set_option maxRecDepth 100000 in
set_option maxHeartbeats 1000000 in
theorem change_any {w : World} {d F O D X n m n0 : Nat} {room next : Int} {chg : Value} {df : DataW Value} {xs : List Value} (a c : ByteArray) (file : Int)
    (h : DkOn w d room next F O D X chg) (hm : MapAt w Try.prog 9 D n df) (ho : w.ownsRow n0 72 3 chg m xs) (hn : n < maxLen) (hm' : m ≤ 1000000) (h0 : n0 ≤ w.heap.size) (hD : D ≠ d) (hc1 : chg.ownBlock ≠ some d) (hc2 : chg.ownBlock ≠ some D)
    (ha : a.size ≤ maxLen) (hc : c.size ≤ maxLen) (hne : c.toList.isEmpty = false) :
    Calls Try.prog 23 #[.pointer (some ⟨d, 0, none⟩), .agg #[.string a, .string c, .int .i64 file]] w fun e w' => e = .returned (.tuple #[]) ∧ ∃ chg', ChgEnd w w' d F O D X n m n0 room next chg df xs a c file chg' := by
  have hl := h.lt
  have HL := Lib.hid hl
  have HX := Lib.hid (And.intro hD hm.lt)
  obtain ⟨-, -, -, -, -, c5, -, -, -, -⟩ := h.cells
  have H := Lib.hid h
  have HO := Lib.hid ho
  have HD := Lib.hid (do_any (w.alloc (.cells #[.string a, .string c, .int .i64 file] 72)).drew D n df a c file (hm.alloc _) hn ha hc hne)
  have HN := Lib.hid (show D ≠ d ∧ chg.ownBlock ≠ some d ∧ chg.ownBlock ≠ some D ∧ m ≤ 1000000 ∧ n0 ≤ w.heap.size from ⟨hD, hc1, hc2, hm', h0⟩)
  clear h hm ho hn hD hc1 hc2 ha hc hne hm' h0
  go_enter Try.func23, Try.ntmps23
  go_wp2_with fail
  have HS0 := Lib.hid (chgS_start w d D a c file HL.out c5)
  go_region_held3 (fun W => W.cell? ⟨d, 5, none⟩ = some (.map (some D)) ∧ W.cell? ⟨w.heap.size, 0, none⟩ = some (.string a) ∧ W.cell? ⟨w.heap.size, 1, none⟩ = some (.string c) ∧ W.cell? ⟨w.heap.size, 2, none⟩ = some (.int .i64 file)) (first | exact HS0.out | exact chgS_kept HS0.out hg1 HX.out) ((go_at_call 44; refine HD.out.mono ?_; rintro e w1 ⟨rfl, hm1, hg1⟩))
  have H1 := Lib.hid (show DkOn w1 d room next F O D X chg from ((H.out.alloc (.cells #[.string a, .string c, .int .i64 file] 72)).drew).kept hg1 (by have := HN.out.1; simp; omega))
  have HO1 := Lib.hid (show w1.ownsRow n0 72 3 chg m xs from World.ownsRow.kept ((HO.out.alloc (.cells #[.string a, .string c, .int .i64 file] 72)).drew) hg1 (.inr HN.out.2.2.1))
  have HM1 := Lib.hid hm1
  have HG1 := Lib.hid hg1
  obtain ⟨-, q0, q1, q2⟩ := chgS_kept HS0.out hg1 HX.out
  obtain ⟨-, -, -, -, -, -, -, c7, -, -⟩ := H1.out.cells
  have hl1 : d < w1.heap.size := H1.out.lt
  have hl2 : w.heap.size < w1.heap.size := by have := hg1.size; simp at this; omega
  clear hm1 hg1 c5 HD hl
  obtain ⟨i0, hi, hz0, hz1, hz2⟩ := info_parts infoCh
  have HW := Lib.hid (show (w1.drew.alloc (.cells #[.string a, .string c, .int .i64 file] 72)).ownsRow n0 72 3 chg m xs from HO1.out.drew.alloc _)
  have o1 : m + 1 ≤ maxLen := by have := HN.out.2.2.2.1; unfold maxLen; omega
  have o2 : (m + 1) * 40 ≤ 140737488355328 := by have := HN.out.2.2.2.1; omega
  have o3 : n0 ≤ (w1.drew.alloc (.cells #[.string a, .string c, .int .i64 file] 72)).heap.size := by have := HN.out.2.2.2.2; simp; omega
  go_wp2_with fail
  go_region_law ((refine step_append_lies _ (by rfl) _ _ _ (by rfl) n0 72 i0 _ 3 40 Try.underlying63 hi hz0 hz1 hz2 rfl (by decide) _ _ _ (by rfl) HW.out ⟨w1.heap.size, 0, none⟩ 1 1 [.string a, .string c, .int .i64 file] (by rfl) (by rfl) (lit_cells w1.drew _ _) (one_cells rfl) (by decide) o1 o2 o3 (w1.heap.size + 1) (by simp) ?_; intro gg cap w4 how4 hgrow4 hloc4 hlt4; have H4 := Lib.hid (H1.out.drew.alloc (.cells #[.string a, .string c, .int .i64 file] 72) |>.kept hgrow4 (fun e => HN.out.2.1 e.symm)); obtain ⟨-, -, -, -, -, -, -, c7', -, -⟩ := H4.out.cells; have f7 := H4.out.loose 7))
  all_goals exact bodyPost_end (results_none rfl _ _ _) rfl ⟨rfl, _, chg_end HN.out HL.out HX.out HG1.out HM1.out H4.out how4 hgrow4 hloc4⟩
end Go.Proofs.Ytnmeehhjfcciiaa
