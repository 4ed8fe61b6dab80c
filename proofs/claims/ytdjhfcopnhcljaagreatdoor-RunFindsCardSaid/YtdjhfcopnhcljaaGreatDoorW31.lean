/-
  A disk that was made, with no fuse: made, Down, ready, done; valid; directory.do.
  A change of the directory that is loose: Disk.change.
  Disk.Create at a name that is new.
-/
import Derived.Test.YtdjhfcopnhcljaaGreatDoorW30
import Derived.Deep.AppendLies
import Derived.Maps.AppendAt
import Derived.StringKeys
import Derived.Deep.RegionHeld3
import Derived.StillTailTactics
import Derived.BigQuiet
import Derived.Deep.RegionLaw
import Derived.OwnWalk
import Derived.Lib.Strings
namespace Go.Proofs.YtdjhfcopnhcljaaGreatDoor
section
open Go Go.RowKit Go.Maps Go.WideMaps

/-- A disk without a fuse, at d. -/
def DkOn (w : World) (d : Nat) (room next : Int) (F O D X : Nat) (chg : Value) : Prop := DkAt w d room next F O D X chg false 0
section
variable {w : World} {d F O D X : Nat} {room next : Int} {chg : Value}
theorem DkOn.lt (h : DkOn w d room next F O D X chg) : d < w.heap.size := (Array.getElem?_eq_some_iff.1 h).1
theorem DkOn.cells (h : DkOn w d room next F O D X chg) : w.cell? ⟨d, 0, none⟩ = some (.pointer (some ⟨d, 0, none⟩)) ∧ w.cell? ⟨d, 1, none⟩ = some (.int .i64 room) ∧ w.cell? ⟨d, 2, none⟩ = some (.int .i64 next) ∧ w.cell? ⟨d, 3, none⟩ = some (.map (some F)) ∧ w.cell? ⟨d, 4, none⟩ = some (.map (some O)) ∧ w.cell? ⟨d, 5, none⟩ = some (.map (some D)) ∧ w.cell? ⟨d, 6, none⟩ = some (.map (some X)) ∧ w.cell? ⟨d, 7, none⟩ = some chg ∧ w.cell? ⟨d, 8, none⟩ = some (.bool false) ∧ w.cell? ⟨d, 9, none⟩ = some (.int .i64 0) := by
  refine ⟨?_, ?_, ?_, ?_, ?_, ?_, ?_, ?_, ?_, ?_⟩ <;> exact (cell_of_row w d _ _ _ (0, 0) h).trans (by simp)
theorem DkOn.loose (h : DkOn w d room next F O D X chg) (i : Nat) : w.frozen? ⟨d, i, none⟩ = false := frozen_of_row w d i _ _ h
theorem DkOn.kept {w' : World} {row : Option Nat} (h : DkOn w d room next F O D X chg) (hg : w.grownBy w' row) (hne : some d ≠ row) : DkOn w' d room next F O D X chg := (hg.block d h.lt hne).trans h
theorem DkOn.below {w' : World} {n : Nat} (h : DkOn w d room next F O D X chg) (hb : Below n w w') (hl : d < n) : DkOn w' d room next F O D X chg := (hb.block d hl).trans h
end
theorem infoDk : (Tryz.prog.info? 132).isSome = true := by kernel_rfl
set_option maxRecDepth 100000 in
theorem made_yes {w : World} {d F O D X : Nat} {room next : Int} {chg : Value} (h : DkOn w d room next F O D X chg) : Says 83 #[.pointer (some ⟨d, 0, none⟩)] w (.bool true) := by
  obtain ⟨c0, -⟩ := h.cells
  obtain ⟨j, hj⟩ := Option.isSome_iff_exists.1 infoDk
  have q := fun W : World => run_eql_ptr_same W ⟨d, 0, none⟩ Tryz.underlying43 hj
  go_enter Tryz.func83, Tryz.ntmps83
  go_wp2_with fail
  go_ret
  exact ⟨rfl, rfl⟩
set_option maxRecDepth 100000 in
theorem down_off {w : World} {d F O D X : Nat} {room next : Int} {chg : Value} (h : DkOn w d room next F O D X chg) : Says 118 #[.pointer (some ⟨d, 0, none⟩)] w (.bool false) := by
  have HM := Lib.hid (made_yes h)
  obtain ⟨-, -, -, -, -, -, -, -, c8, -⟩ := h.cells
  clear h
  go_enter Tryz.func118, Tryz.ntmps118
  go_wp2_with fail
  refine HM.out.mono ?_
  rintro e w1 ⟨rfl, rfl⟩
  go_wp2_with fail
  go_ret
  exact ⟨rfl, rfl⟩
set_option maxRecDepth 100000 in
theorem ready_ok {w : World} {d F O D X : Nat} {room next : Int} {chg : Value} (h : DkOn w d room next F O D X chg) : Says 57 #[.pointer (some ⟨d, 0, none⟩)] w (.int .i64 0) := by
  have HM := Lib.hid (made_yes h)
  have HD := Lib.hid (down_off h)
  clear h
  go_enter Tryz.func57, Tryz.ntmps57
  go_wp2_with fail
  refine HM.out.mono ?_
  rintro e w1 ⟨rfl, rfl⟩
  go_wp2_with fail
  refine HD.out.mono ?_
  rintro e w1 ⟨rfl, rfl⟩
  go_wp2_with fail
  go_ret
  exact ⟨rfl, rfl⟩
set_option maxRecDepth 100000 in
theorem done_ok {w : World} {d F O D X : Nat} {room next : Int} {chg : Value} (h : DkOn w d room next F O D X chg) : Says 60 #[.pointer (some ⟨d, 0, none⟩)] w (.int .i64 0) := by
  obtain ⟨-, -, -, -, -, -, -, -, c8, -⟩ := h.cells
  clear h
  go_enter Tryz.func60, Tryz.ntmps60
  go_wp2_with fail
  go_ret
  exact ⟨rfl, rfl⟩
set_option maxRecDepth 100000 in
theorem valid_ok (w : World) (s : ByteArray) (h1 : 1 ≤ s.size) (h2 : s.size ≤ 64) : Says 58 #[.string s] w (.bool true) := by
  have h1' : (1 : Int) ≤ (s.size : Int) := by omega
  have h2' : (s.size : Int) ≤ 64 := by omega
  go_enter Tryz.func58, Tryz.ntmps58
  go_wp2_with fail
  go_ret
  exact ⟨rfl, rfl⟩
theorem dKeyS : Keyed Tryz.prog 9 := string_keyed Tryz.underlying9
theorem dKeyI : Keyed Tryz.prog 3 := int_keyed Tryz.underlying3
theorem zeroI (w : World) : (zeroValue 3).run Tryz.prog w = .ok (.int .i64 0) w := by kernel_rfl
theorem zeroF (w : World) : (zeroValue 133).run Tryz.prog w = .ok (.pointer none) w := by kernel_rfl
/-- A directory behind a change. -/
def doD (D : DataW Value) (a b : ByteArray) (file : Int) : DataW Value := (D.del (.string a.data.toList)).put (.string b.data.toList) (.held (.int .i64 file))
set_option maxRecDepth 100000 in
theorem do_any (w : World) (b n : Nat) (D : DataW Value) (a c : ByteArray) (file : Int) (h : MapAt w Tryz.prog 9 b n D) (hn : n < maxLen) (ha : a.size ≤ maxLen) (hc : c.size ≤ maxLen) (hne : c.toList.isEmpty = false) :
    Calls Tryz.prog 119 #[.map (some b), .agg #[.string a, .string c, .int .i64 file]] w fun e w' => e = .returned (.tuple #[]) ∧ MapAt w' Tryz.prog 9 b (n + 1) (doD D a c file) ∧ w.grownBy w' (some b) := by
  have HM := Lib.hid (h.alloc (.cells #[.string a, .string c, .int .i64 file] 138))
  have hlt := h.lt
  have ka := keyOf_string_mk (P := Tryz.prog) Tryz.underlying9 ha
  have kc := keyOf_string_mk (P := Tryz.prog) Tryz.underlying9 hc
  have KA := Lib.hid ka
  have KC := Lib.hid kc
  have HN := Lib.hid hn
  have HG := Lib.hid (World.grownBy_alloc w (.cells #[.string a, .string c, .int .i64 file] 138) (some b))
  clear h ka kc hn
  go_enter Tryz.func119, Tryz.ntmps119
  go_wp2_with (first
    | (at_delete; refine wpList_delete_own _ rfl _ _ 129 9 rfl 3 dKeyS Tryz.underlying129 heldE b n D rfl HM.out _ _ rfl KA.out ?_; intro w1 hown1 hturn1
       have H1 := Lib.hid hown1
       have G1 := Lib.hid hturn1.grown
       have c1 : w1.cell? ⟨w.heap.size, 1, none⟩ = some (.string c) := hturn1.grown.cell (by simp) (by simp; omega)
       have c2 : w1.cell? ⟨w.heap.size, 2, none⟩ = some (.int .i64 file) := hturn1.grown.cell (by simp) (by simp; omega)
       clear hown1 hturn1)
    | (at_mapUpdate; refine wpList_store_any _ rfl _ _ _ 129 rfl 9 3 dKeyS Tryz.underlying129 b n _ rfl H1.out HN.out _ _ _ rfl rfl KC.out ?_; intro w2 hown2 hgrow2
       have H2 := Lib.hid hown2
       have G2 := Lib.hid hgrow2
       clear hown2 hgrow2))
  exact bodyPost_end (results_none rfl _ _ _) rfl ⟨rfl, H2.out, (HG.out.trans G1.out).trans G2.out⟩
end
section
open Go Go.RowKit Go.Maps Go.WideMaps

/-- All blocks but those of S stand as they stood. -/
structure Grow (S : Nat → Prop) (w w' : World) : Prop where
  os : w'.os = w.os
  tape : w'.tape = w.tape
  output : w'.output = w.output
  size : w.heap.size ≤ w'.heap.size
  block : ∀ k, k < w.heap.size → ¬ S k → w'.heap[k]? = w.heap[k]?
theorem Grow.refl (S : Nat → Prop) (w : World) : Grow S w w := ⟨rfl, rfl, rfl, Nat.le_refl _, fun _ _ _ => rfl⟩
theorem Grow.of_grown {S : Nat → Prop} {w w' : World} {row : Option Nat} (h : w.grownBy w' row) (hS : ∀ k, row = some k → k < w.heap.size → S k) : Grow S w w' := ⟨h.os, h.tape, h.output, h.size, fun k hk hn => h.block k hk (fun e => hn (hS k e.symm hk))⟩
theorem Grow.trans {S : Nat → Prop} {a b c : World} (h : Grow S a b) (k : Grow S b c) : Grow S a c :=
  ⟨k.os.trans h.os, k.tape.trans h.tape, k.output.trans h.output, Nat.le_trans h.size k.size, fun i hi hn => (k.block i (by have := h.size; omega) hn).trans (h.block i hi hn)⟩
theorem Grow.drew {S : Nat → Prop} {a b : World} (h : Grow S a b) : Grow S a b.drew := ⟨h.os, h.tape, h.output, h.size, h.block⟩
theorem Grow.alloc {S : Nat → Prop} {a b : World} (h : Grow S a b) (o : Obj) : Grow S a (b.alloc o) := h.trans (Grow.of_grown (World.grownBy_alloc b o none) (fun _ e _ => absurd e (by simp)))
theorem Grow.mono {S T : Nat → Prop} {a b : World} (h : Grow S a b) (hST : ∀ k, k < a.heap.size → S k → T k) : Grow T a b := ⟨h.os, h.tape, h.output, h.size, fun k hk hn => h.block k hk (fun hs => hn (hST k hk hs))⟩
theorem Grow.setCell {S : Nat → Prop} {a b : World} (h : Grow S a b) (p : Addr) (u : Value) (hp : p.block < a.heap.size → S p.block) : Grow S a (b.setCell p u) :=
  ⟨h.os, h.tape, h.output, by simp [World.setCell]; exact h.size, fun k hk hn => (Below.heap_setCell _ _ _ _ (fun e => hn (by rw [e] at hk ⊢; exact hp hk))).trans (h.block k hk hn)⟩
theorem Grow.below {S : Nat → Prop} {a b : World} (h : Grow S a b) {n : Nat} (hn : n ≤ a.heap.size) (hS : ∀ k, S k → n ≤ k) : Below n a b := ⟨h.os, h.tape, h.output, h.size, fun k hk => h.block k (by omega) (fun hs => by have := hS k hs; omega)⟩
theorem MapAt.grow {S : Nat → Prop} {w w' : World} {P : Program} {k b n : Nat} {D : DataW Value} (h : MapAt w P k b n D) (hg : Grow S w w') (hn : ¬ S b) : MapAt w' P k b n D := by
  obtain ⟨es, c, h1, h2⟩ := h
  exact ⟨es, c, (hg.block b (Array.getElem?_eq_some_iff.1 h1).1 hn).trans h1, h2⟩
theorem DkOn.grow {S : Nat → Prop} {w w' : World} {d F O D X : Nat} {room next : Int} {chg : Value} (h : DkOn w d room next F O D X chg) (hg : Grow S w w') (hn : ¬ S d) : DkOn w' d room next F O D X chg := (hg.block d h.lt hn).trans h
theorem lit_cells (w : World) (cs : Array Value) (t : TypeId) : ∀ j u, cs.toList[j]? = some u → (w.alloc (.cells cs t)).cell? ((⟨w.heap.size, 0, none⟩ : Addr).add j) = some u := by
  intro j u hj
  have h : (⟨w.heap.size, 0, none⟩ : Addr).add j = ⟨w.heap.size, j, none⟩ := by
    unfold Addr.add
    split <;> simp_all
  rw [h, cell_of_row _ w.heap.size j cs t (0, 0) (heap_alloc_new w _)]
  simpa using hj
theorem one_cells {l : List Value} (h : l.all (fun u => u.oneCell') = true) : ∀ u ∈ l, u.oneCell' = true := fun u hu => List.all_eq_true.1 h u hu
theorem DkOn.alloc {w : World} {d F O D X : Nat} {room next : Int} {chg : Value} (h : DkOn w d room next F O D X chg) (o : Obj) : DkOn (w.alloc o) d room next F O D X chg := h.kept (World.grownBy_alloc w o none) (by simp)
theorem DkOn.drew {w : World} {d F O D X : Nat} {room next : Int} {chg : Value} (h : DkOn w d room next F O D X chg) : DkOn w.drew d room next F O D X chg := h
theorem DkOn.setChg {w : World} {d F O D X : Nat} {room next : Int} {chg : Value} (h : DkOn w d room next F O D X chg) (v : Value) : DkOn (w.setCell ⟨d, 7, none⟩ v) d room next F O D X v := by
  show (w.setCell ⟨d, 7, none⟩ v).heap[d]? = _
  rw [Go.heap_setCell_same _ d _ _ _ _ h]
  rfl
theorem DkOn.setNext {w : World} {d F O D X : Nat} {room next : Int} {chg : Value} (h : DkOn w d room next F O D X chg) (x : Int) : DkOn (w.setCell ⟨d, 2, none⟩ (.int .i64 x)) d room x F O D X chg := by
  show (w.setCell ⟨d, 2, none⟩ (.int .i64 x)).heap[d]? = _
  rw [Go.heap_setCell_same _ d _ _ _ _ h]
  rfl
theorem infoCh : (Tryz.prog.info? 138).map (fun i => (i.zero, i.size, i.bytes)) = some (some (.agg #[.string ⟨#[]⟩, .string ⟨#[]⟩, .int .i64 0]), 3, 40) := by kernel_rfl
/-- What the regions of change load. -/
def ChgS (w : World) (d D : Nat) (a c : ByteArray) (file : Int) (W : World) : Prop := W.cell? ⟨d, 5, none⟩ = some (.map (some D)) ∧ W.cell? ⟨w.heap.size, 0, none⟩ = some (.string a) ∧ W.cell? ⟨w.heap.size, 1, none⟩ = some (.string c) ∧ W.cell? ⟨w.heap.size, 2, none⟩ = some (.int .i64 file)
theorem chgS_start (w : World) (d D : Nat) (a c : ByteArray) (file : Int) (hl : d < w.heap.size) (c5 : w.cell? ⟨d, 5, none⟩ = some (.map (some D))) : ChgS w d D a c file (w.alloc (.cells #[.string a, .string c, .int .i64 file] 138)).drew :=
  ⟨(World.cell?_alloc_lt _ _ _ hl).trans c5, (World.cell?_alloc_new w _ _ 0).trans rfl, (World.cell?_alloc_new w _ _ 1).trans rfl, (World.cell?_alloc_new w _ _ 2).trans rfl⟩
theorem chgS_kept {w w1 W : World} {d D : Nat} {a c : ByteArray} {file : Int} (h : ChgS w d D a c file W) (hg : W.grownBy w1 (some D)) (hx : D ≠ d ∧ D < w.heap.size) : ChgS w d D a c file w1 :=
  ⟨hg.cell h.1 (by simp; exact fun e => hx.1 e.symm), hg.cell h.2.1 (by simp; omega), hg.cell h.2.2.1 (by simp; omega), hg.cell h.2.2.2 (by simp; omega)⟩
/-- What a change leaves behind. -/
structure ChgEnd (w w' : World) (d F O D X n m n0 : Nat) (room next : Int) (chg : Value) (df : DataW Value) (xs : List Value) (a c : ByteArray) (file : Int) (chg' : Value) : Prop where
  on : DkOn w' d room next F O D X chg'
  dir : MapAt w' Tryz.prog 9 D (n + 1) (doD df a c file)
  own : w'.ownsRow n0 138 3 chg' (m + 1) (xs ++ [.string a, .string c, .int .i64 file])
  far : ∀ k, chg'.ownBlock = some k → chg.ownBlock = some k ∨ w.heap.size ≤ k
  grow : Grow (fun k => k = d ∨ k = D ∨ chg.ownBlock = some k) w w'
theorem grown_setCell (w : World) (p : Addr) (u : Value) : w.grownBy (w.setCell p u) (some p.block) := ⟨rfl, rfl, rfl, by simp [World.setCell], fun k _ hne => Below.heap_setCell _ _ _ _ (fun e => hne (by rw [e]))⟩
theorem chg_end {w w1 w4 : World} {d F O D X n m n0 gg cap : Nat} {room next : Int} {chg : Value} {df : DataW Value} {xs : List Value} {a c : ByteArray} {file : Int} {o : Obj}
    (hN : D ≠ d ∧ chg.ownBlock ≠ some d ∧ chg.ownBlock ≠ some D ∧ m ≤ 1000000 ∧ n0 ≤ w.heap.size) (hl : d < w.heap.size) (hx : D ≠ d ∧ D < w.heap.size)
    (hg1 : (w.alloc o).drew.grownBy w1 (some D)) (hm1 : MapAt w1 Tryz.prog 9 D (n + 1) (doD df a c file)) (h4 : DkOn w4 d room next F O D X chg)
    (how : w4.ownsRow n0 138 3 (.slice (some ⟨gg, 0, none⟩) (m + 1) cap) (m + 1) (xs ++ [.string a, .string c, .int .i64 file])) (hgr : (w1.drew.alloc o).grownBy w4 chg.ownBlock) (hloc : chg.ownBlock = some gg ∨ gg = w1.heap.size + 1) :
    ChgEnd w (w4.setCell ⟨d, 7, none⟩ (.slice (some ⟨gg, 0, none⟩) (m + 1) cap)) d F O D X n m n0 room next chg df xs a c file (.slice (some ⟨gg, 0, none⟩) (m + 1) cap) := by
  obtain ⟨hD, hc1, hc2, -, -⟩ := hN
  have s1 : w.heap.size + 1 ≤ w1.heap.size := by have := hg1.size; simpa using this
  have hgd : gg ≠ d := by
    rcases hloc with h | h
    · rintro rfl; exact hc1 h
    · omega
  have g0 : Grow (fun k => k = d ∨ k = D ∨ chg.ownBlock = some k) w (w.alloc o).drew := ((Grow.refl _ w).alloc o).drew
  have g1 : Grow (fun k => k = d ∨ k = D ∨ chg.ownBlock = some k) (w.alloc o).drew w1 := Grow.of_grown hg1 (fun k h _ => .inr (.inl (Option.some.inj h).symm))
  have g2 : Grow (fun k => k = d ∨ k = D ∨ chg.ownBlock = some k) w1 (w1.drew.alloc o) := (Grow.refl _ w1).drew.alloc o
  have g3 : Grow (fun k => k = d ∨ k = D ∨ chg.ownBlock = some k) (w1.drew.alloc o) w4 := Grow.of_grown hgr (fun k h _ => .inr (.inr h))
  refine ⟨h4.setChg _, ?_, ?_, ?_, ?_⟩
  · have h1 : MapAt (w1.drew.alloc o) Tryz.prog 9 D (n + 1) (doD df a c file) := (show MapAt w1.drew Tryz.prog 9 D (n + 1) (doD df a c file) from hm1).alloc o
    exact (h1.kept hgr (fun e => hc2 e.symm)).setCell (a := ⟨d, 7, none⟩) hD _
  · exact how.kept (grown_setCell w4 ⟨d, 7, none⟩ _) (.inr (by simpa [Value.ownBlock] using hgd))
  · intro k hk
    have hk' : gg = k := by simpa [Value.ownBlock] using hk
    subst hk'
    rcases hloc with h | h
    · exact .inl h
    · exact .inr (by omega)
  · exact (((g0.trans g1).trans g2).trans g3).setCell _ _ (fun _ => .inl rfl)
set_option maxRecDepth 100000 in
set_option maxHeartbeats 1000000 in
theorem change_any {w : World} {d F O D X n m n0 : Nat} {room next : Int} {chg : Value} {df : DataW Value} {xs : List Value} (a c : ByteArray) (file : Int)
    (h : DkOn w d room next F O D X chg) (hm : MapAt w Tryz.prog 9 D n df) (ho : w.ownsRow n0 138 3 chg m xs) (hn : n < maxLen) (hm' : m ≤ 1000000) (h0 : n0 ≤ w.heap.size) (hD : D ≠ d) (hc1 : chg.ownBlock ≠ some d) (hc2 : chg.ownBlock ≠ some D)
    (ha : a.size ≤ maxLen) (hc : c.size ≤ maxLen) (hne : c.toList.isEmpty = false) :
    Calls Tryz.prog 59 #[.pointer (some ⟨d, 0, none⟩), .agg #[.string a, .string c, .int .i64 file]] w fun e w' => e = .returned (.tuple #[]) ∧ ∃ chg', ChgEnd w w' d F O D X n m n0 room next chg df xs a c file chg' := by
  have hl := h.lt
  have HL := Lib.hid hl
  have HX := Lib.hid (And.intro hD hm.lt)
  obtain ⟨-, -, -, -, -, c5, -, -, -, -⟩ := h.cells
  have H := Lib.hid h
  have HO := Lib.hid ho
  have HD := Lib.hid (do_any (w.alloc (.cells #[.string a, .string c, .int .i64 file] 138)).drew D n df a c file (hm.alloc _) hn ha hc hne)
  have HN := Lib.hid (show D ≠ d ∧ chg.ownBlock ≠ some d ∧ chg.ownBlock ≠ some D ∧ m ≤ 1000000 ∧ n0 ≤ w.heap.size from ⟨hD, hc1, hc2, hm', h0⟩)
  clear h hm ho hn hD hc1 hc2 ha hc hne hm' h0
  go_enter Tryz.func59, Tryz.ntmps59
  go_wp2_with fail
  have HS0 := Lib.hid (chgS_start w d D a c file HL.out c5)
  go_region_held3 (fun W => W.cell? ⟨d, 5, none⟩ = some (.map (some D)) ∧ W.cell? ⟨w.heap.size, 0, none⟩ = some (.string a) ∧ W.cell? ⟨w.heap.size, 1, none⟩ = some (.string c) ∧ W.cell? ⟨w.heap.size, 2, none⟩ = some (.int .i64 file)) (first | exact HS0.out | exact chgS_kept HS0.out hg1 HX.out) ((go_at_call 119; refine HD.out.mono ?_; rintro e w1 ⟨rfl, hm1, hg1⟩))
  have H1 := Lib.hid (show DkOn w1 d room next F O D X chg from ((H.out.alloc (.cells #[.string a, .string c, .int .i64 file] 138)).drew).kept hg1 (by have := HN.out.1; simp; omega))
  have HO1 := Lib.hid (show w1.ownsRow n0 138 3 chg m xs from World.ownsRow.kept ((HO.out.alloc (.cells #[.string a, .string c, .int .i64 file] 138)).drew) hg1 (.inr HN.out.2.2.1))
  have HM1 := Lib.hid hm1
  have HG1 := Lib.hid hg1
  obtain ⟨-, q0, q1, q2⟩ := chgS_kept HS0.out hg1 HX.out
  obtain ⟨-, -, -, -, -, -, -, c7, -, -⟩ := H1.out.cells
  have hl1 : d < w1.heap.size := H1.out.lt
  have hl2 : w.heap.size < w1.heap.size := by have := hg1.size; simp at this; omega
  clear hm1 hg1 c5 HD hl
  obtain ⟨i0, hi, hz0, hz1, hz2⟩ := info_parts infoCh
  have HW := Lib.hid (show (w1.drew.alloc (.cells #[.string a, .string c, .int .i64 file] 138)).ownsRow n0 138 3 chg m xs from HO1.out.drew.alloc _)
  have o1 : m + 1 ≤ maxLen := by have := HN.out.2.2.2.1; unfold maxLen; omega
  have o2 : (m + 1) * 40 ≤ 140737488355328 := by have := HN.out.2.2.2.1; omega
  have o3 : n0 ≤ (w1.drew.alloc (.cells #[.string a, .string c, .int .i64 file] 138)).heap.size := by have := HN.out.2.2.2.2; simp; omega
  go_wp2_with fail
  go_region_law ((refine step_append_lies _ (by rfl) _ _ _ (by rfl) n0 138 i0 _ 3 40 Tryz.underlying130 hi hz0 hz1 hz2 rfl (by decide) _ _ _ (by rfl) HW.out ⟨w1.heap.size, 0, none⟩ 1 1 [.string a, .string c, .int .i64 file] (by rfl) (by rfl) (lit_cells w1.drew _ _) (one_cells rfl) (by decide) o1 o2 o3 (w1.heap.size + 1) (by simp) ?_; intro gg cap w4 how4 hgrow4 hloc4 hlt4; have H4 := Lib.hid (H1.out.drew.alloc (.cells #[.string a, .string c, .int .i64 file] 138) |>.kept hgrow4 (fun e => HN.out.2.1 e.symm)); obtain ⟨-, -, -, -, -, -, -, c7', -, -⟩ := H4.out.cells; have f7 := H4.out.loose 7))
  all_goals exact bodyPost_end (results_none rfl _ _ _) rfl ⟨rfl, _, chg_end HN.out HL.out HX.out HG1.out HM1.out H4.out how4 hgrow4 hloc4⟩
end
section
open Go Go.RowKit Go.Maps Go.WideMaps

theorem step_store_any {P : Program} {w : World} {ops : Array Oper} {o : Oper} {a : Act} {K : Act → World → Prop} {Q : Exit → Act → World → Prop} {E : Prop} (hgd : o.guard = none) (m x v : Operand) (t : TypeId) (hop : o.op = Op.mapUpdate t m x v)
    (k e : TypeId) (KK : Keyed P k) (ht : P.underlying t = some (.map k e)) (b n : Nat) (D : DataW Value)
    (hm : a.eval m = .map (some b)) (hown : MapAt w P k b n D) (hn : n < maxLen) (key val : Value) (kl : Lit) (hx : a.eval x = key) (hv : a.eval v = val) (hkey : keyOf P k key = some kl)
    (hK : ∀ w', MapAt w' P k b (n + 1) (D.put kl (.held val)) → w.grownBy w' (some b) → K (a.put o.dst undef) w') :
    if Region.wanted o (yielded ops a.tmps) = true then Oper.wp P o a w K Q else E := by
  have hw : Region.wanted o (yielded ops a.tmps) = true := by simp [Region.wanted, hgd]
  rw [if_pos hw]
  obtain ⟨w', hrun, r1, r2⟩ := World.ownsMap.update hown KK ht hn hkey (d := .held val) (ps := []) rfl
  unfold Oper.wp
  simp [execOp, hop, hm, hx, hv, hrun, Result.andThen]
  exact hK w' r1 r2
/-- The state of a disk without a fuse: its cells, its four maps, the row of its changes. -/
structure DkS (n0 : Nat) (w : World) (d F O D X : Nat) (room next : Int) (nf no nd nx m : Nat) (ff oo dd xx : DataW Value) (chg : Value) (xs : List Value) : Prop where
  on : DkOn w d room next F O D X chg
  files : MapAt w Tryz.prog 3 F nf ff
  olds : MapAt w Tryz.prog 225 O no oo
  dir : MapAt w Tryz.prog 9 D nd dd
  fixed : MapAt w Tryz.prog 9 X nx xx
  own : w.ownsRow n0 138 3 chg m xs
  apart : d ≠ F ∧ d ≠ O ∧ d ≠ D ∧ d ≠ X ∧ F ≠ O ∧ F ≠ D ∧ F ≠ X ∧ O ≠ D ∧ O ≠ X ∧ D ≠ X
  chgs : ∀ k, chg.ownBlock = some k → k ≠ d ∧ k ≠ F ∧ k ≠ O ∧ k ≠ D ∧ k ≠ X
  low : n0 ≤ d ∧ n0 ≤ F ∧ n0 ≤ O ∧ n0 ≤ D ∧ n0 ≤ X
def file0 : Array Value := #[.slice none 0 0, .int .i64 0, .slice none 0 0]
/-- The blocks that a Create may write. -/
def CrS (d F D : Nat) (chg : Value) (k : Nat) : Prop := k = d ∨ k = F ∨ k = D ∨ chg.ownBlock = some k
theorem ne_empty {s : ByteArray} (h : 1 ≤ s.size) : s.toList.isEmpty = false := by
  rw [Lib.toList_data]
  cases e : s.data.toList with
  | nil => rw [Lib.size_eq, e] at h; simp at h
  | cons a l => rfl
theorem own_grow {S : Nat → Prop} {w w' : World} {base : Nat} {e : TypeId} {size : Nat} {v : Value} {n : Nat} {xs : List Value} (h : w.ownsRow base e size v n xs) (hg : Grow S w w') (hn : ∀ k, v.ownBlock = some k → ¬ S k) : w'.ownsRow base e size v n xs := by
  refine ⟨h.1, ?_⟩
  rcases h.2 with h2 | ⟨g, cap, cur, rfl, hb, hg2, rest⟩
  · exact .inl h2
  · exact .inr ⟨g, cap, cur, rfl, hb, (hg.block g (Array.getElem?_eq_some_iff.1 hg2).1 (hn g (by simp [Value.ownBlock]))).trans hg2, rest⟩
theorem create_end {n0 : Nat} {w w1 w2 : World} {d F O D X : Nat} {room next : Int} {nf no nd nx m : Nat} {ff oo dd xx : DataW Value} {chg chg' : Value} {xs : List Value} {s : ByteArray} {fm : DataW Value}
    (h : DkS n0 w d F O D X room next nf no nd nx m ff oo dd xx chg xs) (hg : Grow (fun k => k = F) w w1) (hm : MapAt w1 Tryz.prog 3 F (nf + 1) fm) (hf : w1.heap[w.heap.size]? = some (.cells file0 135 (0, 0)))
    (hc : ChgEnd w1 w2 d F O D X nd m n0 room next chg dd xs ⟨#[]⟩ s next chg') :
    DkS n0 (w2.setCell ⟨d, 2, none⟩ (.int .i64 (next + 1))) d F O D X room (next + 1) (nf + 1) no (nd + 1) nx (m + 1) fm oo (doD dd ⟨#[]⟩ s next) xx chg' (xs ++ [.string ⟨#[]⟩, .string s, .int .i64 next]) ∧
      (w2.setCell ⟨d, 2, none⟩ (.int .i64 (next + 1))).heap[w.heap.size]? = some (.cells file0 135 (0, 0)) ∧ Grow (CrS d F D chg) w (w2.setCell ⟨d, 2, none⟩ (.int .i64 (next + 1))) := by
  obtain ⟨a1, a2, a3, a4, a5, a6, a7, a8, a9, a10⟩ := h.apart
  have hdl := h.on.lt
  have hcl : ∀ k, chg.ownBlock = some k → k < w.heap.size := fun k hk => (h.own.lt k hk).2
  have g2 : Grow (fun k => k = d ∨ k = D ∨ chg.ownBlock = some k) w1 (w2.setCell ⟨d, 2, none⟩ (.int .i64 (next + 1))) := hc.grow.setCell _ _ (fun _ => .inl rfl)
  have hs := hg.size
  have hno : ∀ k, chg'.ownBlock = some k → k ≠ d ∧ k ≠ F ∧ k ≠ O ∧ k ≠ D ∧ k ≠ X := fun k hk => by
    rcases hc.far k hk with hk | hk
    · exact h.chgs k hk
    · have := h.files.lt; have := h.olds.lt; have := h.dir.lt; have := h.fixed.lt
      omega
  refine ⟨⟨hc.on.setNext _, ?_, ?_, ?_, ?_, ?_, h.apart, hno, h.low⟩, ?_, ?_⟩
  · exact hm.grow g2 (by rintro (e | e | e); exact a1 e.symm; exact a6 e; exact (h.chgs F e).2.1 rfl)
  · exact (h.olds.grow hg (fun e => a5 e.symm)).grow g2 (by rintro (e | e | e); exact a2 e.symm; exact a8 e; exact (h.chgs O e).2.2.1 rfl)
  · exact hc.dir.setCell (a := ⟨d, 2, none⟩) (fun e => a3 e.symm) _
  · exact (h.fixed.grow hg (fun e => a7 e.symm)).grow g2 (by rintro (e | e | e); exact a4 e.symm; exact a10 e.symm; exact (h.chgs X e).2.2.2.2 rfl)
  · exact hc.own.kept (grown_setCell w2 ⟨d, 2, none⟩ _) (by
      cases e : chg'.ownBlock with
      | none => exact .inl rfl
      | some k => right; have := (hno k e).1; simpa using this)
  · exact (g2.block w.heap.size (Array.getElem?_eq_some_iff.1 hf).1 (by rintro (e | e | e); omega; have := h.dir.lt; omega; have := hcl _ e; omega)).trans hf
  · exact (hg.mono (fun k _ e => .inr (.inl e))).trans (g2.mono (fun k _ e => by rcases e with e | e | e; exact .inl e; exact .inr (.inr (.inl e)); exact .inr (.inr (.inr e))))
set_option maxRecDepth 100000 in
set_option maxHeartbeats 2000000 in
theorem create_any {n0 : Nat} {w : World} {d F O D X : Nat} {room next : Int} {nf no nd nx m : Nat} {ff oo dd xx : DataW Value} {chg : Value} {xs : List Value} (s : ByteArray)
    (h : DkS n0 w d F O D X room next nf no nd nx m ff oo dd xx chg xs) (hs : 1 ≤ s.size ∧ s.size ≤ 64) (hnext : (Lit.int .i64 next).wf = true) (hb : nf ≤ 1000000 ∧ nd ≤ 1000000 ∧ m ≤ 1000000) (hx : next + 1 ≤ 1000000 ∧ 0 ≤ next)
    (hnot : Maps.has dd (.string s.data.toList) = false) (hat : dd.atKey (.string s.data.toList) (.held (.int .i64 0)) = .held (.int .i64 0)) (hlen : (Maps.size dd : Int) < 256) :
    Calls Tryz.prog 22 #[.pointer (some ⟨d, 0, none⟩), .string s] w fun e w' => e = .returned (.int .i64 0) ∧ ∃ chg', DkS n0 w' d F O D X room (next + 1) (nf + 1) no (nd + 1) nx (m + 1) (ff.put (.int .i64 next) (.held (.pointer (some ⟨w.heap.size, 0, none⟩)))) oo (doD dd ⟨#[]⟩ s next) xx chg' (xs ++ [.string ⟨#[]⟩, .string s, .int .i64 next]) ∧
      w'.heap[w.heap.size]? = some (.cells file0 135 (0, 0)) ∧ Grow (CrS d F D chg) w w' := by
  have HR := Lib.hid (ready_ok h.on)
  have HV := Lib.hid (valid_ok w s hs.1 hs.2)
  have HS := Lib.hid h
  have ks := Lib.hid (keyOf_string_mk (P := Tryz.prog) Tryz.underlying9 (show s.size ≤ maxLen by unfold maxLen; omega))
  have ki := Lib.hid (keyOf_int_mk (P := Tryz.prog) Tryz.underlying3 hnext)
  have hl : d < w.heap.size := h.on.lt
  obtain ⟨-, -, c2, c3, -, c5, -, -, -, -⟩ := h.on.cells
  have HNot := Lib.hid hnot
  have HSz := Lib.hid hs
  have HNe := Lib.hid (ne_empty hs.1)
  have HAt := Lib.hid hat
  have hb1 : nf < maxLen := by unfold maxLen; omega
  clear h hs hnext hnot hat
  go_enter Tryz.func22, Tryz.ntmps22
  go_wp2_with fail
  refine HR.out.mono ?_
  rintro e w1 ⟨rfl, rfl⟩
  go_wp2_with fail
  refine HV.out.mono ?_
  rintro e w1 ⟨rfl, rfl⟩
  go_wp2_with (first
    | (at_lookup; refine wpList_lookup_ok_any _ rfl _ _ 129 rfl 9 3 dKeyS Tryz.underlying129 (.int .i64 0) (.int .i64 0) (zeroI _) D nd dd rfl HS.out.dir _ _ rfl ks.out HAt.out false HNot.out ?_)
    | (at_len; refine wpList_len_own _ rfl _ 129 rfl 9 3 Tryz.underlying129 heldE D nd dd rfl HS.out.dir ?_))
  have HC1 := Lib.hid (show (w.alloc (.cells #[.slice none 0 0, .int .i64 0, .slice none 0 0] 135)).drew.cell? ⟨d, 3, none⟩ = some (.map (some F)) ∧ (w.alloc (.cells #[.slice none 0 0, .int .i64 0, .slice none 0 0] 135)).drew.cell? ⟨d, 2, none⟩ = some (.int .i64 next) from ⟨(World.cell?_alloc_lt w _ _ hl).trans c3, (World.cell?_alloc_lt w _ _ hl).trans c2⟩)
  have HF := Lib.hid (show MapAt (w.alloc (.cells #[.slice none 0 0, .int .i64 0, .slice none 0 0] 135)).drew Tryz.prog 3 F nf ff from HS.out.files.alloc _)
  have hdF : some d ≠ some F := by have := HS.out.apart.1; simpa using this
  obtain ⟨w1, hrun, hm1, hg1⟩ := World.ownsMap.update HF.out dKeyI Tryz.underlying126 hb1 ki.out (val := .pointer (some ⟨w.heap.size, 0, none⟩)) (d := .held (.pointer (some ⟨w.heap.size, 0, none⟩))) (ps := []) rfl
  have hl1 : d < w1.heap.size := Nat.lt_of_lt_of_le (by simp; omega) hg1.size
  go_region_held3 (fun W => W.cell? ⟨d, 3, none⟩ = some (.map (some F)) ∧ W.cell? ⟨d, 2, none⟩ = some (.int .i64 next)) (first | exact ⟨c3, c2⟩ | exact HC1.out | exact ⟨hg1.cell HC1.out.1 hdF, hg1.cell HC1.out.2 hdF⟩) (fail)
  have G1 := Lib.hid (show Grow (fun k => k = F) w w1 from (((Grow.refl _ w).alloc (.cells #[.slice none 0 0, .int .i64 0, .slice none 0 0] 135)).drew).trans (Grow.of_grown hg1 (fun k h _ => (Option.some.inj h).symm)))
  have HM1 := Lib.hid (show MapAt w1 Tryz.prog 3 F (nf + 1) (ff.put (.int .i64 next) (.held (.pointer (some ⟨w.heap.size, 0, none⟩)))) from hm1)
  have HFil := Lib.hid (show w1.heap[w.heap.size]? = some (.cells file0 135 (0, 0)) from (hg1.block w.heap.size (by simp) (by have := HS.out.files.lt; simp; omega)).trans (heap_alloc_new w _))
  have HOn := Lib.hid (HS.out.on.grow G1.out HS.out.apart.1)
  have HOw := Lib.hid (own_grow HS.out.own G1.out (fun k hk => (HS.out.chgs k hk).2.1))
  have HDi := Lib.hid (HS.out.dir.grow G1.out (fun e => HS.out.apart.2.2.2.2.2.1 e.symm))
  obtain ⟨-, -, c2', -, -, -, -, -, -, -⟩ := HOn.out.cells
  have hss : w.heap.size ≤ w1.heap.size := G1.out.size
  clear hrun hm1 hg1 HF HC1 c2 c3 c5 hdF hb1
  go_wp2_with fail
  refine (change_any ⟨#[]⟩ s next HOn.out HDi.out HOw.out (by unfold maxLen; omega) hb.2.2 (by have := HS.out.low.1; omega) (fun e => HS.out.apart.2.2.1 e.symm) (fun e => (HS.out.chgs _ e).1 rfl) (fun e => (HS.out.chgs _ e).2.2.2.1 rfl) (by decide) (by have := HSz.out.2; unfold maxLen; omega) (HNe.out)).mono ?_
  rintro e w2 ⟨rfl, chg', hce⟩
  have HCe := Lib.hid hce
  obtain ⟨-, -, d2, -, -, -, -, -, -, -⟩ := hce.on.cells
  have f2 := hce.on.loose 2
  clear hce c2'
  go_wp2_with fail
  refine (done_ok (HCe.out.on.setNext (next + 1))).mono ?_
  rintro e w3 ⟨rfl, rfl⟩
  go_wp2_with fail
  go_ret
  exact ⟨rfl, chg', create_end HS.out G1.out HM1.out HFil.out HCe.out⟩
end
end Go.Proofs.YtdjhfcopnhcljaaGreatDoor
