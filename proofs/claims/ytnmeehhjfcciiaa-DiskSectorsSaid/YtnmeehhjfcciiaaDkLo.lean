/-
  Disk.Lose of the example: the directory's change and the size are kept, of the two sectors the first.
-/
import Derived.Test.YtnmeehhjfcciiaaDkSq
import Derived.Test.YtnmeehhjfcciiaaDkG
namespace Go.Proofs.Ytnmeehhjfcciiaa
open Go Go.RowKit Go.Maps Go.WideMaps

theorem DkOn.setFix {w : World} {d F O D X : Nat} {room next : Int} {chg : Value} (h : DkOn w d room next F O D X chg) (x : Nat) : DkOn (w.setCell ⟨d, 6, none⟩ (.map (some x))) d room next F O D x chg := by
  show (w.setCell ⟨d, 6, none⟩ (.map (some x))).heap[d]? = _
  rw [Go.heap_setCell_same _ d _ _ _ _ h]
  rfl
theorem DkOn.setDir {w : World} {d F O D X : Nat} {room next : Int} {chg : Value} (h : DkOn w d room next F O D X chg) (x : Nat) : DkOn (w.setCell ⟨d, 5, none⟩ (.map (some x))) d room next F O x X chg := by
  show (w.setCell ⟨d, 5, none⟩ (.map (some x))).heap[d]? = _
  rw [Go.heap_setCell_same _ d _ _ _ _ h]
  rfl
/-- A new disk of room 9, with no file yet: what Lose begins with. -/
structure LsN (w wr : World) (x : Nat) (next : Int) (D X : Nat) : Prop where
  old : Grow (fun _ => False) w wr
  on : DkOn wr (x + 4) 9 next x (x + 1) D X (.slice none 0 0)
  files : MapAt wr Try.prog 3 x 0 (.map [])
  olds : MapAt wr Try.prog 92 (x + 1) 0 (.map [])
  new : w.heap.size ≤ x
theorem LsN.grow {w wr w1 : World} {x D X : Nat} {next : Int} (h : LsN w wr x next D X) (hg : Grow (fun _ => False) wr w1) : LsN w w1 x next D X :=
  ⟨h.old.trans hg, h.on.grow hg (fun e => e), h.files.grow hg (fun e => e), h.olds.grow hg (fun e => e), h.new⟩
theorem LsN.low {w wr : World} {x D X : Nat} {next : Int} (h : LsN w wr x next D X) : x + 4 < wr.heap.size := h.on.lt
theorem LsN.setC {w wr : World} {x D X D' X' : Nat} {next next' : Int} (h : LsN w wr x next D X) (i : Nat) (v : Value) (hn : DkOn (wr.setCell ⟨x + 4, i, none⟩ v) (x + 4) 9 next' x (x + 1) D' X' (.slice none 0 0)) : LsN w (wr.setCell ⟨x + 4, i, none⟩ v) x next' D' X' :=
  ⟨⟨h.old.os, h.old.tape, h.old.output, by simp [World.setCell]; exact h.old.size, fun k hk _ => (Below.heap_setCell _ _ _ _ (by show k ≠ x + 4; have := h.new; omega)).trans (h.old.block k hk (fun e => e))⟩, hn, h.files.setCell (by show x ≠ x + 4; omega) v, h.olds.setCell (by show x + 1 ≠ x + 4; omega) v, h.new⟩
theorem LsN.of_new {w w0 w1 : World} (hg : Grow (fun _ => False) w w0) (h : NewDk w0 w1 9) : LsN w w1 w0.heap.size 0 (w0.heap.size + 2) (w0.heap.size + 3) :=
  ⟨hg.trans ⟨h.below.os, h.below.tape, h.below.output, h.below.size, fun k hk _ => h.below.block k hk⟩, h.disk, h.files, h.olds, hg.size⟩
/-- What Lose has behind its first steps: the new disk with its two directories, the sizes. -/
structure LsB (w wr : World) (x : Nat) (next : Int) (c r sz nx gd gk : Nat) : Prop where
  old : Grow (fun _ => False) w wr
  on : DkOn wr (x + 4) 9 next x (x + 1) c r (.slice none 0 0)
  olds : MapAt wr Try.prog 92 (x + 1) 0 (.map [])
  loss : wr.heap[w.heap.size]? = some (.cells #[.int .i64 1, .slice (some ⟨gd, 0, none⟩) 1 1, .slice (some ⟨gk, 0, none⟩) 1 1] 26 (0, 0))
  fixed : MapAt wr Try.prog 9 r (nx + 1) (oneM (.string [97]) (.int .i64 0))
  dir : MapAt wr Try.prog 9 c (nx + 1) (oneM (.string [97]) (.int .i64 0))
  sizes : MapAt wr Try.prog 3 sz 2 (oneM (.int .i64 0) (.int .i64 100))
  ord : w.heap.size < x ∧ x + 4 < r ∧ r < c ∧ c < sz
theorem LsB.step {S : Nat → Prop} {w wr w1 : World} {x : Nat} {next : Int} {c r sz nx gd gk : Nat} (h : LsB w wr x next c r sz nx gd gk) (hg : Grow S wr w1) (hS : ∀ k, S k → k = x ∨ sz < k) : LsB w w1 x next c r sz nx gd gk := by
  obtain ⟨o1, o2, o3, o4⟩ := h.ord
  have no : ∀ {k : Nat}, k ≠ x → k ≤ sz → ¬ S k := fun h1 h2 hs => by rcases hS _ hs with e | e <;> omega
  exact ⟨h.old.thenNew hg (fun i hi hs => by rcases hS i hs with e | e <;> omega), h.on.grow hg (no (by omega) (by omega)), h.olds.grow hg (no (by omega) (by omega)),
    (hg.block _ (Array.getElem?_eq_some_iff.1 h.loss).1 (no (by omega) (by omega))).trans h.loss, h.fixed.grow hg (no (by omega) (by omega)), h.dir.grow hg (no (by omega) (by omega)), h.sizes.grow hg (no (by omega) (by omega)), h.ord⟩
theorem LsB.same {w wr w1 : World} {x : Nat} {next : Int} {c r sz nx gd gk : Nat} (h : LsB w wr x next c r sz nx gd gk) (hg : Grow (fun _ => False) wr w1) : LsB w w1 x next c r sz nx gd gk := h.step hg (fun _ e => e.elim)
/-- The new file: its bytes are those of the old one. -/
def NewF (wr : World) (x it : Nat) (ys : List Value) : Prop :=
  ∃ g2 gb cap2, MapAt wr Try.prog 3 x 1 (oneM (.int .i64 0) (.pointer (some ⟨g2, 0, none⟩))) ∧ FileAt wr g2 (.slice (some ⟨gb, 0, none⟩) 100 cap2) 100 (.slice none 0 0) ∧ wr.ownsRow it 5 1 (.slice (some ⟨gb, 0, none⟩) 100 cap2) 100 ys ∧ it < g2 ∧ it < gb ∧ g2 ≠ gb
/-- The first loop. -/
structure LsL (w wr : World) (x : Nat) (next : Int) (c r sz nx gd gk fn it k : Nat) (left : Lit → Bool) (cnt : Nat) : Prop where
  base : LsB w wr x next c r sz nx gd gk
  rg : wr.ranges Try.prog 3 heldE fn it 1 (oneM (.int .i64 0) (.agg #[])) left cnt
  one : OneR (.int .i64 0) (.agg #[]) left k 1
  st : (k = 0 ∧ MapAt wr Try.prog 3 x 0 (.map [])) ∨ (k = 1 ∧ NewF wr x it xs100)
  ord : sz < fn ∧ fn < it
theorem run_lookup_any {P : Program} (w : World) {t k e : TypeId} (K : Keyed P k) (ht : P.underlying t = some (.map k e)) (z v : Value) (hz : (zeroValue e).run P w = .ok z w) {b n : Nat} {D : DataW Value} (hown : MapAt w P k b n D) {key : Value} {kl : Lit} (hkey : keyOf P k key = some kl) (hat : D.atKey kl (.held z) = .held v) :
    (Instr.lookup t (.map (some b)) key false).run P w = .ok v w := by
  obtain ⟨u, ps, hrun, hu⟩ := World.ownsMap.lookup hown K ht hz (zd := .held z) (zp := []) rfl hkey
  have := heldE_inv hu
  rw [hat] at this
  injection this with this _
  injection this with this
  subst this
  exact hrun
theorem run_update_any {P : Program} (w : World) {t k e : TypeId} (K : Keyed P k) (ht : P.underlying t = some (.map k e)) {b n : Nat} {D : DataW Value} (hown : MapAt w P k b n D) (hn : n < maxLen) {key val : Value} {kl : Lit} (hkey : keyOf P k key = some kl) :
    ∃ w', (Instr.mapUpdate t (.map (some b)) key val).run P w = .ok () w' ∧ MapAt w' P k b (n + 1) (D.put kl (.held val)) ∧ w.grownBy w' (some b) :=
  World.ownsMap.update hown K ht hn hkey rfl
theorem look_sz {W : World} {sz : Nat} (h : MapAt W Try.prog 3 sz 2 (oneM (.int .i64 0) (.int .i64 100))) : (Instr.lookup 84 (.map (some sz)) (.int .i64 0) false).run Try.prog W = .ok (.int .i64 100) W :=
  run_lookup_any W keyI Try.underlying84 (.int .i64 0) (.int .i64 100) (zeroI W) h (keyOf_int_mk (P := Try.prog) Try.underlying3 (q := .i64) (a := 0) (by decide)) (oneM_at _ (sym_int .i64 0))
/-- Behind the clone of the bytes: what the region reads and writes. -/
theorem lose_upd {w w1 w2 : World} {x : Nat} {next : Int} {c r sz nx gd gk g5 c5 it : Nat} (hB : LsB w w1 x next c r sz nx gd gk) (hF : MapAt w1 Try.prog 3 x 0 (.map [])) (how : w2.ownsRow w1.drew.heap.size 5 1 (.slice (some ⟨g5, 0, none⟩) 100 c5) 100 xs100) (hg : Grow (fun _ => False) w1.drew w2) (hit : it < w1.heap.size) :
    ∃ w3, (Instr.mapUpdate 59 (.map (some x)) (.int .i64 0) (.pointer (some ⟨w2.heap.size, 0, none⟩))).run Try.prog (w2.alloc (.cells #[.slice (some ⟨g5, 0, none⟩) 100 c5, .int .i64 100, .slice none 0 0] 69)) = .ok () w3 ∧
      LsB w w3 x next c r sz nx gd gk ∧ NewF w3 x it xs100 ∧ Grow (fun k => k = x) w1 w3 := by
  have hk : keyOf Try.prog 3 (.int .i64 0) = some (.int .i64 0) := keyOf_int_mk (P := Try.prog) Try.underlying3 (q := .i64) (a := 0) (by decide)
  have hg12 : Grow (fun _ => False) w1 w2 := (Grow.refl _ w1).drew.trans hg
  have hF2 : MapAt (w2.alloc (.cells #[.slice (some ⟨g5, 0, none⟩) 100 c5, .int .i64 100, .slice none 0 0] 69)) Try.prog 3 x 0 (.map []) := (hF.grow hg12 (fun e => e)).alloc _
  obtain ⟨w3, hrun, hm3, hg3⟩ := run_update_any _ keyI Try.underlying59 hF2 (by decide) hk (val := .pointer (some ⟨w2.heap.size, 0, none⟩))
  have hx : x < w1.heap.size := hF.lt
  have hs2 := hg12.size
  have hg13 : Grow (fun k => k = x) w1 w3 := (hg12.alloc _ |>.mono (T := fun k => k = x) (fun _ _ e => e.elim)).trans (Grow.of_grown hg3 (fun k e _ => (Option.some.inj e).symm))
  refine ⟨w3, hrun, hB.step hg13 (fun k e => .inl e), ⟨w2.heap.size, g5, c5, hm3, ?_, ?_, by omega, ?_, ?_⟩, hg13⟩
  · exact (hg3.block w2.heap.size (by simp) (fun e => by have := Option.some.inj e; omega)).trans (heap_alloc_new w2 _)
  · refine own_base (World.ownsRow.kept (how.alloc _) hg3 ?_) (Nat.le_of_lt hit)
    right
    intro e
    have := (how.lt g5 (by simp [Value.ownBlock])).1
    have e' : g5 = x := by simpa [Value.ownBlock] using e
    have : w1.heap.size ≤ g5 := this
    omega
  · have := (how.lt g5 (by simp [Value.ownBlock])).1
    have : w1.heap.size ≤ g5 := this
    omega
  · have := (how.lt g5 (by simp [Value.ownBlock])).2
    omega
def ysE : List Value := List.replicate 64 (.int .u8 120) ++ List.replicate 36 (.int .u8 0)
theorem own_zeroed {W : World} {n1 gb cap : Nat} (h : W.ownsRow n1 5 1 (.slice (some ⟨gb, 0, none⟩) 100 cap) 100 xs100) : ∃ cur, W.heap[gb]? = some (.cells cur 5 (0, 0)) ∧ 100 ≤ cur.size ∧ (W.setRow gb (zeroed cur)).ownsRow n1 5 1 (.slice (some ⟨gb, 0, none⟩) 100 cap) 100 ysE := by
  rcases h.2 with ⟨e, -⟩ | ⟨g, cap', cur, e, hb, hg, h2, h3, h4, h5⟩
  · cases e
  injection e with e1 _ e2
  injection e1 with e1
  injection e1 with e1 _ _
  subst e1 e2
  have hsz : 100 ≤ cur.size := by omega
  have hl : cur.toList.length = cur.size := by simp
  refine ⟨cur, hg, hsz, by rfl, .inr ⟨gb, cap, zeroed cur, rfl, hb, setRow_heap W gb cur _ _ _ hg, h2, h3, ?_, ?_⟩⟩
  · unfold zeroed
    simp only [List.size_toArray, List.length_append, List.length_take, List.length_replicate, List.length_drop, hl]
    omega
  · unfold zeroed
    rw [List.toList_toArray, List.take_append_of_le_length (by simp; omega)]
    rw [List.take_of_length_le (by simp; omega)]
    unfold ysE
    congr 1
    have e : cur.toList.take 64 = (cur.toList.take (100 * 1)).take 64 := by rw [List.take_take]; rfl
    rw [e, h5]
    rfl
/-- What Lose answers. -/
def LostEnd (w : World) (e : Ending) (w' : World) : Prop :=
  ∃ d2 F2 O2 D2 X2 g2 gb cap2 nx2, ∃ next : Int, e = .returned (.tuple #[.pointer (some ⟨d2, 0, none⟩), .int .i64 0]) ∧
    DkS w.heap.size w' d2 F2 O2 D2 X2 9 next 1 0 nx2 nx2 0 (oneM (.int .i64 0) (.pointer (some ⟨g2, 0, none⟩))) (.map []) (oneM (.string [97]) (.int .i64 0)) (oneM (.string [97]) (.int .i64 0)) (.slice none 0 0) [] ∧
    FileAt w' g2 (.slice (some ⟨gb, 0, none⟩) 100 cap2) 100 (.slice none 0 0) ∧ w'.ownsRow w.heap.size 5 1 (.slice (some ⟨gb, 0, none⟩) 100 cap2) 100 ysE ∧ Grow (fun _ => False) w w'
theorem lost_end {w wr : World} {x : Nat} {next : Int} {c r sz nx gd gk it : Nat} (h : LsB w wr x next c r sz nx gd gk) (hf : NewF wr x it ysE) (hit : w.heap.size ≤ it) : LostEnd w (.returned (.tuple #[.pointer (some ⟨x + 4, 0, none⟩), .int .i64 0])) wr := by
  obtain ⟨g2, gb, cap2, h1, h2, h3, h4, h5, h6⟩ := hf
  obtain ⟨o1, o2, o3, o4⟩ := h.ord
  refine ⟨x + 4, x, x + 1, c, r, g2, gb, cap2, nx + 1, next, rfl, ⟨h.on, h1, h.olds, h.dir, h.fixed, World.ownsRow_nil _ _ _ _, ?_, ?_, ?_⟩, h2, own_base h3 hit, h.old⟩
  · omega
  · intro k hk
    cases hk
  · omega
/-- The second loop. -/
structure LsM (w wr : World) (x : Nat) (next : Int) (c r sz nx gd gk it gS : Nat) (ys : List Value) : Prop where
  base : LsB w wr x next c r sz nx gd gk
  row : At2 wr gS 0 1
  file : NewF wr x it ys
  ord : sz < it ∧ it < gS
theorem NewF.grow {wr w1 : World} {x it : Nat} {ys : List Value} (h : NewF wr x it ys) (hg : Grow (fun _ => False) wr w1) : NewF w1 x it ys := by
  obtain ⟨g2, gb, cap2, h1, h2, h3, h4, h5, h6⟩ := h
  exact ⟨g2, gb, cap2, h1.grow hg (fun e => e), h2.grow hg (fun e => e), own_grow h3 hg (fun _ _ e => e), h4, h5, h6⟩
theorem LsM.grow {w wr w1 : World} {x : Nat} {next : Int} {c r sz nx gd gk it gS : Nat} {ys : List Value} (h : LsM w wr x next c r sz nx gd gk it gS ys) (hg : Grow (fun _ => False) wr w1) : LsM w w1 x next c r sz nx gd gk it gS ys := by
  obtain ⟨rest, hr⟩ := h.row
  exact ⟨h.base.same hg, ⟨rest, (hg.block _ (Array.getElem?_eq_some_iff.1 hr).1 (fun e => e)).trans hr⟩, h.file.grow hg, h.ord⟩
theorem lose_last {w W : World} {x : Nat} {next : Int} {c r sz nx gd gk it gS g2 gb cap2 : Nat} (hM : LsM w W x next c r sz nx gd gk it gS xs100) (hm : MapAt W Try.prog 3 x 1 (oneM (.int .i64 0) (.pointer (some ⟨g2, 0, none⟩)))) (hf : FileAt W g2 (.slice (some ⟨gb, 0, none⟩) 100 cap2) 100 (.slice none 0 0)) (ho : W.ownsRow it 5 1 (.slice (some ⟨gb, 0, none⟩) 100 cap2) 100 xs100) (hn : it < g2 ∧ it < gb ∧ g2 ≠ gb) :
    ∃ cur, W.heap[gb]? = some (.cells cur 5 (0, 0)) ∧ 100 ≤ cur.size ∧ LsB w (W.setRow gb (zeroed cur)) x next c r sz nx gd gk ∧ NewF (W.setRow gb (zeroed cur)) x it ysE := by
  obtain ⟨cur, h1, h2, h3⟩ := own_zeroed ho
  have o := hM.ord
  have ob := hM.base.ord
  have hg : Grow (fun k => k = gb) W (W.setRow gb (zeroed cur)) := ⟨rfl, rfl, rfl, by simp, fun k hk hne => setRow_other W gb k _ hne⟩
  exact ⟨cur, h1, h2, hM.base.step hg (fun k e => .inr (by omega)), ⟨g2, gb, cap2, hm.grow hg (by omega), hf.grow hg hn.2.2, h3, hn.1, hn.2.1, hn.2.2⟩⟩
theorem look_old {W : World} {O nn : Nat} (h : MapAt W Try.prog 92 O nn (OL 2)) : (Instr.lookup 60 (.map (some O)) (.agg #[.int .i64 0, .int .i64 1]) false).run Try.prog W = .ok (.slice none 0 0) W :=
  run_lookup_any W keySp Try.underlying60 (.slice none 0 0) (.slice none 0 0) (zeroB W) h (keyOf_spotk 1 (by omega)) (by rw [ol2]; rfl)
set_option maxRecDepth 100000 in
set_option maxHeartbeats 4000000 in
theorem lose_one {n0 n1 : Nat} {w : World} {d F O D X g gg cap gc cc gd gk : Nat} {next : Int} {nf no nd nx : Nat} {wrn : Value}
    (h : DkS n0 w d F O D X 9 next nf no nd nx 1 (oneM (.int .i64 0) (.pointer (some ⟨g, 0, none⟩))) (OL 2) (oneM (.string [97]) (.int .i64 0)) (.map []) (.slice (some ⟨gc, 0, none⟩) 1 cc) [.string ⟨#[]⟩, .string ⟨#[97]⟩, .int .i64 0]) (hnx : nx ≤ 1000)
    (hg : FileAt w g (.slice (some ⟨gg, 0, none⟩) 100 cap) 0 wrn) (hy : w.ownsRow n1 5 1 (.slice (some ⟨gg, 0, none⟩) 100 cap) 100 xs100)
    (hd : w.cell? ⟨gd, 0, none⟩ = some (.bool true)) (hdl : gd < w.heap.size) (hk : w.cell? ⟨gk, 0, none⟩ = some (.bool true)) (hkl : gk < w.heap.size) :
    Calls Try.prog 15 #[.pointer (some ⟨d, 0, none⟩), .agg #[.int .i64 1, .slice (some ⟨gd, 0, none⟩) 1 1, .slice (some ⟨gk, 0, none⟩) 1 1]] w (LostEnd w) := by
  have HS := Lib.hid h
  have HFi := Lib.hid hg
  have HY := Lib.hid hy
  have HD := Lib.hid (And.intro hd hdl)
  have HK := Lib.hid (And.intro hk hkl)
  have HNx := Lib.hid hnx
  clear h hg hy hd hdl hk hkl hnx
  go_enter Try.func15, Try.ntmps15
  go_wp2_with fail
  have hB0 := heap_alloc_new w (.cells #[.int .i64 1, .slice (some ⟨gd, 0, none⟩) 1 1, .slice (some ⟨gk, 0, none⟩) 1 1] 26)
  have HG0 := Lib.hid ((Grow.refl (fun _ => False) w).alloc (.cells #[.int .i64 1, .slice (some ⟨gd, 0, none⟩) 1 1, .slice (some ⟨gk, 0, none⟩) 1 1] 26))
  generalize w.alloc (.cells #[.int .i64 1, .slice (some ⟨gd, 0, none⟩) 1 1, .slice (some ⟨gk, 0, none⟩) 1 1] 26) = w0 at *
  have HB0 := Lib.hid hB0
  clear hB0
  refine (made_yes (HS.out.same HG0.out).on).mono ?_
  rintro e w1 ⟨rfl, rfl⟩
  go_wp2_with fail
  have hl := (HS.out.same HG0.out).on.lt
  obtain ⟨-, -, -, -, -, -, -, c7, -, -⟩ := (HS.out.same HG0.out).on.cells
  have l0 := cell_of_row w0 w.heap.size 0 _ _ (0, 0) HB0.out
  have hL := (Array.getElem?_eq_some_iff.1 HB0.out).1
  go_quiet (fail)
  have HG1 := Lib.hid (show Grow (fun _ => False) w (w0.drewN nq) from HG0.out.trans ⟨rfl, rfl, rfl, Nat.le_refl _, fun _ _ _ => rfl⟩)
  have HB1 := Lib.hid (show (w0.drewN nq).heap[w.heap.size]? = some (.cells #[.int .i64 1, .slice (some ⟨gd, 0, none⟩) 1 1, .slice (some ⟨gk, 0, none⟩) 1 1] 26 (0, 0)) from HB0.out)
  clear hl c7 l0 hL
  generalize w0.drewN nq = w1 at *
  clear HB0 HG0
  obtain ⟨-, c1, -, -, -, -, -, -, -, -⟩ := (HS.out.same HG1.out).on.cells
  go_wp2_with fail
  refine (empty_any w1 9).mono ?_
  rintro e w2 ⟨rfl, hN⟩
  have HX := Lib.hid (LsN.of_new HG1.out hN)
  have HB2 := Lib.hid ((hN.below.block _ (Array.getElem?_eq_some_iff.1 HB1.out).1).trans HB1.out)
  obtain ⟨x, HXe⟩ : ∃ x, Hid (x = w1.heap.size) := ⟨_, Lib.hid rfl⟩
  rw [← HXe.out] at HX ⊢
  have HXw := Lib.hid (show w.heap.size < x by rw [HXe.out]; exact (Array.getElem?_eq_some_iff.1 HB1.out).1)
  clear hN c1 HB1 HG1 HXe
  obtain ⟨-, -, c2, -, -, -, -, -, -, -⟩ := (HS.out.same HX.out.old).on.cells
  obtain ⟨-, -, d2, -, -, -, -, -, -, -⟩ := HX.out.on.cells
  have f2 := HX.out.on.loose 2
  have l0 := cell_of_row w2 w.heap.size 0 _ _ (0, 0) HB2.out
  have hL := (Array.getElem?_eq_some_iff.1 HB2.out).1
  have hxw : ¬ w.heap.size = x + 4 := by have := HX.out.new; omega
  go_wp2_with fail
  have HX3 := Lib.hid (HX.out.setC 2 (.int .i64 next) (HX.out.on.setNext next))
  have HB3 := Lib.hid ((Below.heap_setCell w2 ⟨x + 4, 2, none⟩ (.int .i64 next) w.heap.size hxw).trans HB2.out)
  clear HX HB2 c2 d2 f2 l0 hL
  generalize w2.setCell ⟨x + 4, 2, none⟩ (.int .i64 next) = w3 at *
  refine (dirAfter_one ⟨#[]⟩ ⟨#[97]⟩ (HS.out.same HX3.out.old) (by have := HNx.out; omega) (by decide) (by decide) (ne_empty (by decide))).mono ?_
  rintro e w4 ⟨r, rfl, hr, hmr, hg4⟩
  have hdo : doD (.map []) ⟨#[]⟩ ⟨#[97]⟩ 0 = oneM (.string [97]) (.int .i64 0) := by rfl
  rw [hdo] at hmr
  have HX4 := Lib.hid (HX3.out.grow hg4)
  have HB4 := Lib.hid ((hg4.block _ (Array.getElem?_eq_some_iff.1 HB3.out).1 (fun e => e)).trans HB3.out)
  have HR4 := Lib.hid (show x + 4 < r by have := HX3.out.low; omega)
  have HMr := Lib.hid hmr
  clear hr hmr hg4 hdo HX3 HB3
  obtain ⟨-, -, -, -, -, -, d6, -, -, -⟩ := HX4.out.on.cells
  have f6 := HX4.out.on.loose 6
  go_wp2_with fail
  have HX5 := Lib.hid (HX4.out.setC 6 (.map (some r)) (HX4.out.on.setFix r))
  have HB5 := Lib.hid ((Below.heap_setCell w4 ⟨x + 4, 6, none⟩ (.map (some r)) w.heap.size hxw).trans HB4.out)
  have HMr5 := Lib.hid (HMr.out.setCell (a := ⟨x + 4, 6, none⟩) (by have := HR4.out; show r ≠ x + 4; omega) (.map (some r)))
  clear HX4 HB4 HMr d6 f6
  generalize w4.setCell ⟨x + 4, 6, none⟩ (.map (some r)) = w5 at *
  refine (cloneD_any w5 r _ _ HMr5.out).mono ?_
  rintro e w6 ⟨rfl, hmc, hg6, -⟩
  obtain ⟨c, HC⟩ : ∃ c, Hid (c = w5.heap.size) := ⟨_, Lib.hid rfl⟩
  have HX6 := Lib.hid (HX5.out.grow hg6)
  have HB6 := Lib.hid ((hg6.block _ (Array.getElem?_eq_some_iff.1 HB5.out).1 (fun e => e)).trans HB5.out)
  have HMr6 := Lib.hid (HMr5.out.grow hg6 (fun e => e))
  have HRc := Lib.hid (show r < c by rw [HC.out]; exact HMr5.out.lt)
  rw [← HC.out] at hmc ⊢
  have HMc6 := Lib.hid hmc
  clear hmc hg6 HC HX5 HB5 HMr5
  obtain ⟨-, -, -, -, -, d5, -, -, -, -⟩ := HX6.out.on.cells
  have f5 := HX6.out.on.loose 5
  have l2 := cell_of_row w6 w.heap.size 2 _ _ (0, 0) HB6.out
  have hL := (Array.getElem?_eq_some_iff.1 HB6.out).1
  go_wp2_with fail
  have HX7 := Lib.hid (HX6.out.setC 5 (.map (some c)) (HX6.out.on.setDir c))
  have HB7 := Lib.hid ((Below.heap_setCell w6 ⟨x + 4, 5, none⟩ (.map (some c)) w.heap.size hxw).trans HB6.out)
  have HMr7 := Lib.hid (HMr6.out.setCell (a := ⟨x + 4, 5, none⟩) (by have := HR4.out; show r ≠ x + 4; omega) (.map (some c)))
  have HMc7 := Lib.hid (HMc6.out.setCell (a := ⟨x + 4, 5, none⟩) (by have := HR4.out; have := HRc.out; show c ≠ x + 4; omega) (.map (some c)))
  clear HX6 HB6 HMr6 HMc6 d5 f5 l2 hL
  generalize w6.setCell ⟨x + 4, 5, none⟩ (.map (some c)) = w7 at *
  refine (sizes_one (kc := 1) (HS.out.same HX7.out.old) (HFi.out.grow HX7.out.old (fun e => e)) ((World.cell?_of_block (a := ⟨gk, 0, none⟩) (HX7.out.old.block _ HK.out.2 (fun e => e))).trans HK.out.1) (Nat.lt_of_lt_of_le HK.out.2 HX7.out.old.size)).mono ?_
  rintro e w8 ⟨rfl, hms, hg8⟩
  obtain ⟨sz, HSz⟩ : ∃ sz, Hid (sz = w7.heap.size) := ⟨_, Lib.hid rfl⟩
  have HX8 := Lib.hid (HX7.out.grow hg8)
  have HB8 := Lib.hid ((hg8.block _ (Array.getElem?_eq_some_iff.1 HB7.out).1 (fun e => e)).trans HB7.out)
  have HMr8 := Lib.hid (HMr7.out.grow hg8 (fun e => e))
  have HMc8 := Lib.hid (HMc7.out.grow hg8 (fun e => e))
  have HCs := Lib.hid (show c < sz by rw [HSz.out]; exact HMc7.out.lt)
  rw [← HSz.out] at hms ⊢
  have HMs8 := Lib.hid hms
  clear hms hg8 HSz HX7 HB7 HMr7 HMc7
  obtain ⟨-, -, -, -, -, d5, -, -, -, -⟩ := HX8.out.on.cells
  go_wp2_with fail
  refine (files_one HMc8.out).mono ?_
  rintro e w9 ⟨rfl, hmn, hg9⟩
  obtain ⟨fn, HFn⟩ : ∃ fn, Hid (fn = w8.heap.size) := ⟨_, Lib.hid rfl⟩
  have HX9 := Lib.hid (HX8.out.grow hg9)
  have HB9 := Lib.hid ((hg9.block _ (Array.getElem?_eq_some_iff.1 HB8.out).1 (fun e => e)).trans HB8.out)
  have HMr9 := Lib.hid (HMr8.out.grow hg9 (fun e => e))
  have HMc9 := Lib.hid (HMc8.out.grow hg9 (fun e => e))
  have HMs9 := Lib.hid (HMs8.out.grow hg9 (fun e => e))
  have HSf := Lib.hid (show sz < fn by rw [HFn.out]; exact HMs8.out.lt)
  rw [← HFn.out] at hmn ⊢
  have HMn9 := Lib.hid hmn
  clear hmn hg9 HFn HX8 HB8 HMr8 HMc8 HMs8 d5
  go_wp2_with (at_range; refine wpList_range_own _ rfl _ 86 rfl 3 103 keyI Try.underlying86 heldE fn 1 _ rfl HMn9.out ?_; intro w10 hrg0 hg0 hs0)
  have hg10 : Grow (fun _ => False) w9 w10 := Grow.of_grown hg0 (fun k e _ => by cases e)
  have HB := Lib.hid (show LsB w w10 x next c r sz nx gd gk from
    ⟨HX9.out.old.trans hg10, HX9.out.on.grow hg10 (fun e => e), HX9.out.olds.grow hg10 (fun e => e), (hg10.block _ (Array.getElem?_eq_some_iff.1 HB9.out).1 (fun e => e)).trans HB9.out, HMr9.out.grow hg10 (fun e => e), HMc9.out.grow hg10 (fun e => e), HMs9.out.grow hg10 (fun e => e), HXw.out, HR4.out, HRc.out, HCs.out⟩)
  have HFm0 := Lib.hid (HX9.out.files.grow hg10 (fun e => e))
  have HIt := Lib.hid (show fn < w9.heap.size from HMn9.out.lt)
  have HRg := Lib.hid hrg0
  clear hrg0 hg0 hs0 hg10 HX9 HB9 HMr9 HMc9 HMs9 HMn9
  go_frame
  generalize w9.heap.size = it at *
  have ki0 := Lib.hid (keyOf_int_mk (P := Try.prog) Try.underlying3 (q := .i64) (a := 0) (by decide))
  go_loopw [68] (fun _ wr => ∃ (left : Lit → Bool) (cnt k : Nat), Hid (LsL w wr x next c r sz nx gd gk fn it k left cnt)) (fun _ wr => wr.rangeLeft fn it)
  case atStart => exact ⟨_, _, 0, Lib.hid ⟨HB.out, HRg.out, .inl ⟨rfl, rfl⟩, .inl ⟨rfl, HFm0.out⟩, HSf.out, HIt.out⟩⟩
  case round =>
    obtain ⟨left, cnt, k, hJ⟩ := hrel
    have hrg := Lib.hid hJ.out.rg
    go_wp2_with (at_next; refine wpList_next_ranges _ rfl _ rfl 3 keyI heldE (Value.int .i64) (fun v : Value => v) (fun key kl hk => by obtain ⟨y, e1, -⟩ := Maps.keyOf_int_inv Try.underlying3 hk; exact ⟨y, e1⟩) (fun v y _ => ⟨v, rfl⟩) fn it 1 _ _ _ rfl hrg.out ?_ ?_)
    · intro _ hl0
      have hx := oneR_end hJ.out.one (sym_int .i64 0) hl0
      subst hx
      have HB1 := Lib.hid hJ.out.base
      have HF1 := Lib.hid (show NewF wr x it xs100 from by
        rcases hJ.out.st with ⟨h0, -⟩ | ⟨-, h1⟩
        · omega
        · exact h1)
      have HItl := Lib.hid (show sz < it ∧ it < wr.heap.size from ⟨by have := hJ.out.ord; omega, hJ.out.rg.lt⟩)
      clear hl0 hrg hJ
      have HLo := Lib.hid (loose_two (w := wr) (d := d) (O := O) (nn := no) ((HS.out.same HB1.out.old).on.cells.2.2.2.2.1) (HS.out.same HB1.out.old).olds)
      go_wp2_with fail
      refine HLo.out.mono ?_
      rintro e w2 ⟨gS, cS, rfl, hgS, hA, hg2⟩
      have HM := Lib.hid (show LsM w w2 x next c r sz nx gd gk it gS xs100 from ⟨HB1.out.same hg2, hA, HF1.out.grow hg2, HItl.out.1, by have := HItl.out.2; omega⟩)
      clear hgS hA hg2 HB1 HF1 HLo
      go_wp2_with fail
      refine wp_loop_rounds 3 ?_
      rw [rounds_succ]
      obtain ⟨r0, r1, -, -⟩ := HM.out.row.cells
      have hgl := HM.out.row.lt
      go_wp2_with fail
      have HM3 := Lib.hid (HM.out.grow ((Grow.refl _ w2).alloc (.cells #[.int .i64 0, .int .i64 0] 92)))
      have hA0 := heap_alloc_new w2 (.cells #[.int .i64 0, .int .i64 0] 92)
      clear r0 r1 hgl HM
      generalize w2.alloc (.cells #[.int .i64 0, .int .i64 0] 92) = w3 at *
      have a0 : w3.cell? ⟨w2.heap.size, 0, none⟩ = some (.int .i64 0) := (cell_of_row w3 w2.heap.size 0 _ _ (0, 0) hA0).trans rfl
      have d3 := HM3.out.base.on.cells.2.2.2.1
      have hx4 : x + 4 < w3.heap.size := HM3.out.base.on.lt
      have hal : w2.heap.size < w3.heap.size := (Array.getElem?_eq_some_iff.1 hA0).1
      obtain ⟨g2, gb, cap2, hfm, hfa, hfo, hg2l, hgbl, hg2b⟩ := HM3.out.file
      have HFm2 := Lib.hid hfm
      have HFa2 := Lib.hid hfa
      clear hfm hfa hfo hg2l hgbl hg2b
      have lk := fun n => run_lookup_any (P := Try.prog) (w3.drewN n) (t := 59) keyI Try.underlying59 (.pointer none) (.pointer (some ⟨g2, 0, none⟩)) (zeroF _) (show MapAt (w3.drewN n) Try.prog 3 x 1 _ from HFm2.out) ki0.out rfl
      go_quiet (fail)
      have HM4 := Lib.hid (HM3.out.grow (show Grow (fun _ => False) w3 (w3.drewN nq) from ⟨rfl, rfl, rfl, Nat.le_refl _, fun _ _ _ => rfl⟩))
      clear a0 d3 hx4 hal lk HM3 HFm2 HFa2 hA0
      generalize w3.drewN nq = w4 at *
      have l1 : w4.cell? ⟨w.heap.size, 1, none⟩ = some (.slice (some ⟨gd, 0, none⟩) 1 1) := (cell_of_row w4 w.heap.size 1 _ _ (0, 0) HM4.out.base.loss).trans rfl
      have hL := (Array.getElem?_eq_some_iff.1 HM4.out.base.loss).1
      have HCy := Lib.hid (chosen_yes (cc := 1) ((World.cell?_of_block (a := ⟨gd, 0, none⟩) (HM4.out.base.old.block _ HD.out.2 (fun e => e))).trans HD.out.1))
      go_wp2_with fail
      refine HCy.out.mono ?_
      rintro e w5 ⟨rfl, rfl⟩
      go_wp2_with fail
      clear l1 hL HCy
      rw [rounds_succ]
      obtain ⟨-, -, r2, r3⟩ := HM4.out.row.cells
      have hgl := HM4.out.row.lt
      go_wp2_with fail
      have HM5 := Lib.hid (HM4.out.grow ((Grow.refl _ w4).alloc (.cells #[.int .i64 0, .int .i64 1] 92)))
      have hA0 := heap_alloc_new w4 (.cells #[.int .i64 0, .int .i64 1] 92)
      clear r2 r3 hgl HM4
      generalize w4.alloc (.cells #[.int .i64 0, .int .i64 1] 92) = w5 at *
      generalize w4.heap.size = at_ at *
      have a0 : w5.cell? ⟨at_, 0, none⟩ = some (.int .i64 0) := (cell_of_row w5 at_ 0 _ _ (0, 0) hA0).trans rfl
      have d3 := HM5.out.base.on.cells.2.2.2.1
      have hx4 : x + 4 < w5.heap.size := HM5.out.base.on.lt
      have hal : at_ < w5.heap.size := (Array.getElem?_eq_some_iff.1 hA0).1
      obtain ⟨g2, gb, cap2, hfm, hfa, hfo, hg2l, hgbl, hg2b⟩ := HM5.out.file
      have HFm2 := Lib.hid hfm
      have HFa2 := Lib.hid hfa
      have HFo2 := Lib.hid hfo
      have HFn := Lib.hid (And.intro hg2l (And.intro hgbl hg2b))
      clear hfm hfa hfo hg2l hgbl hg2b
      have lk := fun n => run_lookup_any (P := Try.prog) (w5.drewN n) (t := 59) keyI Try.underlying59 (.pointer none) (.pointer (some ⟨g2, 0, none⟩)) (zeroF _) (show MapAt (w5.drewN n) Try.prog 3 x 1 _ from HFm2.out) ki0.out rfl
      go_quiet (fail)
      have HM6 := Lib.hid (HM5.out.grow (show Grow (fun _ => False) w5 (w5.drewN nq) from ⟨rfl, rfl, rfl, Nat.le_refl _, fun _ _ _ => rfl⟩))
      have HFm6 := Lib.hid (show MapAt (w5.drewN nq) Try.prog 3 x 1 _ from HFm2.out)
      have HFa6 := Lib.hid (show FileAt (w5.drewN nq) g2 _ _ _ from HFa2.out)
      have HFo6 := Lib.hid (show (w5.drewN nq).ownsRow _ _ _ _ _ _ from HFo2.out)
      have HA6 := Lib.hid (show (w5.drewN nq).heap[at_]? = _ from hA0)
      clear a0 d3 hx4 hal lk HM5 HFm2 HFa2 HFo2 hA0
      generalize w5.drewN nq = w6 at *
      have l1 : w6.cell? ⟨w.heap.size, 1, none⟩ = some (.slice (some ⟨gd, 0, none⟩) 1 1) := (cell_of_row w6 w.heap.size 1 _ _ (0, 0) HM6.out.base.loss).trans rfl
      have hL := (Array.getElem?_eq_some_iff.1 HM6.out.base.loss).1
      go_wp2_with fail
      refine chosen_no.mono ?_
      rintro e w7 ⟨rfl, rfl⟩
      go_wp2_with fail
      clear l1 hL
      refine wp_region_still_tail 13 (by kernel_rfl) (by kernel_rfl) ?_
      simp only [List.take_succ_cons, List.take_zero, List.drop_succ_cons, List.drop_zero]
      change wpStill _ _ w6.drew (fun a' => wpList _ _ _ _ a' w6.drew) _ _
      have HM7 := Lib.hid (HM6.out.grow (Grow.refl _ w6).drew)
      have HFm7 := Lib.hid (show MapAt w6.drew Try.prog 3 x 1 _ from HFm6.out)
      have HFa7 := Lib.hid (show FileAt w6.drew g2 _ _ _ from HFa6.out)
      have HFo7 := Lib.hid (show w6.drew.ownsRow _ _ _ _ _ _ from HFo6.out)
      have HA7 := Lib.hid (show w6.drew.heap[at_]? = _ from HA6.out)
      clear HM6 HFm6 HFa6 HFo6 HA6
      generalize w6.drew = W7 at *
      have a0 : W7.cell? ⟨at_, 0, none⟩ = some (.int .i64 0) := (cell_of_row W7 at_ 0 _ _ (0, 0) HA7.out).trans rfl
      have a1 : W7.cell? ⟨at_, 1, none⟩ = some (.int .i64 1) := (cell_of_row W7 at_ 1 _ _ (0, 0) HA7.out).trans rfl
      obtain ⟨f0, -, -⟩ := HFa7.out.cells
      have hg2l : g2 < W7.heap.size := (Array.getElem?_eq_some_iff.1 HFa7.out).1
      have hal : at_ < W7.heap.size := (Array.getElem?_eq_some_iff.1 HA7.out).1
      have hdl : d < W7.heap.size := (HS.out.same HM7.out.base.old).on.lt
      have c4 := (HS.out.same HM7.out.base.old).on.cells.2.2.2.2.1
      have lk := look_old (HS.out.same HM7.out.base.old).olds
      obtain ⟨-, -, hc1, hc2, -⟩ := rowB HFo7.out
      have HCut := Lib.hid (cut_1 W7 gb cap2 hc1 hc2)
      clear hc1 hc2
      iterate 6 still_step
      still_call ((HCut.out).mono (fun _ _ h => ⟨h.1, h.2.symm⟩))
      iterate 6 still_step
      refine wpStill_nil ?_
      clear a0 a1 f0 hg2l hal hdl c4 lk HCut
      obtain ⟨cur, hcur, hcs, hB8, hN8⟩ := lose_last HM7.out HFm7.out HFa7.out HFo7.out HFn.out
      have HE := Lib.hid (lost_end hB8 hN8 (by have := HM7.out.ord; have := HM7.out.base.ord; omega))
      have HRe := Lib.hid (restore_nil W7 gb cur hcur hcs)
      clear hcur hcs hB8 hN8
      go_wp2_with fail
      refine HRe.out.mono ?_
      rintro e w8 ⟨rfl, hw8⟩
      rw [← hw8] at HE
      clear hw8
      go_wp2_with fail
      rw [rounds_succ]
      go_wp2_with fail
      go_ret2
      exact HE.out
    · intro kx cv kl yd yp w1 cnt1 hkey hlk hv hat hrg1 hlt hg1 hs1 hen
      have hkk := oneR_key hJ.out.one hlk
      obtain rfl := int_key Try.underlying3 hkey hkk
      obtain ⟨rfl, rfl, hO⟩ := oneR_step hJ.out.one hlk hv hat (sym_int2 .i64 _ kl)
      have HO := Lib.hid hO
      have HRg1 := Lib.hid hrg1
      have hgr1 : Grow (fun k => k = it) wr w1 := Grow.of_grown hg1 (fun k e _ => (Option.some.inj e).symm)
      have HB1 := Lib.hid (hJ.out.base.step hgr1 (fun k e => by have := hJ.out.ord; omega))
      have HF1 := Lib.hid (show MapAt w1 Try.prog 3 x 0 (.map []) from by
        rcases hJ.out.st with ⟨-, h1⟩ | ⟨h0, -⟩
        · exact h1.grow hgr1 (fun e => by have := hJ.out.ord; have := hJ.out.base.ord; omega)
        · omega)
      have HLt := Lib.hid hlt
      have HOrd := Lib.hid hJ.out.ord
      have HItl := Lib.hid (show it < w1.heap.size from hrg1.lt)
      clear hkey hlk hv hat hrg1 hlt hg1 hs1 hO hkk hgr1
      obtain ⟨-, -, -, c3, -, -, -, -, -, -⟩ := (HS.out.same HB1.out.old).on.cells
      obtain ⟨b0, -, -⟩ := (HFi.out.grow HB1.out.old (fun e => e)).cells
      have hl : d < w1.heap.size := (HS.out.same HB1.out.old).on.lt
      have hlg : g < w1.heap.size := (Array.getElem?_eq_some_iff.1 (HFi.out.grow HB1.out.old (fun e => e))).1
      have HFm := Lib.hid (HS.out.same HB1.out.old).files
      go_wp2_with (at_lookup; refine wpList_lookup_any _ rfl _ _ 59 rfl 3 66 keyI Try.underlying59 (.pointer none) (.pointer (some ⟨g, 0, none⟩)) (zeroF _) F nf _ rfl HFm.out _ _ rfl ki0.out rfl ?_)
      clear c3 b0 hl hlg
      obtain ⟨-, -, -, d3, -, -, -, -, -, -⟩ := HB1.out.on.cells
      have hx4 : x + 4 < w1.heap.size := HB1.out.on.lt
      have lk1 := look_sz (W := w1.drew) HB1.out.sizes
      obtain ⟨hnews, hgl, hc1, hc2, -⟩ := rowB (own_grow HY.out HB1.out.old (fun _ _ e => e))
      have HCl := Lib.hid (cloneB_row w1.drew gg 0 100 cap xs100 (by omega) (by omega) rfl (fun j u hu => by rw [Nat.zero_add]; exact hnews j u hu) (one_cells rfl) hgl)
      have hc1' : (100 : Int) ≤ (cap : Int) := by omega
      have hc2' : (cap : Int) ≤ 9223372036854775807 := by unfold maxLen at hc2; omega
      have d3' : w1.drew.cell? ⟨x + 4, 3, none⟩ = some (.map (some x)) := d3
      clear hnews hgl
      go_region_held3 (fun W => W.cell? ⟨x + 4, 3, none⟩ = some (.map (some x)) ∧ (Instr.lookup 84 (.map (some sz)) (.int .i64 0) false).run Try.prog W = .ok (.int .i64 100) W) (first | exact ⟨d3', lk1⟩ | exact ⟨d32, lk2⟩ | exact ⟨d33, lk3⟩ | exact ⟨d34, lk4⟩) ((go_at_call 38; refine HCl.out.mono ?_; rintro e w2 ⟨g5, c5, rfl, how, hg2⟩; obtain ⟨w3, hrun3, hB3, hN3, hg3⟩ := lose_upd HB1.out HF1.out how hg2 HItl.out; have hB2 := HB1.out.same ((Grow.refl _ w1).drew.trans hg2); have hB2' := hB2.same ((Grow.refl _ w2).alloc (.cells #[.slice (some ⟨g5, 0, none⟩) 100 c5, .int .i64 100, .slice none 0 0] 69)); have hx2 : x + 4 < w2.heap.size := hB2.on.lt; have d32 := hB2.on.cells.2.2.2.1; have d33 := hB2'.on.cells.2.2.2.1; have d34 := hB3.on.cells.2.2.2.1; have lk2 := look_sz hB2.sizes; have lk3 := look_sz hB2'.sizes; have lk4 := look_sz hB3.sizes; have HB3 := Lib.hid hB3; have HN3 := Lib.hid hN3; have HG3 := Lib.hid hg3; clear hB2 hB2' hB3 hN3 hg3 how hg2))
      · have HRg3 := Lib.hid (ranges_same (w' := w3) HRg1.out (fun o ho => (HG3.out.block fn (Array.getElem?_eq_some_iff.1 ho).1 (fun e => by have := HOrd.out; have := HB3.out.ord; omega)).trans ho) (fun o ho _ => (HG3.out.block it (Array.getElem?_eq_some_iff.1 ho).1 (fun e => by have := HOrd.out; have := HB3.out.ord; omega)).trans ho))
        clear d3' lk1 d32 d33 d34 lk2 lk3 lk4 hrun3
        go_wp2
        go_roundw
        case rel => exact ⟨_, cnt1, 1, Lib.hid ⟨HB3.out, HRg3.out, HO.out, .inr ⟨rfl, HN3.out⟩, HOrd.out⟩⟩
        case measure => rw [HRg3.out.left_eq, hrg.out.left_eq]; exact HLt.out
      · have HRg3 := Lib.hid (ranges_same (w' := w3) HRg1.out (fun o ho => (HG3.out.block fn (Array.getElem?_eq_some_iff.1 ho).1 (fun e => by have := HOrd.out; have := HB3.out.ord; omega)).trans ho) (fun o ho _ => (HG3.out.block it (Array.getElem?_eq_some_iff.1 ho).1 (fun e => by have := HOrd.out; have := HB3.out.ord; omega)).trans ho))
        clear d3' lk1 d32 d33 d34 lk2 lk3 lk4 hrun3
        go_wp2
        go_roundw
        case rel => exact ⟨_, cnt1, 1, Lib.hid ⟨HB3.out, HRg3.out, HO.out, .inr ⟨rfl, HN3.out⟩, HOrd.out⟩⟩
        case measure => rw [HRg3.out.left_eq, hrg.out.left_eq]; exact HLt.out
      · have HRg3 := Lib.hid (ranges_same (w' := w3) HRg1.out (fun o ho => (HG3.out.block fn (Array.getElem?_eq_some_iff.1 ho).1 (fun e => by have := HOrd.out; have := HB3.out.ord; omega)).trans ho) (fun o ho _ => (HG3.out.block it (Array.getElem?_eq_some_iff.1 ho).1 (fun e => by have := HOrd.out; have := HB3.out.ord; omega)).trans ho))
        clear d3' lk1 d32 d33 d34 lk2 lk3 lk4 hrun3
        go_wp2
        go_roundw
        case rel => exact ⟨_, cnt1, 1, Lib.hid ⟨HB3.out, HRg3.out, HO.out, .inr ⟨rfl, HN3.out⟩, HOrd.out⟩⟩
        case measure => rw [HRg3.out.left_eq, hrg.out.left_eq]; exact HLt.out
end Go.Proofs.Ytnmeehhjfcciiaa
