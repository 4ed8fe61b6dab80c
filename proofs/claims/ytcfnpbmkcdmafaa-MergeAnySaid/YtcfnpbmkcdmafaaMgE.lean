/-
  Cursors that are made: cursor, none, from, Of.
-/
import Derived.Test.YtcfnpbmkcdmafaaMgD
namespace Go.Proofs.Ytcfnpbmkcdmafaa
open Go Go.RowKit Go.Shelf

/-- No ghost. -/
def Tt : (Nat → Prop) → List Th → World → Prop := fun _ _ _ => True
abbrev curV (b : Nat) : Value := .iface 112 (.pointer (some ⟨b, 0, none⟩))
abbrev nextV (b : Nat) : Value := .func (.method "Next") #[curV b] #[]
set_option maxRecDepth 100000 in
theorem cursor_any (k : Nat) (lb : Array Value) (w : World) : Calls Try.prog 45 #[.func (.func k) #[] lb] w fun e w' => e = .returned (curV w.heap.size) ∧ w.alloc (.cells #[.func (.func k) #[] lb] 83) = w' := by
  go_enter Try.func45, Try.ntmps45
  go_wp2_with fail
  go_ret
  exact ⟨rfl, rfl⟩
set_option maxRecDepth 100000 in
theorem none_any (w : World) : Calls Try.prog 50 #[] w fun e w' => e = .returned (curV w.heap.size) ∧ w.alloc (.cells #[.nilFunc] 83) = w' := by
  go_enter Try.func50, Try.ntmps50
  go_wp2_with fail
  go_ret
  exact ⟨rfl, rfl⟩
theorem eql_iface (b : Nat) (W : World) : (binOp .eql 30 (curV b) .nilIface).run Try.prog W = .ok (.bool false) W := by kernel_rfl
theorem eql_iface_nil (W : World) : (binOp .eql 30 .nilIface .nilIface).run Try.prog W = .ok (.bool true) W := by kernel_rfl
set_option maxRecDepth 100000 in
theorem from_any (b : Nat) (w : World) : Calls Try.prog 47 #[curV b] w fun e w' => e = .returned (.agg #[nextV b]) ∧ w.alloc (.cells #[nextV b] 83) = w' := by
  have q := eql_iface b
  have hn := nil_ahead b
  go_enter Try.func47, Try.ntmps47
  go_wp2_with fail
  exact bodyPost_ret (v := .agg #[nextV b]) (by simp [results, Try.results47, go_sem]) rfl ⟨rfl, rfl⟩
set_option maxRecDepth 100000 in
theorem from_nil (w : World) : Calls Try.prog 47 #[.nilIface] w fun e w' => e = .returned (.agg #[.nilFunc]) ∧ w.alloc (.cells #[.nilFunc] 83) = w' := by
  have q := eql_iface_nil
  go_enter Try.func47, Try.ntmps47
  go_wp2_with fail
  exact bodyPost_ret (v := .agg #[.nilFunc]) (by simp [results, Try.results47, go_sem]) rfl ⟨rfl, rfl⟩
/-- A cursor around a function that tells. -/
theorem made_new {G : (Nat → Prop) → List Th → World → Prop} {k : Nat} {lb : Array Value} {fv : Value} {Y : Nat → Prop} {L : List Th} {w : World} (t : TypeId) (hf : Fv fv k lb) (h : Tells k lb G Y L w) : MadeAt G w.heap.size (fun x => x = w.heap.size ∨ Y x) L (w.alloc (.cells #[fv] t)) := by
  refine ⟨?_, .inl rfl, ⟨t, 1, by decide, _, heap_alloc_new w _, rfl⟩, .inl ⟨fv, k, lb, Y, cell_of_row _ _ 0 _ _ (0, 0) (heap_alloc_new w _), hf, fun x e => ⟨.inr e, fun e' => ?_⟩, h.keep (by simp) (fun x e => Below.heap_alloc _ _ _ (by have := h.inside x e; omega))⟩⟩
  · rintro x (rfl | e)
    · simp
    · have := h.inside x e; simp; omega
  · have := h.inside x e; omega
theorem made_none {G : (Nat → Prop) → List Th → World → Prop} (hG : ∀ Y L w, G Y L w) (t : TypeId) (w : World) : MadeAt G w.heap.size (fun x => x = w.heap.size) [] (w.alloc (.cells #[.nilFunc] t)) :=
  ⟨by rintro x rfl; simp, rfl, ⟨t, 1, by decide, _, heap_alloc_new w _, rfl⟩, .inr ⟨cell_of_row _ _ 0 _ _ (0, 0) (heap_alloc_new w _), rfl, .inr hG⟩⟩
/-- What Of's closure keeps. -/
def OfJ (c : Nat) (Y : Nat → Prop) (L : List Th) (w : World) : Prop :=
  (∀ k, Y k → k < w.heap.size) ∧ Y c ∧ Bk w c 22 1 ∧ ∃ v, w.cell? ⟨c, 0, none⟩ = some v ∧ ThIn (fun k => Y k ∧ k ≠ c) w v L
theorem OfJ.keep {c : Nat} {Y : Nat → Prop} {L : List Th} {w w' : World} (h : OfJ c Y L w) (hs : w.heap.size ≤ w'.heap.size) (hb : ∀ b, Y b → w'.heap[b]? = w.heap[b]?) : OfJ c Y L w' := by
  obtain ⟨h1, h2, h3, v, h4, h5⟩ := h
  exact ⟨fun k e => Nat.lt_of_lt_of_le (h1 k e) hs, h2, h3.of_heap (hb c h2), v, (World.cell?_of_block (a := ⟨c, 0, none⟩) (hb c h2)).trans h4, h5.keep hs (fun k e _ => ⟨e, hb k e.1⟩)⟩
theorem of1_end {c b off c' : Nat} {p' : Option Addr} {Y : Nat → Prop} {x : Th} {r : List Th} {w : World} (HJ : OfJ c Y (x :: r) w) (hl : r.length ≤ c') (hm : c' ≤ maxLen) (hb : Y b ∧ b ≠ c) (hp : r = [] ∨ p' = some ⟨b, off + 2, none⟩)
    (HC : ∀ j (h : j < (x :: r).length), w.cell? ⟨b, off + j * 2, none⟩ = some (.int .i8 (x :: r)[j].1) ∧ w.cell? ⟨b, off + j * 2 + 1, none⟩ = some (.int .i64 (x :: r)[j].2)) (o : Obj) :
    Upd (allOf Y) w (((w.setCell ⟨c, 0, none⟩ (.slice p' r.length c')).alloc o).drew) ∧ ∃ Y', Sub w.heap.size Y Y' ∧ OfJ c Y' r (((w.setCell ⟨c, 0, none⟩ (.slice p' r.length c')).alloc o).drew) := by
  obtain ⟨j1, j2, j3, v, hc, -⟩ := HJ
  have hcl := j1 _ j2
  have hbl := j1 _ hb.1
  have hu : Upd (allOf Y) w (((w.setCell ⟨c, 0, none⟩ (.slice p' r.length c')).alloc o).drew) := (((Upd.refl (allOf Y) w).setCell c 0 _ (fun _ => j2)).alloc _).drew
  refine ⟨hu, Y, fun k e => .inl e, fun k e => Nat.lt_of_lt_of_le (j1 k e) hu.size, j2, hu.kind _ _ _ j3, .slice p' r.length c', ?_, ?_⟩
  · rw [World.cell?_drew, World.cell?_alloc_lt _ _ _ (by simpa [World.setCell] using hcl), World.cell?_setCell_same _ _ _ (by rw [hc])]
  · refine ⟨_, c', rfl, hl, hm, ?_⟩
    rcases hp with hp | rfl
    · exact .inl hp
    · refine .inr ⟨b, off + 2, rfl, hb, Nat.lt_of_lt_of_le hbl hu.size, fun j hj => ?_⟩
      have g := HC (j + 1) (by simpa using hj)
      rw [show off + (j + 1) * 2 = off + 2 + j * 2 by omega, List.getElem_cons_succ] at g
      have ee : ∀ o', (((w.setCell ⟨c, 0, none⟩ (.slice (some ⟨b, off + 2, none⟩) r.length c')).alloc o).drew).cell? ⟨b, o', none⟩ = w.cell? ⟨b, o', none⟩ := fun o' => by
        rw [World.cell?_drew, World.cell?_alloc_lt _ _ _ (by simpa [World.setCell] using hbl), World.cell?_setCell_other _ _ _ _ (fun e => hb.2 (congrArg Addr.block e).symm)]
      rw [ee, ee]
      exact g
set_option maxRecDepth 100000 in
set_option maxHeartbeats 1000000 in
theorem of1_any {c : Nat} {Y : Nat → Prop} {L : List Th} {w : World} (h : OfJ c Y L w) : Calls Try.prog 46 #[.pointer (some ⟨c, 0, none⟩)] w (TellEnd Y L (OfJ c) w) := by
  have HJ := Lib.hid h
  obtain ⟨h1, h2, h3, v, hc, p, cap, rfl, hl, hm, hrow⟩ := h
  have hcl := h1 _ h2
  have fz := h3.free 0
  cases L with
  | nil =>
    clear h1 h3 hrow h2
    go_enter Try.func46, Try.ntmps46
    go_wp2_with fail
    refine bodyPost_ret (v := .tuple #[.agg #[.int .i8 0, .int .i64 0], .bool false]) (by simp [results, Try.results46, go_sem]) rfl ⟨rfl, (Upd.refl _ _).alloc _, Y, fun x e => .inl e, HJ.out.keep (by simp) (fun x e => Below.heap_alloc _ _ _ (by have := HJ.out.1 x e; omega))⟩
  | cons x r =>
    rcases hrow with h0 | ⟨b, off, rfl, hb, hbl, hcell⟩
    · cases h0
    have HC := Lib.hid hcell
    obtain ⟨c0, c1⟩ := hcell 0 (by simp)
    simp only [Nat.zero_mul, Nat.add_zero, List.getElem_cons_zero] at c0 c1
    clear h1 h3 hcell
    rw [List.length_cons] at hl hc
    have e1 : (1 : Int) ≤ (r.length : Int) + 1 := by omega
    have e2 : (r.length : Int) + 1 ≤ (cap : Int) := by omega
    by_cases hc1 : cap = 1
    · subst hc1
      obtain rfl : r = [] := List.eq_nil_of_length_eq_zero (by omega)
      go_enter Try.func46, Try.ntmps46
      go_wp2_with fail
      go_region
      go_wp2_with fail
      refine bodyPost_ret (v := .tuple #[.agg #[.int .i8 x.1, .int .i64 x.2], .bool true]) (by simp [results, Try.results46, go_sem]) rfl ⟨rfl, ?_⟩
      exact of1_end (r := []) (p' := some ⟨b, off, none⟩) (c' := 0) HJ.out (Nat.le_refl _) (Nat.zero_le _) hb (.inl rfl) HC.out _
    · have hc2 : ¬ (cap : Int) = 1 := by omega
      go_enter Try.func46, Try.ntmps46
      go_wp2_with fail
      go_region
      go_wp2_with fail
      refine bodyPost_ret (v := .tuple #[.agg #[.int .i8 x.1, .int .i64 x.2], .bool true]) (by simp [results, Try.results46, go_sem]) rfl ⟨rfl, ?_⟩
      exact of1_end HJ.out (by omega) (by omega) hb (.inr rfl) HC.out _
/-- The closure of Of tells its row. -/
theorem OfJ.tells {c : Nat} {Y : Nat → Prop} {L : List Th} {w : World} (h : OfJ c Y L w) : Tells 46 #[.pointer (some ⟨c, 0, none⟩)] Tt Y L w :=
  ⟨h.1, OfJ c, Y, fun _ e => e, h, fun _ _ _ h => ⟨h.1, trivial⟩, fun _ _ _ _ h => h.keep, fun _ _ _ h => of1_any h⟩
/-- A new cursor: what it keeps lies in new blocks. -/
def NewCur (L : List Th) (w : World) (e : Ending) (w' : World) : Prop := ∃ b Y, e = .returned (curV b) ∧ MadeAt Tt b Y L w' ∧ (∀ k, Y k → w.heap.size ≤ k) ∧ Below w.heap.size w w'
set_option maxRecDepth 100000 in
set_option maxHeartbeats 1000000 in
theorem of_any {S : Nat → Prop} {v : Value} {L : List Th} {w : World} (h : ThIn S w v L) (hL : L.length ≤ 1000000) : Calls Try.prog 14 #[v] w (NewCur L w) := by
  have HT := Lib.hid h
  obtain ⟨p, cap, rfl, h1, h2, -⟩ := h
  have hmf : ∀ (fn : Fn) (first cap : Array Value) (w : World), (Instr.makeFunc fn first cap).run Try.prog w = .ok (.func fn first cap) w := fun _ _ _ _ => rfl
  go_enter Try.func14, Try.ntmps14
  go_wp2_with (at_builtin; refine wpList_appTh rfl _ _ rfl w.heap.size S _ _ [] L rfl rfl (OwnTh.nil _ _) HT.out (by simp) hL (Nat.le_refl _) ?_; rintro v1 w1 ho hg -; have HO := Lib.hid ho; have HG := Lib.hid hg; obtain ⟨p1, c1, e1, -⟩ := ho.in_ (fun _ => True) (fun _ _ => trivial); clear ho hg; subst e1)
  refine (cursor_any _ _ _).mono ?_
  rintro e w2 ⟨rfl, rfl⟩
  go_wp2_with fail
  go_ret
  have hb1 : Below w.heap.size w w1 := (Below.refl _ _).grown HG.out (Nat.le_refl _) (fun k e => by cases e)
  have hlt := HO.out.lt
  have hj : OfJ w1.heap.size (fun k => k = w1.heap.size ∨ (Value.slice p1 L.length c1).ownBlock = some k) L (w1.alloc (.cells #[.slice p1 L.length c1] 22)) := by
    refine ⟨?_, .inl rfl, ⟨_, heap_alloc_new w1 _, rfl⟩, _, cell_of_row _ _ 0 _ _ (0, 0) (heap_alloc_new w1 _), ?_⟩
    · rintro k (rfl | e)
      · simp
      · have := (hlt k e).2; simp; omega
    · exact (HO.out.alloc _).in_ _ (fun k e => ⟨.inr e, by have := (hlt k e).2; omega⟩)
  have hm := made_new 83 (Fv.clo _ _ (enters_of Try.func46 (by kernel_rfl) rfl)) hj.tells
  rw [show (w1.alloc (.cells #[.slice p1 L.length c1] 22)).heap.size = w1.heap.size + 1 by simp] at hm
  refine ⟨_, _, rfl, hm, ?_, (hb1.alloc hb1.size _).alloc (by have := hb1.size; simp; omega) _⟩
  rintro k (rfl | rfl | e)
  · have := hb1.size; omega
  · exact hb1.size
  · exact (hlt k e).1
end Go.Proofs.Ytcfnpbmkcdmafaa
