/-
  The laws' copies of a size: texts, terms.
  The laws' copies of a size: atoms.
  A drawn region in which loads are taken first that hold till a call has come up: behind it the cells may change. No program is named here.
  The laws' copies of a size: literals.
  The laws' copies of a size: what a loop of copies keeps that began in any world.
  The laws' copies of a size: rules.
  The laws' copies of a size: declarations.
  The laws' copies of a size: events.
  The laws' copies of a size: declarations whose types lie where they lay at first.
-/
import Derived.Test.YtfjpiofinffpfaaDoorL06
import Derived.RegionTactic
import Derived.BigRegion
import Derived.Deep.RegionLaw
import Derived.Test.YtfjpiofinffpfaaDoorL02
import Derived.Deep.RegionHeld
namespace Go.Proofs.YtfjpiofinffpfaaDoor
section
open Go Go.RowKit Go.Shelf

/-- No more than 300 bytes. -/
def cutB (s : ByteArray) : ByteArray := if 300 < s.size then s.extract 0 300 else s
theorem cutB_data (s : ByteArray) : (cutB s).data.toList = s.data.toList.take 300 := by
  unfold cutB
  split
  · rw [ByteArray.data_extract]
    simp
  · rw [List.take_of_length_le]
    rw [← Lib.size_eq]
    omega
theorem cutB_list (l : List UInt8) : cutB ⟨l.toArray⟩ = ⟨(l.take 300).toArray⟩ := by
  have h := cutB_data ⟨l.toArray⟩
  exact (str_of_list (s := cutB ⟨l.toArray⟩) (l := l.take 300) h.symm).symm
theorem cutB_le (s : ByteArray) : (cutB s).size ≤ 300 := by rw [Lib.size_eq, cutB_data, List.length_take]; omega
def cutT (t : TmL) : TmL := ⟨t.kind, t.name.take 300, (t.val.1, t.val.2.1, cutB t.val.2.2)⟩
theorem cutT_sm {t : TmL} (h : I64 t.val.2.1) : SmT (cutT t) := ⟨by simp only [cutT, List.length_take]; omega, h⟩
set_option maxRecDepth 100000 in
theorem ltext_any (s : ByteArray) (w : World) : Calls Tryd.prog 18 #[.string s] w fun e w' => e = .returned (.string (cutB s)) ∧ w = w' := by
  by_cases h : 300 < s.size
  · have h' : (300 : Int) < (s.size : Int) := by omega
    have h2 : (300 : Int) ≤ (s.size : Int) := by omega
    have HC := Lib.hid (show cutB s = s.extract 0 300 by unfold cutB; rw [if_pos h])
    rw [HC.out]
    clear h
    go_enter Tryd.func18, Tryd.ntmps18
    go_wp2_with fail
    go_ret
    exact ⟨rfl, rfl⟩
  · have h' : ¬ (300 : Int) < (s.size : Int) := by omega
    have HC := Lib.hid (show cutB s = s by unfold cutB; rw [if_neg h])
    rw [HC.out]
    clear h
    go_enter Tryd.func18, Tryd.ntmps18
    go_wp2_with fail
    go_ret
    exact ⟨rfl, rfl⟩
theorem set_14 {A W : World} {b : Nat} {t : TypeId} {u v x y z v' z' : Value} (h : A.heap[b]? = some (.cells #[u, v, x, y, z] t (0, 0))) (hW : ((A.setCell ⟨b, 1, none⟩ v').setCell ⟨b, 4, none⟩ z').drew = W) :
    W.heap[b]? = some (.cells #[u, v', x, y, z'] t (0, 0)) ∧ ∀ k, k ≠ b → W.heap[k]? = A.heap[k]? := by
  subst hW
  have h1 : (A.setCell ⟨b, 1, none⟩ v').heap[b]? = some (.cells #[u, v', x, y, z] t (0, 0)) := Go.heap_setCell_same _ b 1 _ _ v' h
  have h2 : ((A.setCell ⟨b, 1, none⟩ v').setCell ⟨b, 4, none⟩ z').heap[b]? = some (.cells #[u, v', x, y, z'] t (0, 0)) := Go.heap_setCell_same _ b 4 _ _ z' h1
  exact ⟨h2, fun k hk => (heap_setCell_other _ ⟨b, 4, none⟩ k _ hk).trans (heap_setCell_other _ ⟨b, 1, none⟩ k _ hk)⟩
theorem below_14 {A W w : World} {n b : Nat} {v' z' : Value} (h : Below n w A) (hb : n ≤ b) (hW : ((A.setCell ⟨b, 1, none⟩ v').setCell ⟨b, 4, none⟩ z').drew = W) : Below n w W := by
  subst hW
  exact ((h.setCell (p := ⟨b, 1, none⟩) hb _).setCell (p := ⟨b, 4, none⟩) hb _).drew
set_option maxRecDepth 100000 in
set_option maxHeartbeats 4000000 in
theorem lterm_any (t : TmL) (w : World) : Calls Tryd.prog 27 #[valT t] w fun e w' => e = .returned (valT (cutT t)) ∧ Below w.heap.size w w' := by
  obtain ⟨k, nm, v1, v2, v3⟩ := t
  show Calls Tryd.prog 27 #[.agg #[.int .i64 k, .string ⟨nm.toArray⟩, .int .i64 v1, .int .i64 v2, .string v3]] w fun e w' => e = .returned (.agg #[.int .i64 k, .string ⟨(nm.take 300).toArray⟩, .int .i64 v1, .int .i64 v2, .string (cutB v3)]) ∧ Below w.heap.size w w'
  rw [← cutB_list]
  generalize (⟨nm.toArray⟩ : ByteArray) = n
  obtain ⟨w0, hw0⟩ : ∃ w0, (w.alloc (.cells #[.int .i64 k, .string n, .int .i64 v1, .int .i64 v2, .string v3] 53)).alloc (.cells #[.int .i64 0, .string ⟨#[]⟩, .int .i64 0, .int .i64 0, .string ⟨#[]⟩] 53) = w0 := ⟨_, rfl⟩
  have HB := Lib.hid (show Below w.heap.size w w0 by rw [← hw0]; exact below_box2 w _ _)
  have hx := two_newA w (.cells #[.int .i64 k, .string n, .int .i64 v1, .int .i64 v2, .string v3] 53) (.cells #[.int .i64 0, .string ⟨#[]⟩, .int .i64 0, .int .i64 0, .string ⟨#[]⟩] 53)
  rw [hw0] at hx
  have HX := Lib.hid hx
  go_enter Tryd.func27, Tryd.ntmps27
  go_wp2_with fail
  try rw [hw0]
  obtain ⟨⟨c0, c1, c2, c3, c4⟩, f0, f1, f2, f3, f4⟩ := cells5 hx.1
  clear hw0 hx
  go_region_with (go_at_call 18; refine (ltext_any _ _).mono ?_; rintro y w1 ⟨rfl, rfl⟩)
  all_goals
    generalize hW : World.drew _ = W
    obtain ⟨y1, y2⟩ := set_14 (A := w0) HX.out.1 hW
    have HBW := Lib.hid (below_14 (w := w) HB.out (Nat.le_refl _) hW)
    have HY2 := Lib.hid ((y2 (w.heap.size + 1) (by omega)).trans HX.out.2)
    obtain ⟨⟨d0, d1, d2, d3, d4⟩, -⟩ := cells5 y1
    obtain ⟨⟨e0, e1, e2, e3, e4⟩, g0, g1, g2, g3, g4⟩ := cells5 HY2.out
    clear c0 c1 c2 c3 c4 f0 f1 f2 f3 f4 y1 y2 hW
    go_wp2_with fail
    refine bodyPost_ret (results_cell_row (fn := Tryd.f27) (by rfl) _ _ _ _ _ _ _ (by rfl) (row5_set HY2.out) Tryd.underlying53 (by rfl) (by kernel_rfl)) (by rfl) ?_
    refine ⟨rfl, ?_⟩
    exact ((((HBW.out.setCell (p := ⟨w.heap.size + 1, 0, none⟩) (by simp) _).setCell (p := ⟨w.heap.size + 1, 1, none⟩) (by simp) _).setCell (p := ⟨w.heap.size + 1, 2, none⟩) (by simp) _).setCell (p := ⟨w.heap.size + 1, 3, none⟩) (by simp) _).setCell (p := ⟨w.heap.size + 1, 4, none⟩) (by simp) _
end
section
open Go Go.RowKit Go.Shelf

def cutA (a : AtL) : AtL := ⟨a.pred.take 300, (a.args.take 12).map cutT⟩
theorem three_new (w : World) (o o' o'' : Obj) : (((w.alloc o).alloc o').alloc o'').heap[w.heap.size]? = some o ∧ (((w.alloc o).alloc o').alloc o'').heap[w.heap.size + 1]? = some o' ∧ (((w.alloc o).alloc o').alloc o'').heap[w.heap.size + 2]? = some o'' := by
  have s2 : ((w.alloc o).alloc o').heap.size = w.heap.size + 2 := by simp
  have x2 := heap_alloc_new ((w.alloc o).alloc o') o''
  rw [s2] at x2
  have up : ∀ {A : World} {b : Nat} {o p : Obj}, A.heap[b]? = some o → (A.alloc p).heap[b]? = some o := fun h => (Below.heap_alloc _ _ _ (Array.getElem?_eq_some_iff.1 h).1).trans h
  exact ⟨up (two_newA w o o').1, up (two_newA w o o').2, x2⟩
theorem below_box3 (w : World) (o o' o'' : Obj) : Below w.heap.size w (((w.alloc o).alloc o').alloc o'') := (below_box2 w o o').alloc (by simp; omega) _
/-- What a loop of copies keeps: the argument's struct, the result's, the new one's with the row so far. -/
structure CpS {α : Type} (Y : Lay α) (et : TypeId) (w : World) (a0 a1 : Obj) (a2 : Value → Obj) (L : List α) (v : Value) (wr : World) : Prop where
  own : RowOwn Y et (w.heap.size + 3) wr v L
  below : Below w.heap.size w wr
  size : w.heap.size + 3 ≤ wr.heap.size
  x0 : wr.heap[w.heap.size]? = some a0
  x1 : wr.heap[w.heap.size + 1]? = some a1
  x2 : wr.heap[w.heap.size + 2]? = some (a2 v)
section
variable {α : Type} {Y : Lay α} {et : TypeId} {w w1 wr : World} {a0 a1 : Obj} {a2 : Value → Obj} {L : List α} {v : Value}
theorem CpS.on (h : CpS Y et w a0 a1 a2 L v wr) (hb : Below wr.heap.size wr w1) : CpS Y et w a0 a1 a2 L v w1 :=
  ⟨h.own.keep hb.size fun k _ hk => hb.block k hk, h.below.trans (hb.mono h.below.size), Nat.le_trans h.size hb.size, (hb.block _ (by have := h.size; omega)).trans h.x0, (hb.block _ (by have := h.size; omega)).trans h.x1, (hb.block _ (by have := h.size; omega)).trans h.x2⟩
theorem CpS.lit (h : CpS Y et w a0 a1 a2 L v wr) (o : Obj) : CpS Y et w a0 a1 a2 L v (wr.alloc o) := h.on ((Below.refl _ _).alloc (Nat.le_refl _) o)
/-- Behind the append, ahead of the store. -/
theorem CpS.app {v' : Value} {w2 : World} {L' : List α} (h : CpS Y et w a0 a1 a2 L v wr) (ho : RowOwn Y et (w.heap.size + 3) w2 v' L') (hg : wr.grownBy w2 v.ownBlock) :
    RowOwn Y et (w.heap.size + 3) w2 v' L' ∧ Below w.heap.size w w2 ∧ w.heap.size + 3 ≤ w2.heap.size ∧ w2.heap[w.heap.size]? = some a0 ∧ w2.heap[w.heap.size + 1]? = some a1 ∧ w2.heap[w.heap.size + 2]? = some (a2 v) := by
  have off : ∀ k, k < w.heap.size + 3 → w2.heap[k]? = wr.heap[k]? := fun k hk => hg.block k (by have := h.size; omega) (fun e => by have := (h.own.lt k e.symm).1; omega)
  exact ⟨ho, h.below.grown hg (by have := h.size; omega) (fun k e => by have := (h.own.lt k e).1; omega), Nat.le_trans h.size hg.size, (off _ (by omega)).trans h.x0, (off _ (by omega)).trans h.x1, (off _ (by omega)).trans h.x2⟩
/-- Behind the store. -/
theorem CpS.put {v' : Value} {w2 w3 : World} {L' : List α} (h : RowOwn Y et (w.heap.size + 3) w2 v' L' ∧ Below w.heap.size w w2 ∧ w.heap.size + 3 ≤ w2.heap.size ∧ w2.heap[w.heap.size]? = some a0 ∧ w2.heap[w.heap.size + 1]? = some a1 ∧ w2.heap[w.heap.size + 2]? = some (a2 v))
    (hs : w3.heap.size = w2.heap.size) (hw : w3.heap[w.heap.size + 2]? = some (a2 v')) (hk : ∀ k, k ≠ w.heap.size + 2 → w3.heap[k]? = w2.heap[k]?) (hb : Below w.heap.size w w3) : CpS Y et w a0 a1 a2 L' v' w3 :=
  ⟨h.1.keep (by omega) fun k hB _ => hk k (by omega), hb, by rw [hs]; exact h.2.2.1, (hk _ (by omega)).trans h.2.2.2.1, (hk _ (by omega)).trans h.2.2.2.2.1, hw⟩
theorem rowOwn_shape {B : Nat} (h : RowOwn Y et B wr v L) : ∃ p n c, v = .slice p n c ∧ n = L.length := by
  obtain ⟨us, ho, -⟩ := h
  rcases ho.2 with ⟨rfl, e⟩ | ⟨g, cap, cur, rfl, -⟩
  · exact ⟨none, 0, 0, rfl, e.symm⟩
  · exact ⟨_, _, _, rfl, rfl⟩
theorem CpS.shape (h : CpS Y et w a0 a1 a2 L v wr) : ∃ p c, v = .slice p L.length c := by
  obtain ⟨us, ho, -⟩ := h.own
  rcases ho.2 with ⟨rfl, e⟩ | ⟨g, cap, cur, rfl, -⟩
  · exact ⟨none, 0, by rw [e]⟩
  · exact ⟨_, _, rfl⟩
theorem take_map_succ {β : Type} {f : α → β} {k : Nat} (h : k < L.length) : (L.take (k + 1)).map f = (L.take k).map f ++ [f L[k]] := by
  rw [List.take_succ_eq_append_getElem h, List.map_append, List.map_singleton]
end
/-- One cell of a struct set. -/
theorem set_one {A W : World} {b i : Nat} {cs : Array Value} {t : TypeId} {u : Value} (h : A.heap[b]? = some (.cells cs t (0, 0))) (hW : (A.setCell ⟨b, i, none⟩ u).drew = W) :
    W.heap[b]? = some (.cells (cs.setIfInBounds i u) t (0, 0)) ∧ (∀ k, k ≠ b → W.heap[k]? = A.heap[k]?) ∧ W.heap.size = A.heap.size ∧ ∀ n (w : World), Below n w A → n ≤ b → Below n w W := by
  subst hW
  exact ⟨Go.heap_setCell_same _ b i _ _ u h, fun k hk => heap_setCell_other _ ⟨b, i, none⟩ k _ hk, by simp, fun n w hb hn => (hb.setCell (p := ⟨b, i, none⟩) hn _).drew⟩
set_option maxRecDepth 100000 in
set_option maxHeartbeats 8000000 in
theorem latom_any (a : AtL) (u : Value) (S : Nat → Prop) (w : World) (h : RowIn tmY S w u a.args) :
    Calls Tryd.prog 16 #[.agg #[.string ⟨a.pred.toArray⟩, u]] w fun e w' => (∃ v, e = .returned (.agg #[.string ⟨(cutA a).pred.toArray⟩, v]) ∧ RowIn tmY (fun k => w.heap.size ≤ k) w' v (cutA a).args) ∧ Below w.heap.size w w' := by
  have HI := Lib.hid h
  obtain ⟨p, c, rfl⟩ := h.shape
  have hn2 := len_le h
  obtain ⟨n, hn⟩ : ∃ n, n = a.args.length := ⟨_, rfl⟩
  have HN := Lib.hid hn
  obtain ⟨nm, hnm⟩ : ∃ nm : ByteArray, nm = ⟨a.pred.toArray⟩ := ⟨_, rfl⟩
  have hcut : (⟨(cutA a).pred.toArray⟩ : ByteArray) = cutB nm := by rw [hnm, cutB_list]; rfl
  have HArgs := Lib.hid (show (cutA a).args = (a.args.take 12).map cutT from rfl)
  rw [hcut, ← hnm, ← hn]
  rw [← hn] at HI hn2
  have hn3 : (n : Int) ≤ 9223372036854775807 := by omega
  clear h hnm hcut hn hn2
  obtain ⟨w0, hw0⟩ : ∃ w0, (((w.alloc (.cells #[.string nm, .slice p n c] 24)).alloc (.cells #[.string ⟨#[]⟩, .slice none 0 0] 24)).alloc (.cells #[.string (cutB nm), .slice none 0 0] 24)) = w0 := ⟨_, rfl⟩
  have hx := three_new w (.cells #[.string nm, .slice p n c] 24) (.cells #[.string ⟨#[]⟩, .slice none 0 0] 24) (.cells #[.string (cutB nm), .slice none 0 0] 24)
  have HJ0 : Hid (CpS tmY 53 w (.cells #[.string nm, .slice p n c] 24) (.cells #[.string ⟨#[]⟩, .slice none 0 0] 24) (fun v => .cells #[.string (cutB nm), v] 24) [] (.slice none 0 0) w0) :=
    Lib.hid (by rw [← hw0]; exact ⟨RowOwn.nil _ _ _ _, below_box3 _ _ _ _, by simp, hx.1, hx.2.1, hx.2.2⟩)
  have HW0 := Lib.hid hw0
  clear hx hw0
  go_enter Tryd.func16, Tryd.ntmps16
  go_wp2_with (go_at_call 18; refine (ltext_any _ _).mono ?_; rintro y w1 ⟨rfl, rfl⟩)
  rw [HW0.out]
  go_loopw [4] (fun i wr => ∃ (k : Nat) (v : Value), k ≤ n ∧ k ≤ 12 ∧ i = .int .i64 k ∧ Hid (CpS tmY 53 w (.cells #[.string nm, .slice p n c] 24) (.cells #[.string ⟨#[]⟩, .slice none 0 0] 24) (fun v => .cells #[.string (cutB nm), v] 24) ((a.args.take k).map cutT) v wr)) (fun i _ => n - (intOf i).toNat)
  case atStart => exact ⟨0, _, Nat.zero_le _, Nat.zero_le _, rfl, HJ0⟩
  case round =>
    obtain ⟨k, v, hk, hk12, rfl, HJ⟩ := hrel
    have h0 : (0 : Int) ≤ (k : Int) := by omega
    obtain ⟨⟨c0, c1⟩, f0, f1⟩ := cells2 HJ.out.x0
    by_cases hgo : k < n ∧ k < 12
    · have hlt' : (k : Int) < (n : Int) := by omega
      have hl12 : (k : Int) < 12 := by omega
      have hkn : k < a.args.length := by rw [← HN.out]; exact hgo.1
      obtain ⟨b, off, cc, e1, hbl, a0, a1, a2, a3, a4⟩ := cells5_at (HI.out.in_below HJ.out.below) hkn
      injection e1 with e1 hq1 hq2
      subst e1
      clear hq1 hq2
      obtain ⟨⟨d0, d1⟩, g0, g1⟩ := cells2 HJ.out.x2
      have HStep := Lib.hid (take_map_succ (f := cutT) hkn)
      obtain ⟨X, hX⟩ : ∃ X, X = a.args[k] := ⟨_, rfl⟩
      rw [← hX] at a0 a1 a2 a3 a4 HStep
      clear hX
      have HLt := Lib.hid (lterm_any X)
      obtain ⟨Z, hZ⟩ : ∃ Z, Z = cutT X := ⟨_, rfl⟩
      rw [← hZ] at HLt HStep
      clear hZ
      obtain ⟨K, N, ⟨v1, v2, v3⟩⟩ := X
      unfold valT at HLt
      obtain ⟨T, hT⟩ : ∃ T, T = (a.args.take k).map cutT := ⟨_, rfl⟩
      have HTl := Lib.hid (show T.length ≤ 1000000 by rw [hT, List.length_map, List.length_take]; omega)
      rw [← hT] at HJ HStep
      clear hT
      obtain ⟨pv, cv, rfl⟩ := HJ.out.shape
      simp only at a0 a1 a2 a3 a4 HLt
      clear hgo
      go_wp2_with fail
      go_region_law (first
        | (refine step_appY tmY rfl (.tmp 21) (.tmp 28) 22 53 rfl (w.heap.size + 3) (.agg #[.int .i64 0, .string ⟨#[]⟩, .int .i64 0, .int .i64 0, .string ⟨#[]⟩]) 56 Tryd.underlying22 Tryd.infoTm rfl (by decide) (by decide) _ T Z (cellT Z) w3.heap.size 1 rfl rfl HL3.out.own rfl (lit_rowcells w3 (cellT Z) _) HTl.out HL3.out.size ?_; intro v4 w4 ho hg hv4; obtain ⟨p4, n4, c4, rfl, hn4⟩ := rowOwn_shape ho; have HA4 := Lib.hid (HL3.out.app ho hg); obtain ⟨⟨j0, j1⟩, jf0, jf1⟩ := cells2 HA4.out.2.2.2.2.2; clear ho hg hv4 hn4)
        | (go_simp; go_at_call 27; refine (HLt.out _).mono ?_; rintro y w3 ⟨rfl, hb3⟩; have HJ3 := Lib.hid (HJ.out.on ((Below.refl _ wr).drew.trans hb3)); have HL3 := Lib.hid (HJ3.out.lit (.cells #[.int .i64 Z.kind, .string ⟨Z.name.toArray⟩, .int .i64 Z.val.1, .int .i64 Z.val.2.1, .string Z.val.2.2] 53)); obtain ⟨⟨i0, i1⟩, if0, if1⟩ := cells2 HJ3.out.x0; obtain ⟨⟨l0, l1⟩, lf0, lf1⟩ := cells2 HJ3.out.x2; obtain ⟨⟨m0, m1⟩, mf0, mf1⟩ := cells2 HL3.out.x2; clear hb3))
      all_goals
        go_wp2_with fail
        go_roundw
        case rel =>
          refine ⟨k + 1, .slice p4 n4 c4, by omega, by omega, by go_num, Lib.hid ?_⟩
          rw [HStep.out]
          exact CpS.put HA4.out (by simp) (Go.heap_setCell_same _ (w.heap.size + 2) 1 _ _ _ HA4.out.2.2.2.2.2) (fun j hj => heap_setCell_other _ ⟨w.heap.size + 2, 1, none⟩ j _ hj) (HA4.out.2.1.setCell (p := ⟨w.heap.size + 2, 1, none⟩) (by simp) _)
        case measure => simp [intOf]; omega
    · have HT := Lib.hid (show (a.args.take k).map cutT = (a.args.take 12).map cutT by
        have h1 := HN.out
        rcases Nat.lt_or_ge k 12 with h2 | h2
        · rw [List.take_of_length_le (by omega), List.take_of_length_le (by omega)]
        · rw [show k = 12 by omega])
      obtain ⟨⟨d0, d1⟩, g0, g1⟩ := cells2 HJ.out.x2
      obtain ⟨⟨e0, e1⟩, k0, k1⟩ := cells2 HJ.out.x1
      have HR := Lib.hid (row2_set (u' := .string (cutB nm)) (v' := v) HJ.out.x1)
      have HF : Hid (RowIn tmY (fun j => w.heap.size ≤ j) ((wr.setCell ⟨w.heap.size + 1, 0, none⟩ (.string (cutB nm))).setCell ⟨w.heap.size + 1, 1, none⟩ v) v (cutA a).args ∧ Below w.heap.size w ((wr.setCell ⟨w.heap.size + 1, 0, none⟩ (.string (cutB nm))).setCell ⟨w.heap.size + 1, 1, none⟩ v)) := Lib.hid (by
        refine ⟨?_, (HJ.out.below.setCell (p := ⟨w.heap.size + 1, 0, none⟩) (by simp) _).setCell (p := ⟨w.heap.size + 1, 1, none⟩) (by simp) _⟩
        have ho := HJ.out.own.in_
        rw [HT.out, ← HArgs.out] at ho
        exact ho.keep (by simp) fun j hj _ => ⟨by omega, (heap_setCell_other _ ⟨w.heap.size + 1, 1, none⟩ j _ (show j ≠ w.heap.size + 1 by omega)).trans (heap_setCell_other _ ⟨w.heap.size + 1, 0, none⟩ j _ (show j ≠ w.heap.size + 1 by omega))⟩)
      obtain ⟨pv, n0, cv, rfl, -⟩ := rowOwn_shape HJ.out.own
      by_cases hlt : k < n
      · have hlt' : (k : Int) < (n : Int) := by omega
        have hl12 : ¬ (k : Int) < 12 := by omega
        go_wp2_with fail
        refine bodyPost_ret (results_cell_row (fn := Tryd.f16) (by rfl) _ _ _ _ _ _ _ (by rfl) HR.out Tryd.underlying24 (by rfl) (by kernel_rfl)) (by rfl) ?_
        exact ⟨⟨_, rfl, HF.out.1⟩, HF.out.2⟩
      · have hlt' : ¬ (k : Int) < (n : Int) := by omega
        go_wp2_with fail
        refine bodyPost_ret (results_cell_row (fn := Tryd.f16) (by rfl) _ _ _ _ _ _ _ (by rfl) HR.out Tryd.underlying24 (by rfl) (by kernel_rfl)) (by rfl) ?_
        exact ⟨⟨_, rfl, HF.out.1⟩, HF.out.2⟩
end
section
open Go Go.RowKit Go.Shelf

section
variable {P : Program} {ops : Array Oper} {Q : Exit → Act → World → Prop} {md : Region.Mode} {S : World → Prop} {z : Nat}
/-- In whatever order; till number z has come up the condition is shown of each world. -/
def Till (P : Program) (md : Region.Mode) (ops : Array Oper) (Q : Exit → Act → World → Prop) (S : World → Prop) (z n : Nat) (l : Array Bool) (a : Act) (w : World) : Prop :=
  match n with
  | 0 => Region.ready md ops l = [] ∧ Q .normal a w
  | n + 1 => (Region.ready md ops l = [] → Q .normal a w) ∧ ∀ i ∈ Region.ready md ops l,
      wpOp P ops Q i (fun a' w' => ((l.setIfInBounds i true).getD z true = false → S w') ∧ Till P md ops Q S z n (l.setIfInBounds i true) a' w') a w
theorem Till.any : ∀ (n : Nat) (l : Array Bool) (a : Act) (w : World), Till P md ops Q S z n l a w → wpAny P md ops Q n l a w
  | 0, _, _, _, h => h
  | n + 1, _, _, _, h => ⟨h.1, fun i hi => wpOp_mono (fun a' w' h' => Till.any n _ a' w' h'.2) (h.2 i hi)⟩
/-- Number z waits for number i, by the others of C. -/
def waits (md : Region.Mode) (ops : Array Oper) (i : Nat) (C : List Nat) : Bool :=
  C.all fun c => match ops[c]? with
    | some o => o.after.any fun e => Region.binds md e && (e.on == i || C.contains e.on)
    | none => false
theorem waits.no {i j : Nat} {C : List Nat} {l : Array Bool} (hC : waits md ops i C = true) (hj : j ∈ Region.ready md ops l) (hi : l.getD i true = false) (hl : ∀ c ∈ C, l.getD c true = false) : j ∉ C := by
  intro hjC
  obtain ⟨-, o, ho, hall⟩ := mem_ready.1 hj
  have h := List.all_eq_true.1 hC j hjC
  rw [ho] at h
  obtain ⟨e, he, h⟩ := Array.any_eq_true'.1 h
  rw [Bool.and_eq_true, Bool.or_eq_true, beq_iff_eq] at h
  have h1 := hall e he h.1
  have key : l.getD e.on true = false := by
    rcases h.2 with h2 | h2
    · rw [h2]; exact hi
    · exact hl _ (by simpa using h2)
  rcases Nat.lt_or_ge e.on l.size with h' | h'
  · simp [h'] at h1 key; rw [key] at h1; cases h1
  · simp [Array.getElem?_eq_none h'] at h1
theorem Till.first {i : Nat} {oi : Oper} {v : Value} {C : List Nat} (hi : ops[i]? = some oi) (hsel : ∀ (j : Nat) (o : Oper) cs b, ops[j]? = some o → o.op ≠ .select cs b)
    (hQ : ∀ c a w, Q (.panic c) (a.put oi.dst v) w → Q (.panic c) a w) (hC : waits md ops i C = true) (hz : z ∈ C) (hiC : i ∉ C) :
    ∀ (n : Nat) (l : Array Bool) (a : Act) (w : World), (∀ j oj, ops[j]? = some oj → j ≠ i → l.getD j true = false → (∀ e ∈ oj.after, Region.binds md e = true → e.on ≠ i) → oi.apart ops oj = true) →
      (∀ c ∈ C, l.getD c true = false) → i ∈ Region.ready md ops l → YieldsIf P ops S oi v a → S w →
      Till P md ops Q S z n (l.setIfInBounds i true) (a.put oi.dst v) w → Till P md ops Q S z (n + 1) l a w := by
  intro n
  induction n with
  | zero =>
    intro l a w _ hl hr hy hS H
    refine ⟨fun h => (by rw [h] at hr; cases hr), fun j hj => ?_⟩
    by_cases hji : j = i
    · subst hji
      exact hy.wpOp hi hS ⟨fun _ => hS, H⟩
    · have := ready_mono hj hji
      rw [H.1] at this
      cases this
  | succ n ih =>
    intro l a w hfree hl hr hy hS H
    refine ⟨fun h => (by rw [h] at hr; cases hr), fun j hj => ?_⟩
    by_cases hji : j = i
    · subst hji
      exact hy.wpOp hi hS ⟨fun _ => hS, H⟩
    have hi0 := (mem_ready.1 hr).1
    have hjC := waits.no hC hj hi0 hl
    obtain ⟨hjun, oj, hoj, hall⟩ := mem_ready.1 hj
    have hnot : ∀ e ∈ oj.after, Region.binds md e = true → e.on ≠ i := fun e he hb heq => by
      have h1 := hall e he hb
      rw [heq] at h1
      rcases Nat.lt_or_ge i l.size with h' | h'
      · simp [h'] at hi0 h1; rw [hi0] at h1; cases h1
      · simp [Array.getElem?_eq_none h'] at h1
    have h2 := wpOp_putIf hoj (hfree j oj hoj hji hjun hnot) (fun cs b => hsel i oi cs b hi) (fun cs b => hsel j oj cs b hoj) hQ hy (H.2 j (ready_mono hj hji))
    have hl' : ∀ c ∈ C, (l.setIfInBounds j true).getD c true = false := fun c hc => by
      rw [getD_set_ne true (show j ≠ c from fun e => hjC (by rw [e]; exact hc))]
      exact hl c hc
    refine wpOp_mono (fun a' w' h3 => ?_) h2
    have hS' : S w' := h3.2.1 (by
      rw [getD_set_ne true (show j ≠ z from fun e => hjC (by rw [e]; exact hz)), getD_set_ne true (show i ≠ z from fun e => hiC (by rw [e]; exact hz))]
      exact hl z hz)
    refine ⟨fun _ => hS', ih (l.setIfInBounds j true) a' w' (fun k ok hk hki hun hno => hfree k ok hk hki ?_ hno) hl' (ready_mono hr (Ne.symm hji)) h3.1 hS' ?_⟩
    · by_cases hjk : j = k
      · subst hjk
        exact hjun
      · rw [getD_set_ne true hjk] at hun
        exact hun
    · rw [Array.setIfInBounds_comm _ _ hji]
      exact h3.2.2
/-- One operation that yields in every world that is held, taken first; the frame behind it laid out. -/
theorem Till.take (C : List Nat) (i d : Nat) {oi : Oper} {v : Value} {n : Nat} {l : Array Bool} {a a' : Act} {W : World} (hi : ops[i]? = some oi) (hd : oi.dst = some d)
    (hs : Region.noSelect ops = true) (hf : Region.free md ops l i = true) (hr : (Region.ready md ops l).contains i = true) (hC : (waits md ops i C && C.contains z && !C.contains i && C.all fun c => !l.getD c true) = true)
    (hQ : ∀ c a w, Q (.panic c) (a.put oi.dst v) w → Q (.panic c) a w) (hw : Region.wanted oi (yielded ops a.tmps) = true) (hy : ∀ w, S w → (execOp a.eval oi).run P w = .ok (.value v) w) (hS : S W)
    (ha : a.put (some d) v = a') (h : Till P md ops Q S z n (l.setIfInBounds i true) a' W) : Till P md ops Q S z (n + 1) l a W := by
  simp only [Bool.and_eq_true, Bool.not_eq_true'] at hC
  refine Till.first hi (Region.noSelect_spec hs) hQ hC.1.1.1 (by simpa using hC.1.1.2) (by simpa using hC.1.2) n l a W (Region.free_spec hi hf) (fun c hc => ?_) (by simpa using hr) (.inl ⟨hw, hy⟩) hS (by rw [hd, ha]; exact h)
  have := List.all_eq_true.1 hC.2 c hc
  simpa using this
/-- One that yields whatever the world. -/
theorem Till.firstY {i : Nat} {oi : Oper} {v : Value} (hi : ops[i]? = some oi) (hsel : ∀ (j : Nat) (o : Oper) cs b, ops[j]? = some o → o.op ≠ .select cs b)
    (hQ : ∀ c a w, Q (.panic c) (a.put oi.dst v) w → Q (.panic c) a w) (hiz : i ≠ z) :
    ∀ (n : Nat) (l : Array Bool) (a : Act) (w : World), (∀ j oj, ops[j]? = some oj → j ≠ i → l.getD j true = false → (∀ e ∈ oj.after, Region.binds md e = true → e.on ≠ i) → oi.apart ops oj = true) →
      i ∈ Region.ready md ops l → YieldsIf P ops (fun _ => True) oi v a → (l.getD z true = false → S w) →
      Till P md ops Q S z n (l.setIfInBounds i true) (a.put oi.dst v) w → Till P md ops Q S z (n + 1) l a w := by
  intro n
  induction n with
  | zero =>
    intro l a w _ hr hy hS H
    refine ⟨fun h => (by rw [h] at hr; cases hr), fun j hj => ?_⟩
    by_cases hji : j = i
    · subst hji
      exact hy.wpOp hi trivial ⟨fun h => hS (by rw [getD_set_ne true hiz] at h; exact h), H⟩
    · have := ready_mono hj hji
      rw [H.1] at this
      cases this
  | succ n ih =>
    intro l a w hfree hr hy hS H
    refine ⟨fun h => (by rw [h] at hr; cases hr), fun j hj => ?_⟩
    by_cases hji : j = i
    · subst hji
      exact hy.wpOp hi trivial ⟨fun h => hS (by rw [getD_set_ne true hiz] at h; exact h), H⟩
    have hi0 := (mem_ready.1 hr).1
    obtain ⟨hjun, oj, hoj, hall⟩ := mem_ready.1 hj
    have hnot : ∀ e ∈ oj.after, Region.binds md e = true → e.on ≠ i := fun e he hb heq => by
      have h1 := hall e he hb
      rw [heq] at h1
      rcases Nat.lt_or_ge i l.size with h' | h'
      · simp [h'] at hi0 h1; rw [hi0] at h1; cases h1
      · simp [Array.getElem?_eq_none h'] at h1
    have h2 := wpOp_putIf hoj (hfree j oj hoj hji hjun hnot) (fun cs b => hsel i oi cs b hi) (fun cs b => hsel j oj cs b hoj) hQ hy (H.2 j (ready_mono hj hji))
    refine wpOp_mono (fun a' w' h3 => ?_) h2
    have hS' : (l.setIfInBounds j true).getD z true = false → S w' := fun h => h3.2.1 (by
      rw [Array.setIfInBounds_comm _ _ (Ne.symm hji), getD_set_ne true hiz]
      exact h)
    refine ⟨hS', ih (l.setIfInBounds j true) a' w' (fun k ok hk hki hun hno => hfree k ok hk hki ?_ hno) (ready_mono hr (Ne.symm hji)) h3.1 hS' ?_⟩
    · by_cases hjk : j = k
      · subst hjk
        exact hjun
      · rw [getD_set_ne true hjk] at hun
        exact hun
    · rw [Array.setIfInBounds_comm _ _ hji]
      exact h3.2.2
theorem Till.takeY (i d : Nat) {oi : Oper} {v : Value} {n : Nat} {l : Array Bool} {a a' : Act} {W : World} (hi : ops[i]? = some oi) (hd : oi.dst = some d)
    (hs : Region.noSelect ops = true) (hf : Region.free md ops l i = true) (hr : (Region.ready md ops l).contains i = true) (hiz : i ≠ z)
    (hQ : ∀ c a w, Q (.panic c) (a.put oi.dst v) w → Q (.panic c) a w) (hw : Region.wanted oi (yielded ops a.tmps) = true) (hy : ∀ w, True → (execOp a.eval oi).run P w = .ok (.value v) w) (hS : l.getD z true = false → S W)
    (ha : a.put (some d) v = a') (h : Till P md ops Q S z n (l.setIfInBounds i true) a' W) : Till P md ops Q S z (n + 1) l a W :=
  Till.firstY hi (Region.noSelect_spec hs) hQ hiz n l a W (Region.free_spec hi hf) (by simpa using hr) (.inl ⟨hw, hy⟩) hS (by rw [hd, ha]; exact h)
/-- Only one may come up. -/
theorem Till.one (i : Nat) {o : Oper} {n : Nat} {l : Array Bool} {a : Act} {w : World} (hr : Region.ready md ops l = [i]) (ho : ops[i]? = some o)
    (h : ∀ K' : Act → World → Prop, Go.Shut (∀ a w, ((l.setIfInBounds i true).getD z true = false → S w) → Till P md ops Q S z n (l.setIfInBounds i true) a w → K' a w) → if Region.wanted o (yielded ops a.tmps) = true then Oper.wp P o a w K' Q else K' (a.put o.dst undef) w) :
    Till P md ops Q S z (n + 1) l a w := by
  refine ⟨fun h0 => (by rw [h0] at hr; cases hr), fun j hj => ?_⟩
  rw [hr, List.mem_singleton] at hj
  subst hj
  exact wpOp_step ho (fun K' hK => h K' (fun a w h1 h2 => hK a w ⟨h1, h2⟩))
theorem Till.done {l : Array Bool} {a : Act} {w : World} (hr : Region.ready md ops l = []) (h : Q .normal a w) : ∀ n, Till P md ops Q S z n l a w
  | 0 => ⟨hr, h⟩
  | _ + 1 => ⟨fun _ => h, by rw [hr]; simp⟩
theorem Till.list {n : Nat} {l l' : Array Bool} {a : Act} {W : World} (e : l = l') (h : Till P md ops Q S z n l' a W) : Till P md ops Q S z n l a W := e ▸ h
theorem Till.begin {id : Nat} {a : Act} {w : World} (hm : P.follows .mixedOrders = true) (h : Till P .any ops Q S z ops.size (Array.replicate ops.size false) a w.drew) : (Code.region id ops true).wp P Q a w :=
  wp_region_any hm (Till.any _ _ _ _ h)
end
end
section
open Go Go.RowKit Go.Shelf

def cutLi (l : LiL) : LiL := ⟨l.kind, cutA l.atom, l.op, cutT l.a, cutT l.b⟩
theorem drew_heap (w : World) : w.drew.heap = w.heap := rfl
set_option maxHeartbeats 1000000 in
theorem set_12 {A W : World} {b : Nat} {t : TypeId} {x0 x1 x2 x3 x4 x5 x6 x7 x8 x9 x10 x11 x12 x13 y1 y2 y4 y5 y6 y7 y8 y9 y10 y11 y12 y13 : Value} (h : A.heap[b]? = some (.cells #[x0, x1, x2, x3, x4, x5, x6, x7, x8, x9, x10, x11, x12, x13] t (0, 0)))
    (hW : (((((((((((((A.setCell ⟨b, 1, none⟩ y1).setCell ⟨b, 2, none⟩ y2).setCell ⟨b, 4, none⟩ y4).setCell ⟨b, 5, none⟩ y5).setCell ⟨b, 6, none⟩ y6).setCell ⟨b, 7, none⟩ y7).setCell ⟨b, 8, none⟩ y8).setCell ⟨b, 9, none⟩ y9).setCell ⟨b, 10, none⟩ y10).setCell ⟨b, 11, none⟩ y11).setCell ⟨b, 12, none⟩ y12).setCell ⟨b, 13, none⟩ y13)) = W) : W.heap[b]? = some (.cells #[x0, y1, y2, x3, y4, y5, y6, y7, y8, y9, y10, y11, y12, y13] t (0, 0)) ∧ (∀ k, k ≠ b → W.heap[k]? = A.heap[k]?) ∧ W.heap.size = A.heap.size := by
  subst hW
  have h1 : ((A.setCell ⟨b, 1, none⟩ y1)).heap[b]? = some (.cells #[x0, y1, x2, x3, x4, x5, x6, x7, x8, x9, x10, x11, x12, x13] t (0, 0)) := Go.heap_setCell_same _ b 1 _ _ y1 h
  have h2 : (((A.setCell ⟨b, 1, none⟩ y1).setCell ⟨b, 2, none⟩ y2)).heap[b]? = some (.cells #[x0, y1, y2, x3, x4, x5, x6, x7, x8, x9, x10, x11, x12, x13] t (0, 0)) := Go.heap_setCell_same _ b 2 _ _ y2 h1
  have h3 : ((((A.setCell ⟨b, 1, none⟩ y1).setCell ⟨b, 2, none⟩ y2).setCell ⟨b, 4, none⟩ y4)).heap[b]? = some (.cells #[x0, y1, y2, x3, y4, x5, x6, x7, x8, x9, x10, x11, x12, x13] t (0, 0)) := Go.heap_setCell_same _ b 4 _ _ y4 h2
  have h4 : (((((A.setCell ⟨b, 1, none⟩ y1).setCell ⟨b, 2, none⟩ y2).setCell ⟨b, 4, none⟩ y4).setCell ⟨b, 5, none⟩ y5)).heap[b]? = some (.cells #[x0, y1, y2, x3, y4, y5, x6, x7, x8, x9, x10, x11, x12, x13] t (0, 0)) := Go.heap_setCell_same _ b 5 _ _ y5 h3
  have h5 : ((((((A.setCell ⟨b, 1, none⟩ y1).setCell ⟨b, 2, none⟩ y2).setCell ⟨b, 4, none⟩ y4).setCell ⟨b, 5, none⟩ y5).setCell ⟨b, 6, none⟩ y6)).heap[b]? = some (.cells #[x0, y1, y2, x3, y4, y5, y6, x7, x8, x9, x10, x11, x12, x13] t (0, 0)) := Go.heap_setCell_same _ b 6 _ _ y6 h4
  have h6 : (((((((A.setCell ⟨b, 1, none⟩ y1).setCell ⟨b, 2, none⟩ y2).setCell ⟨b, 4, none⟩ y4).setCell ⟨b, 5, none⟩ y5).setCell ⟨b, 6, none⟩ y6).setCell ⟨b, 7, none⟩ y7)).heap[b]? = some (.cells #[x0, y1, y2, x3, y4, y5, y6, y7, x8, x9, x10, x11, x12, x13] t (0, 0)) := Go.heap_setCell_same _ b 7 _ _ y7 h5
  have h7 : ((((((((A.setCell ⟨b, 1, none⟩ y1).setCell ⟨b, 2, none⟩ y2).setCell ⟨b, 4, none⟩ y4).setCell ⟨b, 5, none⟩ y5).setCell ⟨b, 6, none⟩ y6).setCell ⟨b, 7, none⟩ y7).setCell ⟨b, 8, none⟩ y8)).heap[b]? = some (.cells #[x0, y1, y2, x3, y4, y5, y6, y7, y8, x9, x10, x11, x12, x13] t (0, 0)) := Go.heap_setCell_same _ b 8 _ _ y8 h6
  have h8 : (((((((((A.setCell ⟨b, 1, none⟩ y1).setCell ⟨b, 2, none⟩ y2).setCell ⟨b, 4, none⟩ y4).setCell ⟨b, 5, none⟩ y5).setCell ⟨b, 6, none⟩ y6).setCell ⟨b, 7, none⟩ y7).setCell ⟨b, 8, none⟩ y8).setCell ⟨b, 9, none⟩ y9)).heap[b]? = some (.cells #[x0, y1, y2, x3, y4, y5, y6, y7, y8, y9, x10, x11, x12, x13] t (0, 0)) := Go.heap_setCell_same _ b 9 _ _ y9 h7
  have h9 : ((((((((((A.setCell ⟨b, 1, none⟩ y1).setCell ⟨b, 2, none⟩ y2).setCell ⟨b, 4, none⟩ y4).setCell ⟨b, 5, none⟩ y5).setCell ⟨b, 6, none⟩ y6).setCell ⟨b, 7, none⟩ y7).setCell ⟨b, 8, none⟩ y8).setCell ⟨b, 9, none⟩ y9).setCell ⟨b, 10, none⟩ y10)).heap[b]? = some (.cells #[x0, y1, y2, x3, y4, y5, y6, y7, y8, y9, y10, x11, x12, x13] t (0, 0)) := Go.heap_setCell_same _ b 10 _ _ y10 h8
  have h10 : (((((((((((A.setCell ⟨b, 1, none⟩ y1).setCell ⟨b, 2, none⟩ y2).setCell ⟨b, 4, none⟩ y4).setCell ⟨b, 5, none⟩ y5).setCell ⟨b, 6, none⟩ y6).setCell ⟨b, 7, none⟩ y7).setCell ⟨b, 8, none⟩ y8).setCell ⟨b, 9, none⟩ y9).setCell ⟨b, 10, none⟩ y10).setCell ⟨b, 11, none⟩ y11)).heap[b]? = some (.cells #[x0, y1, y2, x3, y4, y5, y6, y7, y8, y9, y10, y11, x12, x13] t (0, 0)) := Go.heap_setCell_same _ b 11 _ _ y11 h9
  have h11 : ((((((((((((A.setCell ⟨b, 1, none⟩ y1).setCell ⟨b, 2, none⟩ y2).setCell ⟨b, 4, none⟩ y4).setCell ⟨b, 5, none⟩ y5).setCell ⟨b, 6, none⟩ y6).setCell ⟨b, 7, none⟩ y7).setCell ⟨b, 8, none⟩ y8).setCell ⟨b, 9, none⟩ y9).setCell ⟨b, 10, none⟩ y10).setCell ⟨b, 11, none⟩ y11).setCell ⟨b, 12, none⟩ y12)).heap[b]? = some (.cells #[x0, y1, y2, x3, y4, y5, y6, y7, y8, y9, y10, y11, y12, x13] t (0, 0)) := Go.heap_setCell_same _ b 12 _ _ y12 h10
  have h12 : (((((((((((((A.setCell ⟨b, 1, none⟩ y1).setCell ⟨b, 2, none⟩ y2).setCell ⟨b, 4, none⟩ y4).setCell ⟨b, 5, none⟩ y5).setCell ⟨b, 6, none⟩ y6).setCell ⟨b, 7, none⟩ y7).setCell ⟨b, 8, none⟩ y8).setCell ⟨b, 9, none⟩ y9).setCell ⟨b, 10, none⟩ y10).setCell ⟨b, 11, none⟩ y11).setCell ⟨b, 12, none⟩ y12).setCell ⟨b, 13, none⟩ y13)).heap[b]? = some (.cells #[x0, y1, y2, x3, y4, y5, y6, y7, y8, y9, y10, y11, y12, y13] t (0, 0)) := Go.heap_setCell_same _ b 13 _ _ y13 h11
  have o12 : ∀ k, k ≠ b → (((((((((((((A.setCell ⟨b, 1, none⟩ y1).setCell ⟨b, 2, none⟩ y2).setCell ⟨b, 4, none⟩ y4).setCell ⟨b, 5, none⟩ y5).setCell ⟨b, 6, none⟩ y6).setCell ⟨b, 7, none⟩ y7).setCell ⟨b, 8, none⟩ y8).setCell ⟨b, 9, none⟩ y9).setCell ⟨b, 10, none⟩ y10).setCell ⟨b, 11, none⟩ y11).setCell ⟨b, 12, none⟩ y12).setCell ⟨b, 13, none⟩ y13)).heap[k]? = A.heap[k]? := fun k hk => (heap_setCell_other _ ⟨b, 13, none⟩ k _ hk).trans ((heap_setCell_other _ ⟨b, 12, none⟩ k _ hk).trans ((heap_setCell_other _ ⟨b, 11, none⟩ k _ hk).trans ((heap_setCell_other _ ⟨b, 10, none⟩ k _ hk).trans ((heap_setCell_other _ ⟨b, 9, none⟩ k _ hk).trans ((heap_setCell_other _ ⟨b, 8, none⟩ k _ hk).trans ((heap_setCell_other _ ⟨b, 7, none⟩ k _ hk).trans ((heap_setCell_other _ ⟨b, 6, none⟩ k _ hk).trans ((heap_setCell_other _ ⟨b, 5, none⟩ k _ hk).trans ((heap_setCell_other _ ⟨b, 4, none⟩ k _ hk).trans ((heap_setCell_other _ ⟨b, 2, none⟩ k _ hk).trans ((heap_setCell_other _ ⟨b, 1, none⟩ k _ hk))))))))))))
  have s12 : (((((((((((((A.setCell ⟨b, 1, none⟩ y1).setCell ⟨b, 2, none⟩ y2).setCell ⟨b, 4, none⟩ y4).setCell ⟨b, 5, none⟩ y5).setCell ⟨b, 6, none⟩ y6).setCell ⟨b, 7, none⟩ y7).setCell ⟨b, 8, none⟩ y8).setCell ⟨b, 9, none⟩ y9).setCell ⟨b, 10, none⟩ y10).setCell ⟨b, 11, none⟩ y11).setCell ⟨b, 12, none⟩ y12).setCell ⟨b, 13, none⟩ y13)).heap.size = A.heap.size := by simp
  exact ⟨h12, o12, s12⟩
set_option maxHeartbeats 4000000 in
theorem below_12 {A W w : World} {n b : Nat} {y1 y2 y4 y5 y6 y7 y8 y9 y10 y11 y12 y13 : Value} (h : Below n w A) (hb : n ≤ b) (hW : (((((((((((((A.setCell ⟨b, 1, none⟩ y1).setCell ⟨b, 2, none⟩ y2).setCell ⟨b, 4, none⟩ y4).setCell ⟨b, 5, none⟩ y5).setCell ⟨b, 6, none⟩ y6).setCell ⟨b, 7, none⟩ y7).setCell ⟨b, 8, none⟩ y8).setCell ⟨b, 9, none⟩ y9).setCell ⟨b, 10, none⟩ y10).setCell ⟨b, 11, none⟩ y11).setCell ⟨b, 12, none⟩ y12).setCell ⟨b, 13, none⟩ y13)) = W) : Below n w W := by
  subst hW
  exact ((((((((((((h.setCell (p := ⟨b, 1, none⟩) hb _).setCell (p := ⟨b, 2, none⟩) hb _).setCell (p := ⟨b, 4, none⟩) hb _).setCell (p := ⟨b, 5, none⟩) hb _).setCell (p := ⟨b, 6, none⟩) hb _).setCell (p := ⟨b, 7, none⟩) hb _).setCell (p := ⟨b, 8, none⟩) hb _).setCell (p := ⟨b, 9, none⟩) hb _).setCell (p := ⟨b, 10, none⟩) hb _).setCell (p := ⟨b, 11, none⟩) hb _).setCell (p := ⟨b, 12, none⟩) hb _).setCell (p := ⟨b, 13, none⟩) hb _)
set_option maxRecDepth 100000 in
set_option maxHeartbeats 80000000 in
theorem lliteral_any (l : LiL) (u : Value) (S : Nat → Prop) (w : World) (h : RowIn tmY S w u l.atom.args) :
    Calls Tryd.prog 17 #[valLi l u] w fun e w' => (∃ v, e = .returned (valLi (cutLi l) v) ∧ RowIn tmY (fun k => w.heap.size ≤ k) w' v (cutLi l).atom.args) ∧ Below w.heap.size w w' := by
  have HA : Hid (∀ W, Below w.heap.size w W → Calls Tryd.prog 16 #[.agg #[.string ⟨l.atom.pred.toArray⟩, u]] W fun e w' => (∃ v, e = .returned (.agg #[.string ⟨(cutA l.atom).pred.toArray⟩, v]) ∧ RowIn tmY (fun k => W.heap.size ≤ k) w' v (cutA l.atom).args) ∧ Below W.heap.size W w') := Lib.hid (fun W hb => latom_any l.atom u S W (h.in_below hb))
  have HTa := Lib.hid (lterm_any l.a)
  have HTb := Lib.hid (lterm_any l.b)
  obtain ⟨p, c, rfl⟩ := h.shape
  clear h
  obtain ⟨k, at_, op, ta, tb⟩ := l
  unfold valLi cutLi
  simp only at HA HTa HTb ⊢
  obtain ⟨Z, hZ⟩ : ∃ Z, cutT ta = Z := ⟨_, rfl⟩
  obtain ⟨Z2, hZ2⟩ : ∃ Z, cutT tb = Z := ⟨_, rfl⟩
  rw [hZ] at HTa ⊢
  rw [hZ2] at HTb ⊢
  clear hZ hZ2
  obtain ⟨ka, na', ⟨a1, a2, a3⟩⟩ := ta
  obtain ⟨kb, nb', ⟨b1, b2, b3⟩⟩ := tb
  unfold valT at HTa HTb
  simp only at HTa HTb ⊢
  generalize (⟨na'.toArray⟩ : ByteArray) = na at *
  generalize (⟨nb'.toArray⟩ : ByteArray) = nb at *
  generalize (⟨at_.pred.toArray⟩ : ByteArray) = nm at *
  generalize (⟨(cutA at_).pred.toArray⟩ : ByteArray) = pr at *
  generalize at_.args.length = m at *
  generalize (cutA at_).args = T at *
  obtain ⟨w0, hw0⟩ : ∃ w0, (w.alloc (.cells #[.int .i64 k, .string nm, .slice p m c, .int .i64 op, .int .i64 ka, .string na, .int .i64 a1, .int .i64 a2, .string a3, .int .i64 kb, .string nb, .int .i64 b1, .int .i64 b2, .string b3] 57)).alloc (.cells #[.int .i64 0, .string ⟨#[]⟩, .slice none 0 0, .int .i64 0, .int .i64 0, .string ⟨#[]⟩, .int .i64 0, .int .i64 0, .string ⟨#[]⟩, .int .i64 0, .string ⟨#[]⟩, .int .i64 0, .int .i64 0, .string ⟨#[]⟩] 57) = w0 := ⟨_, rfl⟩
  have HB := Lib.hid (show Below w.heap.size w w0 by rw [← hw0]; exact below_box2 w _ _)
  have hx := two_newA w (.cells #[.int .i64 k, .string nm, .slice p m c, .int .i64 op, .int .i64 ka, .string na, .int .i64 a1, .int .i64 a2, .string a3, .int .i64 kb, .string nb, .int .i64 b1, .int .i64 b2, .string b3] 57) (.cells #[.int .i64 0, .string ⟨#[]⟩, .slice none 0 0, .int .i64 0, .int .i64 0, .string ⟨#[]⟩, .int .i64 0, .int .i64 0, .string ⟨#[]⟩, .int .i64 0, .string ⟨#[]⟩, .int .i64 0, .int .i64 0, .string ⟨#[]⟩] 57)
  rw [hw0] at hx
  have HX := Lib.hid hx
  have HW0 := Lib.hid hw0
  clear hw0
  go_enter Tryd.func17, Tryd.ntmps17
  go_wp2_with fail
  try rw [HW0.out]
  obtain ⟨⟨c0, c1, c2, c3, c4, c5, c6, c7, c8, c9, c10, c11, c12, c13⟩, cf0, cf1, cf2, cf3, cf4, cf5, cf6, cf7, cf8, cf9, cf10, cf11, cf12, cf13⟩ := cells14 hx.1
  have hz0 : w.heap.size + 1 < w0.heap.size := (Array.getElem?_eq_some_iff.1 hx.2).1
  clear hx
  have HS := Lib.hid ((Below.refl w0.heap.size w0).drew)
  refine Till.begin (S := fun X => Below w0.heap.size w0 X) (z := 8) (by kernel_rfl) ?_
  refine Till.takeY 0 3 (v := ?_) rfl rfl (by kernel_rfl) (by kernel_rfl) (by kernel_rfl) (by decide) (fun _ _ _ h => h) (by kernel_rfl) ?_ (fun _ => HS.out) (by simp only [put_norm]; exact rfl) ?_
  rotate_left
  · rintro X0 -
    go_simp; try (with_reducible rfl)
  refine Till.takeY 3 6 (v := ?_) rfl rfl (by kernel_rfl) (by kernel_rfl) (by kernel_rfl) (by decide) (fun _ _ _ h => h) (by kernel_rfl) ?_ (fun _ => HS.out) (by simp only [put_norm]; exact rfl) ?_
  rotate_left
  · rintro X0 -
    go_simp; try (with_reducible rfl)
  refine Till.takeY 6 9 (v := ?_) rfl rfl (by kernel_rfl) (by kernel_rfl) (by kernel_rfl) (by decide) (fun _ _ _ h => h) (by kernel_rfl) ?_ (fun _ => HS.out) (by simp only [put_norm]; exact rfl) ?_
  rotate_left
  · rintro X0 -
    go_simp; try (with_reducible rfl)
  refine Till.take [2, 5, 8] 1 4 (v := ?_) rfl rfl (by kernel_rfl) (by kernel_rfl) (by kernel_rfl) (by kernel_rfl) (fun _ _ _ h => h) (by kernel_rfl) ?_ HS.out (by simp only [put_norm]; exact rfl) ?_
  rotate_left
  · rintro X0 s0
    obtain ⟨⟨b0, b1, b2, b3, b4, b5, b6, b7, b8, b9, b10, b11, b12, b13⟩, -⟩ := cells14 ((s0.block _ (by omega)).trans HX.out.1)
    clear s0
    go_simp; try (with_reducible rfl)
  refine Till.take [5, 8] 4 7 (v := ?_) rfl rfl (by kernel_rfl) (by kernel_rfl) (by kernel_rfl) (by kernel_rfl) (fun _ _ _ h => h) (by kernel_rfl) ?_ HS.out (by simp only [put_norm]; exact rfl) ?_
  rotate_left
  · rintro X0 s0
    obtain ⟨⟨b0, b1, b2, b3, b4, b5, b6, b7, b8, b9, b10, b11, b12, b13⟩, -⟩ := cells14 ((s0.block _ (by omega)).trans HX.out.1)
    clear s0
    go_simp; try (with_reducible rfl)
  refine Till.take [8] 7 10 (v := ?_) rfl rfl (by kernel_rfl) (by kernel_rfl) (by kernel_rfl) (by kernel_rfl) (fun _ _ _ h => h) (by kernel_rfl) ?_ HS.out (by simp only [put_norm]; exact rfl) ?_
  rotate_left
  · rintro X0 s0
    obtain ⟨⟨b0, b1, b2, b3, b4, b5, b6, b7, b8, b9, b10, b11, b12, b13⟩, -⟩ := cells14 ((s0.block _ (by omega)).trans HX.out.1)
    clear s0
    go_simp; try (with_reducible rfl)
  clear c0 c1 c2 c3 c4 c5 c6 c7 c8 c9 c10 c11 c12 c13 cf0 cf1 cf2 cf3 cf4 cf5 cf6 cf7 cf8 cf9 cf10 cf11 cf12 cf13
  refine Till.one 2 (by kernel_rfl) rfl (fun K hK => ?_)
  go_simp
  go_at_call 16
  refine (HA.out _ HB.out.drew).mono ?_
  rintro y w1 ⟨⟨v, rfl, hv⟩, hb1⟩
  obtain ⟨pv, cv, rfl⟩ := hv.shape
  have HV := Lib.hid (show RowIn tmY (fun k => w0.heap.size ≤ k) w1 (.slice pv T.length cv) T from hv)
  have HB1 := Lib.hid hb1
  have hz1 : w0.heap.size ≤ w1.heap.size := hb1.size
  have HS1 := Lib.hid (show Below w0.heap.size w0 w1 from HS.out.trans hb1)
  clear hv hb1
  go_simp
  refine hK.out _ _ (fun _ => HS1.out) ?_
  clear hK K
  try simp only [put_norm]
  refine Till.takeY 9 12 (v := ?_) rfl rfl (by kernel_rfl) (by kernel_rfl) (by kernel_rfl) (by decide) (fun _ _ _ h => h) (by kernel_rfl) ?_ (fun _ => HS1.out) (by simp only [put_norm]; exact rfl) ?_
  rotate_left
  · rintro X0 -
    go_simp; try (with_reducible rfl)
  refine Till.one 5 (by kernel_rfl) rfl (fun K hK => ?_)
  go_simp
  go_at_call 27
  refine (HTa.out _).mono ?_
  rintro y w2 ⟨rfl, hb2⟩
  have HB2 := Lib.hid hb2
  have hz2 : w1.heap.size ≤ w2.heap.size := hb2.size
  have HS2 := Lib.hid (show Below w0.heap.size w0 w2 from HS1.out.trans (hb2.mono hz1))
  clear hb2 HTa
  go_simp
  refine hK.out _ _ (fun _ => HS2.out) ?_
  clear hK K
  try simp only [put_norm]
  refine Till.one 8 (by kernel_rfl) rfl (fun K hK => ?_)
  go_simp
  go_at_call 27
  refine (HTb.out _).mono ?_
  rintro y w3 ⟨rfl, hb3⟩
  have HB3 := Lib.hid hb3
  have hz3 : w2.heap.size ≤ w3.heap.size := hb3.size
  have HS3 := Lib.hid (show Below w0.heap.size w0 w3 from HS2.out.trans (hb3.mono (Nat.le_trans hz1 hz2)))
  have hx3 := (hb3.block w.heap.size (by omega)).trans ((HB2.out.block w.heap.size (by omega)).trans ((HB1.out.block w.heap.size (by simp; omega)).trans HX.out.1))
  have HX3 := Lib.hid hx3
  obtain ⟨⟨g0, g1, g2, g3, g4, g5, g6, g7, g8, g9, g10, g11, g12, g13⟩, gf0, gf1, gf2, gf3, gf4, gf5, gf6, gf7, gf8, gf9, gf10, gf11, gf12, gf13⟩ := cells14 hx3
  clear hb3 hx3 HTb
  go_simp
  refine hK.out _ _ (fun h => nomatch (show (true : Bool) = false from h)) ?_
  clear hK K
  try simp only [put_norm]
  refine Till.one 10 (by kernel_rfl) rfl (fun K hK => ?_)
  go_simp
  refine hK.out _ _ (fun h => nomatch (show (true : Bool) = false from h)) ?_
  clear hK K
  try simp only [put_norm]
  refine Till.takeY 11 13 (v := ?_) rfl rfl (by kernel_rfl) (by kernel_rfl) (by kernel_rfl) (by decide) (fun _ _ _ h => h) (by kernel_rfl) ?_ (fun h => nomatch (show (true : Bool) = false from h)) (by simp only [put_norm]; exact rfl) ?_
  rotate_left
  · rintro X0 -
    go_simp; try (with_reducible rfl)
  refine Till.one 12 (by kernel_rfl) rfl (fun K hK => ?_)
  go_simp
  refine hK.out _ _ (fun h => nomatch (show (true : Bool) = false from h)) ?_
  clear hK K
  try simp only [put_norm]
  refine Till.takeY 13 14 (v := ?_) rfl rfl (by kernel_rfl) (by kernel_rfl) (by kernel_rfl) (by decide) (fun _ _ _ h => h) (by kernel_rfl) ?_ (fun h => nomatch (show (true : Bool) = false from h)) (by simp only [put_norm]; exact rfl) ?_
  rotate_left
  · rintro X0 -
    go_simp; try (with_reducible rfl)
  refine Till.one 14 (by kernel_rfl) rfl (fun K hK => ?_)
  go_simp
  refine hK.out _ _ (fun h => nomatch (show (true : Bool) = false from h)) ?_
  clear hK K
  try simp only [put_norm]
  refine Till.done (by kernel_rfl) ?_ _
  generalize hW : World.setCell _ _ _ = W
  obtain ⟨y1, y2, y3⟩ := set_12 HX3.out hW
  have HBA := Lib.hid (show Below w.heap.size w w3 from HB.out.drew.trans ((HB1.out.mono HB.out.size).trans (((HB2.out.mono (Nat.le_trans HB.out.size hz1)).trans (HB3.out.mono (Nat.le_trans (Nat.le_trans HB.out.size hz1) hz2))))))
  have HBW := Lib.hid (below_12 (w := w) HBA.out (Nat.le_refl _) hW)
  have HY2 := Lib.hid ((y2 (w.heap.size + 1) (by omega)).trans ((HB3.out.block (w.heap.size + 1) (by omega)).trans ((HB2.out.block (w.heap.size + 1) (by omega)).trans ((HB1.out.block (w.heap.size + 1) (by simp; omega)).trans HX.out.2))))
  have HVW := Lib.hid (show RowIn tmY (fun k => w0.heap.size ≤ k) W (.slice pv T.length cv) T from HV.out.keep (by rw [y3]; omega) fun j hj hl => ⟨hj, (y2 j (by omega)).trans ((HB3.out.block j (by omega)).trans (HB2.out.block j (by omega)))⟩)
  have HY1 := Lib.hid (show W.heap[w.heap.size]? = some (.cells #[.int .i64 k, .string pr, .slice pv T.length cv, .int .i64 op, .int .i64 Z.kind, .string ⟨Z.name.toArray⟩, .int .i64 Z.val.1, .int .i64 Z.val.2.1, .string Z.val.2.2, .int .i64 Z2.kind, .string ⟨Z2.name.toArray⟩, .int .i64 Z2.val.1, .int .i64 Z2.val.2.1, .string Z2.val.2.2] 57 (0, 0)) from y1)
  clear hW y1 y2 y3 hz1 hz2 hz3 g0 g1 g2 g3 g4 g5 g6 g7 g8 g9 g10 g11 g12 g13 gf0 gf1 gf2 gf3 gf4 gf5 gf6 gf7 gf8 gf9 gf10 gf11 gf12 gf13
  obtain ⟨⟨n0, n1, n2, n3, n4, n5, n6, n7, n8, n9, n10, n11, n12, n13⟩, -⟩ := cells14 HY1.out
  obtain ⟨⟨m0, m1, m2, m3, m4, m5, m6, m7, m8, m9, m10, m11, m12, m13⟩, mf0, mf1, mf2, mf3, mf4, mf5, mf6, mf7, mf8, mf9, mf10, mf11, mf12, mf13⟩ := cells14 HY2.out
  go_wp2_with fail
  refine bodyPost_ret (results_cell_row (fn := Tryd.f17) (by rfl) _ _ _ _ _ _ _ (by rfl) (rowS14_set HY2.out) Tryd.underlying57 (by rfl) (by kernel_rfl)) (by rfl) ?_
  refine ⟨⟨_, rfl, ?_⟩, ?_⟩
  · exact HVW.out.keep (by simp) fun j hj _ => ⟨by omega, set14_off (show j ≠ w.heap.size + 1 by omega)⟩
  · exact ((((((((((((((HBW.out.setCell (p := ⟨w.heap.size + 1, 0, none⟩) (by simp) _).setCell (p := ⟨w.heap.size + 1, 1, none⟩) (by simp) _).setCell (p := ⟨w.heap.size + 1, 2, none⟩) (by simp) _).setCell (p := ⟨w.heap.size + 1, 3, none⟩) (by simp) _).setCell (p := ⟨w.heap.size + 1, 4, none⟩) (by simp) _).setCell (p := ⟨w.heap.size + 1, 5, none⟩) (by simp) _).setCell (p := ⟨w.heap.size + 1, 6, none⟩) (by simp) _).setCell (p := ⟨w.heap.size + 1, 7, none⟩) (by simp) _).setCell (p := ⟨w.heap.size + 1, 8, none⟩) (by simp) _).setCell (p := ⟨w.heap.size + 1, 9, none⟩) (by simp) _).setCell (p := ⟨w.heap.size + 1, 10, none⟩) (by simp) _).setCell (p := ⟨w.heap.size + 1, 11, none⟩) (by simp) _).setCell (p := ⟨w.heap.size + 1, 12, none⟩) (by simp) _).setCell (p := ⟨w.heap.size + 1, 13, none⟩) (by simp) _)
end
section
open Go Go.RowKit Go.Shelf

/-- What a loop of copies keeps, begun in the world wS: the row so far, in a block of its own from B on, and the block b with it; all else below B stands. -/
structure CpR {α : Type} (Y : Lay α) (et : TypeId) (n0 B b : Nat) (wS : World) (a : Value → Obj) (L : List α) (v : Value) (wr : World) : Prop where
  own : RowOwn Y et B wr v L
  lt : b < B
  size : B ≤ wr.heap.size
  low : n0 ≤ b
  frame : ∀ k, k < B → k ≠ b → wr.heap[k]? = wS.heap[k]?
  x : wr.heap[b]? = some (a v)
  below : Below n0 wS wr
/-- Behind the append, ahead of the store. -/
structure CpB {α : Type} (Y : Lay α) (et : TypeId) (n0 B b : Nat) (wS : World) (a : Value → Obj) (L : List α) (v v' : Value) (wr : World) : Prop where
  own : RowOwn Y et B wr v' L
  lt : b < B
  size : B ≤ wr.heap.size
  low : n0 ≤ b
  frame : ∀ k, k < B → k ≠ b → wr.heap[k]? = wS.heap[k]?
  x : wr.heap[b]? = some (a v)
  below : Below n0 wS wr
section
variable {α : Type} {Y : Lay α} {et : TypeId} {n0 B b : Nat} {wS w1 wr : World} {a : Value → Obj} {L : List α} {v : Value}
theorem CpR.on (h : CpR Y et n0 B b wS a L v wr) (hb : Below wr.heap.size wr w1) : CpR Y et n0 B b wS a L v w1 :=
  ⟨h.own.keep hb.size fun k _ hk => hb.block k hk, h.lt, Nat.le_trans h.size hb.size, h.low, fun k hk hn => (hb.block k (Nat.lt_of_lt_of_le hk h.size)).trans (h.frame k hk hn), (hb.block b (Nat.lt_of_lt_of_le h.lt h.size)).trans h.x, h.below.trans (hb.mono (Nat.le_trans (Nat.le_trans h.low (Nat.le_of_lt h.lt)) h.size))⟩
theorem CpR.lit (h : CpR Y et n0 B b wS a L v wr) (o : Obj) : CpR Y et n0 B b wS a L v (wr.alloc o) := h.on ((Below.refl _ _).alloc (Nat.le_refl _) o)
theorem CpR.zero (hb : b < wS.heap.size) (hn : n0 ≤ b) (hx : wS.heap[b]? = some (a (.slice none 0 0))) : CpR Y et n0 wS.heap.size b wS a [] (.slice none 0 0) wS :=
  ⟨RowOwn.nil _ _ _ _, hb, Nat.le_refl _, hn, fun _ _ _ => rfl, hx, Below.refl _ _⟩
theorem CpR.app {v' : Value} {w2 : World} {L' : List α} (h : CpR Y et n0 B b wS a L v wr) (ho : RowOwn Y et B w2 v' L') (hg : wr.grownBy w2 v.ownBlock) : CpB Y et n0 B b wS a L' v v' w2 := by
  have off : ∀ k, k < B → w2.heap[k]? = wr.heap[k]? := fun k hk => hg.block k (Nat.lt_of_lt_of_le hk h.size) (fun e => by have := (h.own.lt k e.symm).1; omega)
  exact ⟨ho, h.lt, Nat.le_trans h.size hg.size, h.low, fun k hk hn => (off k hk).trans (h.frame k hk hn), (off b h.lt).trans h.x, h.below.grown hg (Nat.le_trans (Nat.le_trans h.low (Nat.le_of_lt h.lt)) h.size) (fun k e => Nat.le_trans (Nat.le_trans h.low (Nat.le_of_lt h.lt)) (h.own.lt k e).1)⟩
/-- Behind the store. -/
theorem CpB.put {v' : Value} {w2 : World} {i : Nat} {cs : Array Value} {t : TypeId} (h : CpB Y et n0 B b wS a L v v' w2) (hv : a v = .cells cs t (0, 0)) (hv' : Obj.cells (cs.setIfInBounds i v') t (0, 0) = a v') : CpR Y et n0 B b wS a L v' (w2.setCell ⟨b, i, none⟩ v') := by
  refine ⟨h.own.keep (by simp) fun k hB _ => heap_setCell_other _ ⟨b, i, none⟩ k _ (show k ≠ b by have := h.lt; omega), h.lt, by simpa using h.size, h.low, fun k hk hn => (heap_setCell_other _ ⟨b, i, none⟩ k _ (show k ≠ b from hn)).trans (h.frame k hk hn), ?_, h.below.setCell (p := ⟨b, i, none⟩) h.low _⟩
  have h1 := h.x
  rw [hv] at h1
  rw [Go.heap_setCell_same _ b i _ _ v' h1, hv']
theorem CpR.shape (h : CpR Y et n0 B b wS a L v wr) : ∃ p c, v = .slice p L.length c := by
  obtain ⟨us, ho, -⟩ := h.own
  rcases ho.2 with ⟨rfl, e⟩ | ⟨g, cap, cur, rfl, -⟩
  · exact ⟨none, 0, by rw [e]⟩
  · exact ⟨_, _, rfl⟩
end
theorem take_end {α β : Type} {f : α → β} {L : List α} {k n m : Nat} (hn : n = L.length) (hk : k ≤ n) (hm : k ≤ m) (hgo : ¬ (k < n ∧ k < m)) : (L.take k).map f = (L.take m).map f := by
  rcases Nat.lt_or_ge k m with h2 | h2
  · rw [List.take_of_length_le (by omega), List.take_of_length_le (by omega)]
  · rw [show k = m by omega]
def cutR (r : RuL) : RuL := ⟨cutA r.head, (r.body.take 8).map cutLi⟩
def cutD (d : DeL) : DeL := ⟨d.base, d.name.take 300, d.types.take 12⟩
def cutPa (p : List UInt8 × Int) : List UInt8 × Int := (p.1.take 300, p.2)
def cutAc (a : ActL) : ActL := ⟨a.plus, cutA a.atom⟩
def cutO (o : OnL) : OnL := ⟨o.event.take 300, (o.params.take 12).map cutPa, (o.acts.take 8).map cutAc⟩
end
section
open Go Go.RowKit Go.Shelf

set_option maxRecDepth 100000 in
set_option maxHeartbeats 40000000 in
theorem lrule_any (r : RuL) (u x : Value) (S : Nat → Prop) (w : World) (h : RowIn tmY S w u r.head.args) (h2 : RowIn liY S w x r.body) :
    Calls Tryd.prog 5 #[.agg #[.string ⟨r.head.pred.toArray⟩, u, x]] w fun e w' => (∃ v y, e = .returned (.agg #[.string ⟨(cutR r).head.pred.toArray⟩, v, y]) ∧ RowIn tmY (fun k => w.heap.size ≤ k) w' v (cutR r).head.args ∧ RowIn liY (fun k => w.heap.size ≤ k) w' y (cutR r).body) ∧ Below w.heap.size w w' := by
  have HA : Hid (∀ W, Below w.heap.size w W → Calls Tryd.prog 16 #[.agg #[.string ⟨r.head.pred.toArray⟩, u]] W fun e w' => (∃ v, e = .returned (.agg #[.string ⟨(cutA r.head).pred.toArray⟩, v]) ∧ RowIn tmY (fun k => W.heap.size ≤ k) w' v (cutA r.head).args) ∧ Below W.heap.size W w') := Lib.hid (fun W hb => latom_any r.head u S W (h.in_below hb))
  have HL : Hid (∀ (X : LiL) (u' : Value) (W : World), RowIn tmY S W u' X.atom.args → Calls Tryd.prog 17 #[valLi X u'] W fun e w' => (∃ v, e = .returned (valLi (cutLi X) v) ∧ RowIn tmY (fun k => W.heap.size ≤ k) w' v (cutLi X).atom.args) ∧ Below W.heap.size W w') := Lib.hid (fun X u' W hr => lliteral_any X u' S W hr)
  have HI := Lib.hid h2
  obtain ⟨q, c, rfl⟩ := h.shape
  obtain ⟨p, c', rfl⟩ := h2.shape
  have hn2 := len_le h2
  obtain ⟨L, hL⟩ : ∃ L, L = r.body := ⟨_, rfl⟩
  obtain ⟨n, hn⟩ : ∃ n, n = L.length := ⟨_, rfl⟩
  have HNn := Lib.hid hn
  rw [show (cutR r).head = cutA r.head from rfl, show (cutR r).body = (L.take 8).map cutLi by rw [hL]; rfl]
  rw [← hL] at HI hn2 ⊢
  rw [← hn] at HI hn2 ⊢
  have hn3 : (n : Int) ≤ 9223372036854775807 := by omega
  generalize (⟨r.head.pred.toArray⟩ : ByteArray) = nm at *
  generalize (⟨(cutA r.head).pred.toArray⟩ : ByteArray) = pr at *
  generalize (cutA r.head).args = T at *
  generalize r.head.args.length = m at *
  clear h h2 hL hn hn2 r
  obtain ⟨w0, hw0⟩ : ∃ w0, (w.alloc (.cells #[.string nm, .slice q m c, .slice p n c'] 27)).alloc (.cells #[.string ⟨#[]⟩, .slice none 0 0, .slice none 0 0] 27) = w0 := ⟨_, rfl⟩
  have HB := Lib.hid (show Below w.heap.size w w0 by rw [← hw0]; exact below_box2 w _ _)
  have hx := two_newA w (.cells #[.string nm, .slice q m c, .slice p n c'] 27) (.cells #[.string ⟨#[]⟩, .slice none 0 0, .slice none 0 0] 27)
  rw [hw0] at hx
  have HX := Lib.hid hx
  have HW0 := Lib.hid hw0
  clear hw0 hx
  go_enter Tryd.func5, Tryd.ntmps5
  go_wp2_with fail
  try rw [HW0.out]
  refine (HA.out _ HB.out).mono ?_
  rintro y w1 ⟨⟨v, rfl, hv⟩, hb1⟩
  obtain ⟨pv, cv, rfl⟩ := hv.shape
  have hz0 : w.heap.size + 1 < w0.heap.size := (Array.getElem?_eq_some_iff.1 HX.out.2).1
  have hz1 : w.heap.size + 1 < w1.heap.size := Nat.lt_of_lt_of_le hz0 hb1.size
  obtain ⟨wS, hwS⟩ : ∃ wS, w1.alloc (.cells #[.string pr, .slice pv T.length cv, .slice none 0 0] 27) = wS := ⟨_, rfl⟩
  have hsS : wS.heap.size = w1.heap.size + 1 := by rw [← hwS]; simp
  have HBS := Lib.hid (show Below w.heap.size w wS by rw [← hwS]; exact (HB.out.trans (hb1.mono HB.out.size)).alloc (by omega) _)
  have hup : ∀ k, k < w1.heap.size → wS.heap[k]? = w1.heap[k]? := fun k hk => by rw [← hwS]; exact Below.heap_alloc _ _ _ hk
  have HXS := Lib.hid (And.intro ((hup _ (by omega)).trans ((hb1.block w.heap.size (by omega)).trans HX.out.1)) ((hup _ hz1).trans ((hb1.block (w.heap.size + 1) hz0).trans HX.out.2)))
  have HV := Lib.hid (show RowIn tmY (fun k => w.heap.size ≤ k ∧ k < w1.heap.size ∧ k ≠ w.heap.size + 1) wS (.slice pv T.length cv) T from hv.keep (by omega) fun k hk hl => ⟨⟨by omega, hl, by omega⟩, hup k hl⟩)
  have HJ0 : Hid (CpR liY 57 w.heap.size wS.heap.size w1.heap.size wS (fun y => .cells #[.string pr, .slice pv T.length cv, y] 27) ((L.take 0).map cutLi) (.slice none 0 0) wS) := Lib.hid (CpR.zero (by omega) (by omega) (by rw [← hwS]; exact heap_alloc_new w1 _))
  have HWS := Lib.hid hwS
  clear hv hb1 hwS hup
  go_wp2_with fail
  rw [HWS.out]
  go_loopw [4] (fun i wr => ∃ (k : Nat) (v' : Value), k ≤ n ∧ k ≤ 8 ∧ i = .int .i64 k ∧ Hid (CpR liY 57 w.heap.size wS.heap.size w1.heap.size wS (fun y => .cells #[.string pr, .slice pv T.length cv, y] 27) ((L.take k).map cutLi) v' wr)) (fun i _ => n - (intOf i).toNat)
  case atStart => exact ⟨0, _, Nat.zero_le _, Nat.zero_le _, rfl, HJ0⟩
  case round =>
    obtain ⟨k, v', hk, hk8, rfl, HJ⟩ := hrel
    have h0 : (0 : Int) ≤ (k : Int) := by omega
    have HX0 := Lib.hid ((HJ.out.frame w.heap.size (by omega) (by omega)).trans HXS.out.1)
    obtain ⟨⟨c0, c1, c2⟩, f0, f1, f2⟩ := cells3 HX0.out
    obtain ⟨⟨d0, d1, d2⟩, g0, g1, g2⟩ := cells3 HJ.out.x
    by_cases hgo : k < n ∧ k < 8
    · have hlt' : (k : Int) < (n : Int) := by omega
      have hl8 : (k : Int) < 8 := by omega
      have hkn : k < L.length := by rw [← HNn.out]; exact hgo.1
      have HStep := Lib.hid (take_map_succ (f := cutLi) hkn)
      obtain ⟨b, off, c1, us, e1, hbl, hu, hc⟩ := row_at HI.out hkn
      injection e1 with e1 hq1 hq2
      subst e1
      clear hq1 hq2
      obtain ⟨X, hX⟩ : ∃ X, X = L[k] := ⟨_, rfl⟩
      rw [← hX] at hu HStep
      clear hX
      obtain ⟨u', rfl, hu'⟩ := hu
      have HBr := Lib.hid (show Below w.heap.size w wr from HBS.out.trans HJ.out.below)
      have HLt : Hid (∀ W, Below wr.heap.size wr W → Calls Tryd.prog 17 #[valLi X u'] W fun e w' => (∃ v, e = .returned (valLi (cutLi X) v) ∧ RowIn tmY (fun k => W.heap.size ≤ k) w' v (cutLi X).atom.args) ∧ Below W.heap.size W w') := Lib.hid (fun W hb => HL.out X u' W ((hu'.in_below HBr.out).in_below hb))
      obtain ⟨pu, cu, rfl⟩ := hu'.shape
      have hbw : ∀ o, wr.cell? ⟨b, o, none⟩ = w.cell? ⟨b, o, none⟩ := fun o => HBr.out.cell (p := ⟨b, o, none⟩) hbl
      have a0 : wr.cell? ⟨b, off + k * 14, none⟩ = some (.int .i64 X.kind) := (hbw _).trans (hc 0 _ rfl)
      have a1 : wr.cell? ⟨b, off + k * 14 + 1, none⟩ = some (.string ⟨X.atom.pred.toArray⟩) := (hbw _).trans (hc 1 _ rfl)
      have a2 : wr.cell? ⟨b, off + k * 14 + 2, none⟩ = some (.slice pu X.atom.args.length cu) := (hbw _).trans (hc 2 _ rfl)
      have a3 : wr.cell? ⟨b, off + k * 14 + 3, none⟩ = some (.int .i64 X.op) := (hbw _).trans (hc 3 _ rfl)
      have a4 : wr.cell? ⟨b, off + k * 14 + 4, none⟩ = some (.int .i64 X.a.kind) := (hbw _).trans (hc 4 _ rfl)
      have a5 : wr.cell? ⟨b, off + k * 14 + 5, none⟩ = some (.string ⟨X.a.name.toArray⟩) := (hbw _).trans (hc 5 _ rfl)
      have a6 : wr.cell? ⟨b, off + k * 14 + 6, none⟩ = some (.int .i64 X.a.val.1) := (hbw _).trans (hc 6 _ rfl)
      have a7 : wr.cell? ⟨b, off + k * 14 + 7, none⟩ = some (.int .i64 X.a.val.2.1) := (hbw _).trans (hc 7 _ rfl)
      have a8 : wr.cell? ⟨b, off + k * 14 + 8, none⟩ = some (.string X.a.val.2.2) := (hbw _).trans (hc 8 _ rfl)
      have a9 : wr.cell? ⟨b, off + k * 14 + 9, none⟩ = some (.int .i64 X.b.kind) := (hbw _).trans (hc 9 _ rfl)
      have a10 : wr.cell? ⟨b, off + k * 14 + 10, none⟩ = some (.string ⟨X.b.name.toArray⟩) := (hbw _).trans (hc 10 _ rfl)
      have a11 : wr.cell? ⟨b, off + k * 14 + 11, none⟩ = some (.int .i64 X.b.val.1) := (hbw _).trans (hc 11 _ rfl)
      have a12 : wr.cell? ⟨b, off + k * 14 + 12, none⟩ = some (.int .i64 X.b.val.2.1) := (hbw _).trans (hc 12 _ rfl)
      have a13 : wr.cell? ⟨b, off + k * 14 + 13, none⟩ = some (.string X.b.val.2.2) := (hbw _).trans (hc 13 _ rfl)
      obtain ⟨Z, hZ⟩ : ∃ Z, Z = cutLi X := ⟨_, rfl⟩
      rw [← hZ] at HLt HStep
      clear hZ hc hbw hbl hu' hgo
      unfold valLi at HLt
      obtain ⟨Tk, hT⟩ : ∃ Tk, Tk = (L.take k).map cutLi := ⟨_, rfl⟩
      have HTl := Lib.hid (show Tk.length ≤ 1000000 by rw [hT, List.length_map, List.length_take]; omega)
      rw [← hT] at HJ HStep
      clear hT
      obtain ⟨p', c'', rfl⟩ := HJ.out.shape
      go_wp2_with fail
      go_region_law (first
        | (refine step_appY liY rfl (.tmp 21) (.tmp 28) 25 57 rfl wS.heap.size (.agg #[.int .i64 0, .string ⟨#[]⟩, .slice none 0 0, .int .i64 0, .int .i64 0, .string ⟨#[]⟩, .int .i64 0, .int .i64 0, .string ⟨#[]⟩, .int .i64 0, .string ⟨#[]⟩, .int .i64 0, .int .i64 0, .string ⟨#[]⟩]) 168 Tryd.underlying25 Tryd.infoLi rfl (by decide) (by decide) _ Tk Z [.int .i64 Z.kind, .string ⟨Z.atom.pred.toArray⟩, .slice p3 Z.atom.args.length c3, .int .i64 Z.op, .int .i64 Z.a.kind, .string ⟨Z.a.name.toArray⟩, .int .i64 Z.a.val.1, .int .i64 Z.a.val.2.1, .string Z.a.val.2.2, .int .i64 Z.b.kind, .string ⟨Z.b.name.toArray⟩, .int .i64 Z.b.val.1, .int .i64 Z.b.val.2.1, .string Z.b.val.2.2] w3.heap.size 1 rfl rfl HL3.out.own HIs.out (lit_rowcells w3 [.int .i64 Z.kind, .string ⟨Z.atom.pred.toArray⟩, .slice p3 Z.atom.args.length c3, .int .i64 Z.op, .int .i64 Z.a.kind, .string ⟨Z.a.name.toArray⟩, .int .i64 Z.a.val.1, .int .i64 Z.a.val.2.1, .string Z.a.val.2.2, .int .i64 Z.b.kind, .string ⟨Z.b.name.toArray⟩, .int .i64 Z.b.val.1, .int .i64 Z.b.val.2.1, .string Z.b.val.2.2] _) HTl.out HL3.out.size ?_; intro v4 w4 ho hg hv4; obtain ⟨p4, n4, c4, rfl, hn4⟩ := rowOwn_shape ho; have HA4 := Lib.hid (HL3.out.app ho hg); obtain ⟨⟨j0, j1, j2⟩, jf0, jf1, jf2⟩ := cells3 HA4.out.x; clear ho hg hv4 hn4)
        | (go_simp; go_at_call 17; refine (HLt.out _ (Below.refl _ _).drew).mono ?_; rintro y w3 ⟨⟨v3, rfl, hv3⟩, hb3⟩; obtain ⟨p3, c3, rfl⟩ := hv3.shape; have HJ3 := Lib.hid (HJ.out.on ((Below.refl _ wr).drew.trans hb3)); have HIs : Hid (liY.is (fun k => wS.heap.size ≤ k ∧ (Value.slice p' Tk.length c'').ownBlock ≠ some k) (w3.alloc (.cells #[.int .i64 Z.kind, .string ⟨Z.atom.pred.toArray⟩, .slice p3 Z.atom.args.length c3, .int .i64 Z.op, .int .i64 Z.a.kind, .string ⟨Z.a.name.toArray⟩, .int .i64 Z.a.val.1, .int .i64 Z.a.val.2.1, .string Z.a.val.2.2, .int .i64 Z.b.kind, .string ⟨Z.b.name.toArray⟩, .int .i64 Z.b.val.1, .int .i64 Z.b.val.2.1, .string Z.b.val.2.2] 57)) [.int .i64 Z.kind, .string ⟨Z.atom.pred.toArray⟩, .slice p3 Z.atom.args.length c3, .int .i64 Z.op, .int .i64 Z.a.kind, .string ⟨Z.a.name.toArray⟩, .int .i64 Z.a.val.1, .int .i64 Z.a.val.2.1, .string Z.a.val.2.2, .int .i64 Z.b.kind, .string ⟨Z.b.name.toArray⟩, .int .i64 Z.b.val.1, .int .i64 Z.b.val.2.1, .string Z.b.val.2.2] Z) := Lib.hid ⟨_, rfl, hv3.keep (by simp) fun k hk hl => ⟨⟨Nat.le_trans HJ.out.size (by simpa using hk), fun e => by have h1 := (HJ.out.own.lt k e).2; simp at hk; omega⟩, Below.heap_alloc _ _ _ hl⟩⟩; have HL3 := Lib.hid (HJ3.out.lit (.cells #[.int .i64 Z.kind, .string ⟨Z.atom.pred.toArray⟩, .slice p3 Z.atom.args.length c3, .int .i64 Z.op, .int .i64 Z.a.kind, .string ⟨Z.a.name.toArray⟩, .int .i64 Z.a.val.1, .int .i64 Z.a.val.2.1, .string Z.a.val.2.2, .int .i64 Z.b.kind, .string ⟨Z.b.name.toArray⟩, .int .i64 Z.b.val.1, .int .i64 Z.b.val.2.1, .string Z.b.val.2.2] 57)); obtain ⟨⟨l0, l1, l2⟩, lf0, lf1, lf2⟩ := cells3 HJ3.out.x; obtain ⟨⟨m0, m1, m2⟩, mf0, mf1, mf2⟩ := cells3 HL3.out.x; clear hb3 hv3))
      all_goals
        go_wp2_with fail
        go_roundw
        case rel =>
          refine ⟨k + 1, .slice p4 n4 c4, by omega, by omega, by go_num, Lib.hid ?_⟩
          rw [HStep.out]
          exact CpB.put HA4.out rfl rfl
        case measure => simp [intOf]; omega
    · have HT := Lib.hid (take_end (f := cutLi) HNn.out hk hk8 hgo)
      have HX1 := Lib.hid ((HJ.out.frame (w.heap.size + 1) (by omega) (by omega)).trans HXS.out.2)
      obtain ⟨⟨e0, e1, e2⟩, k0, k1, k2⟩ := cells3 HX1.out
      have HR := Lib.hid (rowS3_set (y0 := .string pr) (y1 := .slice pv T.length cv) (y2 := v') HX1.out)
      have HF : Hid (∀ W, W = ((wr.setCell ⟨w.heap.size + 1, 0, none⟩ (.string pr)).setCell ⟨w.heap.size + 1, 1, none⟩ (.slice pv T.length cv)).setCell ⟨w.heap.size + 1, 2, none⟩ v' → RowIn tmY (fun j => w.heap.size ≤ j) W (.slice pv T.length cv) T ∧ RowIn liY (fun j => w.heap.size ≤ j) W v' ((L.take 8).map cutLi) ∧ Below w.heap.size w W) := Lib.hid (by
        rintro W rfl
        have off : ∀ j, j ≠ w.heap.size + 1 → (((wr.setCell ⟨w.heap.size + 1, 0, none⟩ (.string pr)).setCell ⟨w.heap.size + 1, 1, none⟩ (.slice pv T.length cv)).setCell ⟨w.heap.size + 1, 2, none⟩ v').heap[j]? = wr.heap[j]? := fun j hj => (heap_setCell_other _ ⟨w.heap.size + 1, 2, none⟩ j _ hj).trans ((heap_setCell_other _ ⟨w.heap.size + 1, 1, none⟩ j _ hj).trans (heap_setCell_other _ ⟨w.heap.size + 1, 0, none⟩ j _ hj))
        refine ⟨HV.out.keep (by have := HJ.out.below.size; simpa using this) fun j hj hl => ⟨hj.1, (off j hj.2.2).trans (HJ.out.frame j hl (by omega))⟩, ?_, ((((HBS.out.trans HJ.out.below).setCell (p := ⟨w.heap.size + 1, 0, none⟩) (by simp) _).setCell (p := ⟨w.heap.size + 1, 1, none⟩) (by simp) _).setCell (p := ⟨w.heap.size + 1, 2, none⟩) (by simp) _)⟩
        have ho := HJ.out.own.in_
        rw [HT.out] at ho
        exact ho.keep (by simp) fun j hj _ => ⟨by omega, off j (by omega)⟩)
      obtain ⟨p', n0, c'', rfl, -⟩ := rowOwn_shape HJ.out.own
      have hcase : ((k : Int) < (n : Int) ∧ ¬ (k : Int) < 8) ∨ ¬ (k : Int) < (n : Int) := by omega
      rcases hcase with ⟨hlt', hl8⟩ | hlt'
      all_goals
        go_wp2_with fail
        refine bodyPost_ret (results_cell_row (fn := Tryd.f5) (by rfl) _ _ _ _ _ _ _ (by rfl) HR.out Tryd.underlying27 (by rfl) (by kernel_rfl)) (by rfl) ?_
        obtain ⟨F1, F2, F3⟩ := HF.out _ rfl
        exact ⟨⟨_, _, rfl, F1, by rw [← List.map_take]; exact F2⟩, F3⟩
end
section
open Go Go.RowKit Go.Shelf

theorem RowIn.cut {α : Type} {Y : Lay α} {S : Nat → Prop} {w : World} {p : Option Addr} {n c m : Nat} {L : List α} (h : RowIn Y S w (.slice p n c) L) (hm : m ≤ L.length) : RowIn Y S w (.slice p m c) (L.take m) := by
  obtain ⟨p', c', e, h1, h2, h⟩ := h
  injection e with e1 e2 e3
  subst e1 e3
  refine ⟨p, c, by rw [List.length_take, Nat.min_eq_left hm], by rw [List.length_take]; omega, h2, ?_⟩
  rcases h with rfl | ⟨b, off, rfl, hb, hl, h⟩
  · exact .inl (by simp)
  · exact .inr ⟨b, off, rfl, hb, hl, fun j hj => by
      have hj' : j < L.length := by rw [List.length_take] at hj; omega
      obtain ⟨us, hu, hc⟩ := h j hj'
      exact ⟨us, by rw [List.getElem_take]; exact hu, hc⟩⟩
set_option maxRecDepth 100000 in
set_option maxHeartbeats 8000000 in
theorem ldecl_any (d : DeL) (u : Value) (S : Nat → Prop) (w : World) (h : RowIn tyY S w u d.types) :
    Calls Tryd.prog 7 #[.agg #[.string ⟨d.name.toArray⟩, .bool d.base, u]] w fun e w' => (∃ v, e = .returned (.agg #[.string ⟨(cutD d).name.toArray⟩, .bool (cutD d).base, v]) ∧ RowIn tyY S w' v (cutD d).types) ∧ Below w.heap.size w w' := by
  have HI := Lib.hid h
  obtain ⟨p, c, rfl⟩ := h.shape
  have hn2 := len_le h
  obtain ⟨p0, c0, e0, hc1, hc2, -⟩ := h
  injection e0 with e1 e2 e3
  subst e1 e3
  clear e2
  rw [show (⟨(cutD d).name.toArray⟩ : ByteArray) = cutB ⟨d.name.toArray⟩ from (cutB_list d.name).symm]
  generalize (⟨d.name.toArray⟩ : ByteArray) = nm at *
  obtain ⟨L, hL⟩ : ∃ L, L = d.types := ⟨_, rfl⟩
  rw [show (cutD d).types = L.take 12 by rw [hL]; rfl, show (cutD d).base = d.base from rfl]
  rw [← hL] at HI hn2 hc1 ⊢
  generalize d.base = bs at *
  obtain ⟨n, hn⟩ : ∃ n, n = L.length := ⟨_, rfl⟩
  have HNn := Lib.hid hn
  rw [← hn] at HI hn2 hc1 ⊢
  clear hL hn d
  have hn3 : (n : Int) ≤ 9223372036854775807 := by omega
  obtain ⟨w0, hw0⟩ : ∃ w0, (w.alloc (.cells #[.string nm, .bool bs, .slice p n c] 34)).alloc (.cells #[.string ⟨#[]⟩, .bool false, .slice none 0 0] 34) = w0 := ⟨_, rfl⟩
  have HB := Lib.hid (show Below w.heap.size w w0 by rw [← hw0]; exact below_box2 w _ _)
  have hx := two_newA w (.cells #[.string nm, .bool bs, .slice p n c] 34) (.cells #[.string ⟨#[]⟩, .bool false, .slice none 0 0] 34)
  rw [hw0] at hx
  have HX := Lib.hid hx
  have HW0 := Lib.hid hw0
  clear hw0 hx
  go_enter Tryd.func7, Tryd.ntmps7
  go_wp2_with fail
  try rw [HW0.out]
  refine (ltext_any _ _).mono ?_
  rintro y w1 ⟨rfl, rfl⟩
  obtain ⟨⟨d0, d1, d2⟩, g0, g1, g2⟩ := cells3 HX.out.1
  obtain ⟨⟨b0, b1, b2⟩, k0, k1, k2⟩ := cells3 HX.out.2
  obtain ⟨wA, hwA⟩ : ∃ wA, w0.setCell ⟨w.heap.size, 0, none⟩ (.string (cutB nm)) = wA := ⟨_, rfl⟩
  have HA0 := Lib.hid (show wA.heap[w.heap.size]? = some (.cells #[.string (cutB nm), .bool bs, .slice p n c] 34 (0, 0)) by rw [← hwA]; exact Go.heap_setCell_same _ w.heap.size 0 _ _ _ HX.out.1)
  have HA1 := Lib.hid (show wA.heap[w.heap.size + 1]? = some (.cells #[.string ⟨#[]⟩, .bool false, .slice none 0 0] 34 (0, 0)) by rw [← hwA]; exact (heap_setCell_other _ ⟨w.heap.size, 0, none⟩ _ _ (by simp)).trans HX.out.2)
  have HBA := Lib.hid (show Below w.heap.size w wA by rw [← hwA]; exact HB.out.setCell (p := ⟨w.heap.size, 0, none⟩) (Nat.le_refl _) _)
  obtain ⟨⟨i0, i1, i2⟩, if0, if1, if2⟩ := cells3 HA0.out
  obtain ⟨⟨j0, j1, j2⟩, jf0, jf1, jf2⟩ := cells3 HA1.out
  have HWA := Lib.hid hwA
  clear hwA
  by_cases hgo : 12 < n
  · have hgt : (12 : Int) < (n : Int) := by omega
    have hle12 : (12 : Int) ≤ (n : Int) := by omega
    have hle12' : (12 : Int) ≤ (c : Int) := by omega
    have hcn : 12 ≤ c := by omega
    have HF : Hid (RowIn tyY S w (.slice p 12 c) (L.take 12)) := Lib.hid (HI.out.cut (by have := HNn.out; omega))
    go_wp2_with fail
    have hr2 := (heap_setCell_other (w0.setCell ⟨w.heap.size, 0, none⟩ (.string (cutB nm))) ⟨w.heap.size, 2, none⟩ (w.heap.size + 1) (.slice p 12 c) (show w.heap.size + 1 ≠ w.heap.size by omega)).trans ((heap_setCell_other w0 ⟨w.heap.size, 0, none⟩ (w.heap.size + 1) (.string (cutB nm)) (show w.heap.size + 1 ≠ w.heap.size by omega)).trans HX.out.2)
    refine bodyPost_ret (results_cell_row (fn := Tryd.f7) (by rfl) _ _ _ _ _ _ _ (by rfl) (rowS3_set hr2) Tryd.underlying34 (by rfl) (by kernel_rfl)) (by rfl) ?_
    have hbf := (((((HB.out.setCell (p := ⟨w.heap.size, 0, none⟩) (Nat.le_refl _) (.string (cutB nm))).setCell (p := ⟨w.heap.size, 2, none⟩) (Nat.le_refl _) (.slice p 12 c)).setCell (p := ⟨w.heap.size + 1, 0, none⟩) (by simp) (.string (cutB nm))).setCell (p := ⟨w.heap.size + 1, 1, none⟩) (by simp) (.bool bs)).setCell (p := ⟨w.heap.size + 1, 2, none⟩) (by simp) (.slice p 12 c))
    exact ⟨⟨_, rfl, HF.out.in_below hbf⟩, hbf⟩
  · have hgt : ¬ (12 : Int) < (n : Int) := by omega
    have HF : Hid (RowIn tyY S w (.slice p n c) (L.take 12)) := Lib.hid (by rw [List.take_of_length_le (by have := HNn.out; omega)]; exact HI.out)
    go_wp2_with fail
    have hr2 := (heap_setCell_other w0 ⟨w.heap.size, 0, none⟩ (w.heap.size + 1) (.string (cutB nm)) (show w.heap.size + 1 ≠ w.heap.size by omega)).trans HX.out.2
    refine bodyPost_ret (results_cell_row (fn := Tryd.f7) (by rfl) _ _ _ _ _ _ _ (by rfl) (rowS3_set hr2) Tryd.underlying34 (by rfl) (by kernel_rfl)) (by rfl) ?_
    have hbf := ((((HB.out.setCell (p := ⟨w.heap.size, 0, none⟩) (Nat.le_refl _) (.string (cutB nm))).setCell (p := ⟨w.heap.size + 1, 0, none⟩) (by simp) (.string (cutB nm))).setCell (p := ⟨w.heap.size + 1, 1, none⟩) (by simp) (.bool bs)).setCell (p := ⟨w.heap.size + 1, 2, none⟩) (by simp) (.slice p n c))
    exact ⟨⟨_, rfl, HF.out.in_below hbf⟩, hbf⟩
end
section
open Go Go.RowKit Go.Shelf

set_option maxRecDepth 100000 in
set_option maxHeartbeats 40000000 in
theorem lon_any (o : OnL) (u x : Value) (S : Nat → Prop) (w : World) (h : RowIn paY S w u o.params) (h2 : RowIn acY S w x o.acts) :
    Calls Tryd.prog 6 #[.agg #[.string ⟨o.event.toArray⟩, u, x]] w fun e w' => (∃ v y, e = .returned (.agg #[.string ⟨(cutO o).event.toArray⟩, v, y]) ∧ RowIn paY (fun k => w.heap.size ≤ k) w' v (cutO o).params ∧ RowIn acY (fun k => w.heap.size ≤ k) w' y (cutO o).acts) ∧ Below w.heap.size w w' := by
  have HTx : Hid (∀ (l : List UInt8) (W : World), Calls Tryd.prog 18 #[.string ⟨l.toArray⟩] W fun e w' => e = .returned (.string ⟨(l.take 300).toArray⟩) ∧ Below W.heap.size W w') := Lib.hid (fun l W => (ltext_any _ W).mono fun e w' hh => by obtain ⟨rfl, rfl⟩ := hh; exact ⟨by rw [cutB_list], Below.refl _ _⟩)
  have HAt : Hid (∀ (X : AtL) (u' : Value) (W : World), RowIn tmY S W u' X.args → Calls Tryd.prog 16 #[.agg #[.string ⟨X.pred.toArray⟩, u']] W fun e w' => (∃ v, e = .returned (.agg #[.string ⟨(cutA X).pred.toArray⟩, v]) ∧ RowIn tmY (fun k => W.heap.size ≤ k) w' v (cutA X).args) ∧ Below W.heap.size W w') := Lib.hid (fun X u' W hr => latom_any X u' S W hr)
  have HI := Lib.hid h
  have HI2 := Lib.hid h2
  have hn2 := len_le h2
  have hm2 := len_le h
  obtain ⟨q, c, rfl⟩ := h.shape
  obtain ⟨p, c', rfl⟩ := h2.shape
  rw [show (⟨(cutO o).event.toArray⟩ : ByteArray) = cutB ⟨o.event.toArray⟩ from (cutB_list o.event).symm]
  generalize (⟨o.event.toArray⟩ : ByteArray) = nm at *
  obtain ⟨Lp, hLp⟩ : ∃ L, L = o.params := ⟨_, rfl⟩
  obtain ⟨La, hLa⟩ : ∃ L, L = o.acts := ⟨_, rfl⟩
  rw [show (cutO o).params = (Lp.take 12).map cutPa by rw [hLp]; rfl, show (cutO o).acts = (La.take 8).map cutAc by rw [hLa]; rfl]
  rw [← hLp] at HI hm2 ⊢
  rw [← hLa] at HI2 hn2 ⊢
  obtain ⟨m, hm⟩ : ∃ n, n = Lp.length := ⟨_, rfl⟩
  obtain ⟨n, hn⟩ : ∃ n, n = La.length := ⟨_, rfl⟩
  have HNm := Lib.hid hm
  have HNn := Lib.hid hn
  rw [← hm] at HI hm2 ⊢
  rw [← hn] at HI2 hn2 ⊢
  have hm3 : (m : Int) ≤ 9223372036854775807 := by omega
  have hn3 : (n : Int) ≤ 9223372036854775807 := by omega
  clear h h2 hm hn hm2 hn2 hLp hLa o
  obtain ⟨w0, hw0⟩ : ∃ w0, ((w.alloc (.cells #[.string nm, .slice q m c, .slice p n c'] 31)).alloc (.cells #[.string ⟨#[]⟩, .slice none 0 0, .slice none 0 0] 31)).alloc (.cells #[.string (cutB nm), .slice none 0 0, .slice none 0 0] 31) = w0 := ⟨_, rfl⟩
  have hs0 : w0.heap.size = w.heap.size + 3 := by rw [← hw0]; simp
  have HB := Lib.hid (show Below w.heap.size w w0 by rw [← hw0]; exact below_box3 w _ _ _)
  have hx := three_new w (.cells #[.string nm, .slice q m c, .slice p n c'] 31) (.cells #[.string ⟨#[]⟩, .slice none 0 0, .slice none 0 0] 31) (.cells #[.string (cutB nm), .slice none 0 0, .slice none 0 0] 31)
  rw [hw0] at hx
  have HX := Lib.hid hx
  have HJ0 : Hid (CpR paY 60 w.heap.size w0.heap.size (w.heap.size + 2) w0 (fun y => .cells #[.string (cutB nm), y, .slice none 0 0] 31) ((Lp.take 0).map cutPa) (.slice none 0 0) w0) := Lib.hid (CpR.zero (by omega) (by omega) hx.2.2)
  have HW0 := Lib.hid hw0
  clear hw0 hx
  go_enter Tryd.func6, Tryd.ntmps6
  go_wp2_with (go_at_call 18; refine (ltext_any _ _).mono ?_; rintro y w1 ⟨rfl, rfl⟩)
  rw [HW0.out]
  go_loopw [4] (fun i wr => ∃ (k : Nat) (v' : Value), k ≤ m ∧ k ≤ 12 ∧ i = .int .i64 k ∧ Hid (CpR paY 60 w.heap.size w0.heap.size (w.heap.size + 2) w0 (fun y => .cells #[.string (cutB nm), y, .slice none 0 0] 31) ((Lp.take k).map cutPa) v' wr)) (fun i _ => m - (intOf i).toNat)
  case atStart => exact ⟨0, _, Nat.zero_le _, Nat.zero_le _, rfl, HJ0⟩
  case round =>
    obtain ⟨k, v', hk, hk12, rfl, HJ⟩ := hrel
    have h0 : (0 : Int) ≤ (k : Int) := by omega
    have HX0 := Lib.hid ((HJ.out.frame w.heap.size (by omega) (by omega)).trans HX.out.1)
    obtain ⟨⟨c0, c1, c2⟩, f0, f1, f2⟩ := cells3 HX0.out
    by_cases hgo : k < m ∧ k < 12
    · obtain ⟨⟨d0, d1, d2⟩, g0, g1, g2⟩ := cells3 HJ.out.x
      have hlt' : (k : Int) < (m : Int) := by omega
      have hl12 : (k : Int) < 12 := by omega
      have hkn : k < Lp.length := by rw [← HNm.out]; exact hgo.1
      have HStep := Lib.hid (take_map_succ (f := cutPa) hkn)
      obtain ⟨b, off, c1', us, e1, hbl, hu, hc⟩ := row_at HI.out hkn
      injection e1 with e1 hq1 hq2
      subst e1
      clear hq1 hq2
      obtain ⟨X, hX⟩ : ∃ X, X = Lp[k] := ⟨_, rfl⟩
      rw [← hX] at hu HStep
      clear hX
      have hu : us = [.string ⟨X.1.toArray⟩, .int .i64 X.2] := hu
      subst hu
      have HBr := Lib.hid (show Below w.heap.size w wr from HB.out.trans HJ.out.below)
      have hbw : ∀ o, wr.cell? ⟨b, o, none⟩ = w.cell? ⟨b, o, none⟩ := fun o => HBr.out.cell (p := ⟨b, o, none⟩) hbl
      obtain ⟨X1, TY⟩ := X
      have a0 : wr.cell? ⟨b, off + k * 2, none⟩ = some (.string ⟨X1.toArray⟩) := (hbw _).trans (hc 0 _ rfl)
      have a1 : wr.cell? ⟨b, off + k * 2 + 1, none⟩ = some (.int .i64 TY) := (hbw _).trans (hc 1 _ rfl)
      have HEl := Lib.hid (And.intro (show b < wr.heap.size from Nat.lt_of_lt_of_le hbl HBr.out.size) (And.intro a0 a1))
      have HLt := Lib.hid (HTx.out X1)
      obtain ⟨Z1, hZ⟩ : ∃ Z, Z = X1.take 300 := ⟨_, rfl⟩
      rw [← hZ] at HLt
      have HStep : Hid ((Lp.take (k + 1)).map cutPa = (Lp.take k).map cutPa ++ [(Z1, TY)]) := Lib.hid (by rw [HStep.out, hZ]; rfl)
      clear hZ hc hbw hbl hgo
      obtain ⟨Tk, hT⟩ : ∃ Tk, Tk = (Lp.take k).map cutPa := ⟨_, rfl⟩
      have HTl := Lib.hid (show Tk.length ≤ 1000000 by rw [hT, List.length_map, List.length_take]; omega)
      rw [← hT] at HJ HStep
      clear hT
      obtain ⟨p', c'', rfl⟩ := HJ.out.shape
      go_wp2_with fail
      have HS := Lib.hid ((Below.refl wr.heap.size wr).drew)
      refine Till.begin (S := fun X => Below wr.heap.size wr X) (z := 17) (by kernel_rfl) ?_
      refine Till.takeY 0 21 (v := ?_) rfl rfl (by kernel_rfl) (by kernel_rfl) (by kernel_rfl) (by decide) (fun _ _ _ h => h) (by kernel_rfl) ?_ (fun _ => HS.out) (by first | (simp only [put_norm]; exact rfl) | exact rfl) ?_
      rotate_left
      · rintro X0 -
        go_simp; try (with_reducible rfl)
      refine Till.takeY 2 23 (v := ?_) rfl rfl (by kernel_rfl) (by kernel_rfl) (by kernel_rfl) (by decide) (fun _ _ _ h => h) (by kernel_rfl) ?_ (fun _ => HS.out) (by first | (simp only [put_norm]; exact rfl) | exact rfl) ?_
      rotate_left
      · rintro X0 -
        go_simp; try (with_reducible rfl)
      refine Till.takeY 4 25 (v := ?_) rfl rfl (by kernel_rfl) (by kernel_rfl) (by kernel_rfl) (by decide) (fun _ _ _ h => h) (by kernel_rfl) ?_ (fun _ => HS.out) (by first | (simp only [put_norm]; exact rfl) | exact rfl) ?_
      rotate_left
      · rintro X0 -
        go_simp; try (with_reducible rfl)
      refine Till.takeY 9 30 (v := ?_) rfl rfl (by kernel_rfl) (by kernel_rfl) (by kernel_rfl) (by decide) (fun _ _ _ h => h) (by kernel_rfl) ?_ (fun _ => HS.out) (by first | (simp only [put_norm]; exact rfl) | exact rfl) ?_
      rotate_left
      · rintro X0 -
        go_simp; try (with_reducible rfl)
      refine Till.takeY 11 32 (v := ?_) rfl rfl (by kernel_rfl) (by kernel_rfl) (by kernel_rfl) (by decide) (fun _ _ _ h => h) (by kernel_rfl) ?_ (fun _ => HS.out) (by first | (simp only [put_norm]; exact rfl) | exact rfl) ?_
      rotate_left
      · rintro X0 -
        go_simp; try (with_reducible rfl)
      refine Till.take [17] 1 22 (v := ?_) rfl rfl (by kernel_rfl) (by kernel_rfl) (by kernel_rfl) (by kernel_rfl) (fun _ _ _ h => h) (by kernel_rfl) ?_ HS.out (by first | (simp only [put_norm]; exact rfl) | exact rfl) ?_
      rotate_left
      · rintro X0 s0
        obtain ⟨⟨x0, x1, x2⟩, -⟩ := cells3 ((s0.block (w.heap.size + 2) (by have := HJ.out.lt; have := HJ.out.size; omega)).trans HJ.out.x)
        clear s0
        go_simp; try (with_reducible rfl)
      refine Till.take [5, 6, 7, 8, 15, 16, 17] 3 24 (v := ?_) rfl rfl (by kernel_rfl) (by kernel_rfl) (by kernel_rfl) (by kernel_rfl) (fun _ _ _ h => h) (by kernel_rfl) ?_ HS.out (by first | (simp only [put_norm]; exact rfl) | exact rfl) ?_
      rotate_left
      · rintro X0 s0
        obtain ⟨⟨x0, x1, x2⟩, -⟩ := cells3 ((s0.block w.heap.size (by have := HJ.out.lt; have := HJ.out.size; omega)).trans HX0.out)
        clear s0
        go_simp; try (with_reducible rfl)
      refine Till.take [12, 13, 14, 15, 16, 17] 10 31 (v := ?_) rfl rfl (by kernel_rfl) (by kernel_rfl) (by kernel_rfl) (by kernel_rfl) (fun _ _ _ h => h) (by kernel_rfl) ?_ HS.out (by first | (simp only [put_norm]; exact rfl) | exact rfl) ?_
      rotate_left
      · rintro X0 s0
        obtain ⟨⟨x0, x1, x2⟩, -⟩ := cells3 ((s0.block w.heap.size (by have := HJ.out.lt; have := HJ.out.size; omega)).trans HX0.out)
        clear s0
        go_simp; try (with_reducible rfl)
      refine Till.takeY 5 26 (v := ?_) rfl rfl (by kernel_rfl) (by kernel_rfl) (by kernel_rfl) (by decide) (fun _ _ _ h => h) (by kernel_rfl) ?_ (fun _ => HS.out) (by first | (simp only [put_norm]; exact rfl) | exact rfl) ?_
      rotate_left
      · rintro X0 -
        go_simp; try (with_reducible rfl)
      refine Till.takeY 6 27 (v := ?_) rfl rfl (by kernel_rfl) (by kernel_rfl) (by kernel_rfl) (by decide) (fun _ _ _ h => h) (by kernel_rfl) ?_ (fun _ => HS.out) (by first | (simp only [put_norm]; exact rfl) | exact rfl) ?_
      rotate_left
      · rintro X0 -
        go_simp; try (with_reducible rfl)
      refine Till.takeY 12 33 (v := ?_) rfl rfl (by kernel_rfl) (by kernel_rfl) (by kernel_rfl) (by decide) (fun _ _ _ h => h) (by kernel_rfl) ?_ (fun _ => HS.out) (by first | (simp only [put_norm]; exact rfl) | exact rfl) ?_
      rotate_left
      · rintro X0 -
        go_simp; try (with_reducible rfl)
      refine Till.takeY 13 34 (v := ?_) rfl rfl (by kernel_rfl) (by kernel_rfl) (by kernel_rfl) (by decide) (fun _ _ _ h => h) (by kernel_rfl) ?_ (fun _ => HS.out) (by first | (simp only [put_norm]; exact rfl) | exact rfl) ?_
      rotate_left
      · rintro X0 -
        go_simp; try (with_reducible rfl)
      refine Till.take [8, 15, 16, 17] 7 28 (v := ?_) rfl rfl (by kernel_rfl) (by kernel_rfl) (by kernel_rfl) (by kernel_rfl) (fun _ _ _ h => h) (by kernel_rfl) ?_ HS.out (by first | (simp only [put_norm]; exact rfl) | exact rfl) ?_
      rotate_left
      · rintro X0 s0
        have x0 := (s0.cell (p := ⟨b, off + k * 2, none⟩) HEl.out.1).trans HEl.out.2.1
        clear s0
        go_simp; try (with_reducible rfl)
      refine Till.take [15, 16, 17] 14 35 (v := ?_) rfl rfl (by kernel_rfl) (by kernel_rfl) (by kernel_rfl) (by kernel_rfl) (fun _ _ _ h => h) (by kernel_rfl) ?_ HS.out (by first | (simp only [put_norm]; exact rfl) | exact rfl) ?_
      rotate_left
      · rintro X0 s0
        have x1 := (s0.cell (p := ⟨b, off + k * 2 + 1, none⟩) HEl.out.1).trans HEl.out.2.2
        clear s0
        go_simp; try (with_reducible rfl)
      refine Till.one 8 (by kernel_rfl) rfl (fun K hK => ?_)
      go_simp
      go_at_call 18
      refine (HLt.out _).mono ?_
      rintro y w3 ⟨rfl, hb3⟩
      have HS3 := Lib.hid (show Below wr.heap.size wr w3 from HS.out.trans hb3)
      have HJ3 := Lib.hid (HJ.out.on HS3.out)
      clear hb3
      go_simp
      refine hK.out _ _ (fun _ => HS3.out) ?_
      clear hK K
      try simp only [put_norm]
      refine Till.takeY 15 36 (v := ?_) rfl rfl (by kernel_rfl) (by kernel_rfl) (by kernel_rfl) (by decide) (fun _ _ _ h => h) (by kernel_rfl) ?_ (fun _ => HS3.out) (by first | (simp only [put_norm]; exact rfl) | exact rfl) ?_
      rotate_left
      · rintro X0 -
        go_simp; try (with_reducible rfl)
      refine Till.one 16 (by kernel_rfl) rfl (fun K hK => ?_)
      go_simp
      have HL3 := Lib.hid (HJ3.out.lit (.cells #[.string ⟨Z1.toArray⟩, .int .i64 TY] 60))
      have HS4 := Lib.hid (HS3.out.alloc HS3.out.size (.cells #[.string ⟨Z1.toArray⟩, .int .i64 TY] 60))
      refine hK.out _ _ (fun _ => HS4.out) ?_
      clear hK K
      try simp only [put_norm]
      refine Till.one 17 (by kernel_rfl) rfl (fun K hK => ?_)
      refine step_appY paY rfl (.tmp 22) (.tmp 37) 28 60 rfl w0.heap.size (.agg #[.string ⟨#[]⟩, .int .i64 0]) 24 Tryd.underlying28 Tryd.infoPa rfl (by decide) (by decide) _ Tk (Z1, TY) [.string ⟨Z1.toArray⟩, .int .i64 TY] w3.heap.size 1 rfl rfl HL3.out.own rfl (lit_rowcells w3 [.string ⟨Z1.toArray⟩, .int .i64 TY] _) HTl.out HL3.out.size ?_
      intro v4 w4 ho hg hv4
      obtain ⟨p4, n4, c4, rfl, hn4⟩ := rowOwn_shape ho
      have HA4 := Lib.hid (HL3.out.app ho hg)
      obtain ⟨⟨j0, j1, j2⟩, jf0, jf1, jf2⟩ := cells3 HA4.out.x
      clear ho hg hv4 hn4
      refine hK.out _ _ (fun h => nomatch (show (true : Bool) = false from h)) ?_
      clear hK K
      try simp only [put_norm]
      refine Till.takeY 18 39 (v := ?_) rfl rfl (by kernel_rfl) (by kernel_rfl) (by kernel_rfl) (by decide) (fun _ _ _ h => h) (by kernel_rfl) ?_ (fun h => nomatch (show (true : Bool) = false from h)) (by first | (simp only [put_norm]; exact rfl) | exact rfl) ?_
      rotate_left
      · rintro X0 -
        go_simp; try (with_reducible rfl)
      refine Till.one 19 (by kernel_rfl) rfl (fun K hK => ?_)
      go_simp
      refine hK.out _ _ (fun h => nomatch (show (true : Bool) = false from h)) ?_
      clear hK K
      try simp only [put_norm]
      refine Till.done (by kernel_rfl) ?_ _
      go_wp2_with fail
      go_roundw
      case rel =>
        refine ⟨k + 1, .slice p4 n4 c4, by omega, by omega, by go_num, Lib.hid ?_⟩
        rw [HStep.out]
        exact CpB.put HA4.out rfl rfl
      case measure => simp [intOf]; omega
    · have HT := Lib.hid (take_end (f := cutPa) HNm.out hk hk12 hgo)
      have hcase : ((k : Int) < (m : Int) ∧ ¬ (k : Int) < 12) ∨ ¬ (k : Int) < (m : Int) := by omega
      have hszA : w0.heap.size ≤ wr.heap.size := HJ.out.size
      have HXA := Lib.hid (And.intro HX0.out ((HJ.out.frame (w.heap.size + 1) (by omega) (by omega)).trans HX.out.2.1))
      have HBA := Lib.hid (show Below w.heap.size w wr from HB.out.trans HJ.out.below)
      have HPa : Hid (RowIn paY (fun j => w0.heap.size ≤ j) wr v' ((Lp.take 12).map cutPa)) := Lib.hid (by rw [← HT.out]; exact HJ.out.own.in_)
      obtain ⟨pv, vn, cv, rfl, -⟩ := rowOwn_shape HJ.out.own
      have HK0 : Hid (CpR acY 62 w.heap.size wr.heap.size (w.heap.size + 2) wr (fun y => .cells #[.string (cutB nm), .slice pv vn cv, y] 31) ((La.take 0).map cutAc) (.slice none 0 0) wr) := Lib.hid (CpR.zero (by omega) (by omega) HJ.out.x)
      clear HT hgo hk hk12
      rcases hcase with ⟨hlt', hl12⟩ | hlt'
      all_goals
        clear HJ
        go_wp2_with fail
        clear c0 c1 c2 f0 f1 f2 HX0
        generalize wr = wA at *
        go_loopw [5] (fun i wr => ∃ (k : Nat) (v' : Value), k ≤ n ∧ k ≤ 8 ∧ i = .int .i64 k ∧ Hid (CpR acY 62 w.heap.size wA.heap.size (w.heap.size + 2) wA (fun y => .cells #[.string (cutB nm), .slice pv vn cv, y] 31) ((La.take k).map cutAc) v' wr)) (fun i _ => n - (intOf i).toNat)
        case atStart => exact ⟨0, _, Nat.zero_le _, Nat.zero_le _, rfl, HK0⟩
        case round =>
          clear hlt'
          obtain ⟨k, v', hk, hk8, rfl, HJ⟩ := hrel
          have h0 : (0 : Int) ≤ (k : Int) := by omega
          have HX0 := Lib.hid ((HJ.out.frame w.heap.size (by omega) (by omega)).trans HXA.out.1)
          obtain ⟨⟨c0, c1, c2⟩, f0, f1, f2⟩ := cells3 HX0.out
          obtain ⟨⟨d0, d1, d2⟩, g0, g1, g2⟩ := cells3 HJ.out.x
          by_cases hgo : k < n ∧ k < 8
          · have hlt' : (k : Int) < (n : Int) := by omega
            have hl8 : (k : Int) < 8 := by omega
            have hkn : k < La.length := by rw [← HNn.out]; exact hgo.1
            have HStep := Lib.hid (take_map_succ (f := cutAc) hkn)
            obtain ⟨b, off, c1', us, e1, hbl, hu, hc⟩ := row_at HI2.out hkn
            injection e1 with e1 hq1 hq2
            subst e1
            clear hq1 hq2
            obtain ⟨X, hX⟩ : ∃ X, X = La[k] := ⟨_, rfl⟩
            rw [← hX] at hu HStep
            clear hX
            obtain ⟨u', rfl, hu'⟩ := hu
            have HBr := Lib.hid (show Below w.heap.size w wr from HBA.out.trans HJ.out.below)
            have HLt : Hid (∀ W, Below wr.heap.size wr W → Calls Tryd.prog 16 #[.agg #[.string ⟨X.atom.pred.toArray⟩, u']] W fun e w' => (∃ v, e = .returned (.agg #[.string ⟨(cutA X.atom).pred.toArray⟩, v]) ∧ RowIn tmY (fun k => W.heap.size ≤ k) w' v (cutA X.atom).args) ∧ Below W.heap.size W w') := Lib.hid (fun W hb => HAt.out X.atom u' W ((hu'.in_below HBr.out).in_below hb))
            obtain ⟨pu, cu, rfl⟩ := hu'.shape
            have hbw : ∀ o, wr.cell? ⟨b, o, none⟩ = w.cell? ⟨b, o, none⟩ := fun o => HBr.out.cell (p := ⟨b, o, none⟩) hbl
            obtain ⟨pl, At⟩ := X
            have a0 : wr.cell? ⟨b, off + k * 3, none⟩ = some (.bool pl) := (hbw _).trans (hc 0 _ rfl)
            have a1 : wr.cell? ⟨b, off + k * 3 + 1, none⟩ = some (.string ⟨At.pred.toArray⟩) := (hbw _).trans (hc 1 _ rfl)
            have a2 : wr.cell? ⟨b, off + k * 3 + 2, none⟩ = some (.slice pu At.args.length cu) := (hbw _).trans (hc 2 _ rfl)
            have HEl := Lib.hid (And.intro (show b < wr.heap.size from Nat.lt_of_lt_of_le hbl HBr.out.size) (And.intro a0 (And.intro a1 a2)))
            simp only at HLt
            obtain ⟨Z, hZ⟩ : ∃ Z, Z = cutA At := ⟨_, rfl⟩
            rw [← hZ] at HLt
            have HStep : Hid ((La.take (k + 1)).map cutAc = (La.take k).map cutAc ++ [⟨pl, Z⟩]) := Lib.hid (by rw [HStep.out, hZ]; rfl)
            clear hZ hc hbw hbl hu' hgo
            obtain ⟨Tk, hT⟩ : ∃ Tk, Tk = (La.take k).map cutAc := ⟨_, rfl⟩
            have HTl := Lib.hid (show Tk.length ≤ 1000000 by rw [hT, List.length_map, List.length_take]; omega)
            rw [← hT] at HJ HStep
            clear hT
            obtain ⟨p', c'', rfl⟩ := HJ.out.shape
            go_wp2_with fail
            have HS := Lib.hid ((Below.refl wr.heap.size wr).drew)
            refine Till.begin (S := fun X => Below wr.heap.size wr X) (z := 17) (by kernel_rfl) ?_
            refine Till.takeY 0 51 (v := ?_) rfl rfl (by kernel_rfl) (by kernel_rfl) (by kernel_rfl) (by decide) (fun _ _ _ h => h) (by kernel_rfl) ?_ (fun _ => HS.out) (by first | (simp only [put_norm]; exact rfl) | exact rfl) ?_
            rotate_left
            · rintro X0 -
              go_simp; try (with_reducible rfl)
            refine Till.takeY 2 53 (v := ?_) rfl rfl (by kernel_rfl) (by kernel_rfl) (by kernel_rfl) (by decide) (fun _ _ _ h => h) (by kernel_rfl) ?_ (fun _ => HS.out) (by first | (simp only [put_norm]; exact rfl) | exact rfl) ?_
            rotate_left
            · rintro X0 -
              go_simp; try (with_reducible rfl)
            refine Till.takeY 4 55 (v := ?_) rfl rfl (by kernel_rfl) (by kernel_rfl) (by kernel_rfl) (by decide) (fun _ _ _ h => h) (by kernel_rfl) ?_ (fun _ => HS.out) (by first | (simp only [put_norm]; exact rfl) | exact rfl) ?_
            rotate_left
            · rintro X0 -
              go_simp; try (with_reducible rfl)
            refine Till.takeY 8 59 (v := ?_) rfl rfl (by kernel_rfl) (by kernel_rfl) (by kernel_rfl) (by decide) (fun _ _ _ h => h) (by kernel_rfl) ?_ (fun _ => HS.out) (by first | (simp only [put_norm]; exact rfl) | exact rfl) ?_
            rotate_left
            · rintro X0 -
              go_simp; try (with_reducible rfl)
            refine Till.takeY 10 61 (v := ?_) rfl rfl (by kernel_rfl) (by kernel_rfl) (by kernel_rfl) (by decide) (fun _ _ _ h => h) (by kernel_rfl) ?_ (fun _ => HS.out) (by first | (simp only [put_norm]; exact rfl) | exact rfl) ?_
            rotate_left
            · rintro X0 -
              go_simp; try (with_reducible rfl)
            refine Till.take [17] 1 52 (v := ?_) rfl rfl (by kernel_rfl) (by kernel_rfl) (by kernel_rfl) (by kernel_rfl) (fun _ _ _ h => h) (by kernel_rfl) ?_ HS.out (by first | (simp only [put_norm]; exact rfl) | exact rfl) ?_
            rotate_left
            · rintro X0 s0
              obtain ⟨⟨x0, x1, x2⟩, -⟩ := cells3 ((s0.block (w.heap.size + 2) (by have := HJ.out.lt; have := HJ.out.size; omega)).trans HJ.out.x)
              clear s0
              go_simp; try (with_reducible rfl)
            refine Till.take [5, 6, 7, 15, 16, 17] 3 54 (v := ?_) rfl rfl (by kernel_rfl) (by kernel_rfl) (by kernel_rfl) (by kernel_rfl) (fun _ _ _ h => h) (by kernel_rfl) ?_ HS.out (by first | (simp only [put_norm]; exact rfl) | exact rfl) ?_
            rotate_left
            · rintro X0 s0
              obtain ⟨⟨x0, x1, x2⟩, -⟩ := cells3 ((s0.block w.heap.size (by have := HJ.out.lt; have := HJ.out.size; omega)).trans HX0.out)
              clear s0
              go_simp; try (with_reducible rfl)
            refine Till.take [11, 12, 13, 14, 15, 16, 17] 9 60 (v := ?_) rfl rfl (by kernel_rfl) (by kernel_rfl) (by kernel_rfl) (by kernel_rfl) (fun _ _ _ h => h) (by kernel_rfl) ?_ HS.out (by first | (simp only [put_norm]; exact rfl) | exact rfl) ?_
            rotate_left
            · rintro X0 s0
              obtain ⟨⟨x0, x1, x2⟩, -⟩ := cells3 ((s0.block w.heap.size (by have := HJ.out.lt; have := HJ.out.size; omega)).trans HX0.out)
              clear s0
              go_simp; try (with_reducible rfl)
            refine Till.takeY 5 56 (v := ?_) rfl rfl (by kernel_rfl) (by kernel_rfl) (by kernel_rfl) (by decide) (fun _ _ _ h => h) (by kernel_rfl) ?_ (fun _ => HS.out) (by first | (simp only [put_norm]; exact rfl) | exact rfl) ?_
            rotate_left
            · rintro X0 -
              go_simp; try (with_reducible rfl)
            refine Till.takeY 6 57 (v := ?_) rfl rfl (by kernel_rfl) (by kernel_rfl) (by kernel_rfl) (by decide) (fun _ _ _ h => h) (by kernel_rfl) ?_ (fun _ => HS.out) (by first | (simp only [put_norm]; exact rfl) | exact rfl) ?_
            rotate_left
            · rintro X0 -
              go_simp; try (with_reducible rfl)
            refine Till.takeY 11 62 (v := ?_) rfl rfl (by kernel_rfl) (by kernel_rfl) (by kernel_rfl) (by decide) (fun _ _ _ h => h) (by kernel_rfl) ?_ (fun _ => HS.out) (by first | (simp only [put_norm]; exact rfl) | exact rfl) ?_
            rotate_left
            · rintro X0 -
              go_simp; try (with_reducible rfl)
            refine Till.takeY 12 63 (v := ?_) rfl rfl (by kernel_rfl) (by kernel_rfl) (by kernel_rfl) (by decide) (fun _ _ _ h => h) (by kernel_rfl) ?_ (fun _ => HS.out) (by first | (simp only [put_norm]; exact rfl) | exact rfl) ?_
            rotate_left
            · rintro X0 -
              go_simp; try (with_reducible rfl)
            refine Till.take [15, 16, 17] 7 58 (v := ?_) rfl rfl (by kernel_rfl) (by kernel_rfl) (by kernel_rfl) (by kernel_rfl) (fun _ _ _ h => h) (by kernel_rfl) ?_ HS.out (by first | (simp only [put_norm]; exact rfl) | exact rfl) ?_
            rotate_left
            · rintro X0 s0
              have x0 := (s0.cell (p := ⟨b, off + k * 3, none⟩) HEl.out.1).trans HEl.out.2.1
              clear s0
              go_simp; try (with_reducible rfl)
            refine Till.take [14, 15, 16, 17] 13 64 (v := ?_) rfl rfl (by kernel_rfl) (by kernel_rfl) (by kernel_rfl) (by kernel_rfl) (fun _ _ _ h => h) (by kernel_rfl) ?_ HS.out (by first | (simp only [put_norm]; exact rfl) | exact rfl) ?_
            rotate_left
            · rintro X0 s0
              have x1 := (s0.cell (p := ⟨b, off + k * 3 + 1, none⟩) HEl.out.1).trans HEl.out.2.2.1; have x2 := (s0.cell (p := ⟨b, off + k * 3 + 2, none⟩) HEl.out.1).trans HEl.out.2.2.2
              clear s0
              go_simp; try (with_reducible rfl)
            refine Till.one 14 (by kernel_rfl) rfl (fun K hK => ?_)
            go_simp
            go_at_call 16
            refine (HLt.out _ HS.out).mono ?_
            rintro y w3 ⟨⟨v3, rfl, hv3⟩, hb3⟩
            obtain ⟨p3, c3, rfl⟩ := hv3.shape
            have HS3 := Lib.hid (show Below wr.heap.size wr w3 from HS.out.trans hb3)
            have HJ3 := Lib.hid (HJ.out.on HS3.out)
            have HIs : Hid (acY.is (fun k => wA.heap.size ≤ k ∧ (Value.slice p' Tk.length c'').ownBlock ≠ some k) (w3.alloc (.cells #[.bool pl, .string ⟨Z.pred.toArray⟩, .slice p3 Z.args.length c3] 62)) [.bool pl, .string ⟨Z.pred.toArray⟩, .slice p3 Z.args.length c3] ⟨pl, Z⟩) := Lib.hid ⟨_, rfl, hv3.keep (by simp) fun k hk hl => ⟨⟨Nat.le_trans HJ.out.size (by simpa using hk), fun e => by have h1 := (HJ.out.own.lt k e).2; simp at hk; omega⟩, Below.heap_alloc _ _ _ hl⟩⟩
            clear hb3 hv3
            go_simp
            refine hK.out _ _ (fun _ => HS3.out) ?_
            clear hK K
            try simp only [put_norm]
            refine Till.takeY 15 66 (v := ?_) rfl rfl (by kernel_rfl) (by kernel_rfl) (by kernel_rfl) (by decide) (fun _ _ _ h => h) (by kernel_rfl) ?_ (fun _ => HS3.out) (by first | (simp only [put_norm]; exact rfl) | exact rfl) ?_
            rotate_left
            · rintro X0 -
              go_simp; try (with_reducible rfl)
            refine Till.one 16 (by kernel_rfl) rfl (fun K hK => ?_)
            go_simp
            have HL3 := Lib.hid (HJ3.out.lit (.cells #[.bool pl, .string ⟨Z.pred.toArray⟩, .slice p3 Z.args.length c3] 62))
            have HS4 := Lib.hid (HS3.out.alloc HS3.out.size (.cells #[.bool pl, .string ⟨Z.pred.toArray⟩, .slice p3 Z.args.length c3] 62))
            refine hK.out _ _ (fun _ => HS4.out) ?_
            clear hK K
            try simp only [put_norm]
            refine Till.one 17 (by kernel_rfl) rfl (fun K hK => ?_)
            refine step_appY acY rfl (.tmp 52) (.tmp 67) 29 62 rfl wA.heap.size (.agg #[.bool false, .string ⟨#[]⟩, .slice none 0 0]) 48 Tryd.underlying29 Tryd.infoAc rfl (by decide) (by decide) _ Tk ⟨pl, Z⟩ [.bool pl, .string ⟨Z.pred.toArray⟩, .slice p3 Z.args.length c3] w3.heap.size 1 rfl rfl HL3.out.own HIs.out (lit_rowcells w3 [.bool pl, .string ⟨Z.pred.toArray⟩, .slice p3 Z.args.length c3] _) HTl.out HL3.out.size ?_
            intro v4 w4 ho hg hv4
            obtain ⟨p4, n4, c4, rfl, hn4⟩ := rowOwn_shape ho
            have HA4 := Lib.hid (HL3.out.app ho hg)
            obtain ⟨⟨j0, j1, j2⟩, jf0, jf1, jf2⟩ := cells3 HA4.out.x
            clear ho hg hv4 hn4
            refine hK.out _ _ (fun h => nomatch (show (true : Bool) = false from h)) ?_
            clear hK K
            try simp only [put_norm]
            refine Till.takeY 18 69 (v := ?_) rfl rfl (by kernel_rfl) (by kernel_rfl) (by kernel_rfl) (by decide) (fun _ _ _ h => h) (by kernel_rfl) ?_ (fun h => nomatch (show (true : Bool) = false from h)) (by first | (simp only [put_norm]; exact rfl) | exact rfl) ?_
            rotate_left
            · rintro X0 -
              go_simp; try (with_reducible rfl)
            refine Till.one 19 (by kernel_rfl) rfl (fun K hK => ?_)
            go_simp
            refine hK.out _ _ (fun h => nomatch (show (true : Bool) = false from h)) ?_
            clear hK K
            try simp only [put_norm]
            refine Till.done (by kernel_rfl) ?_ _
            go_wp2_with fail
            go_roundw
            case rel =>
              refine ⟨k + 1, .slice p4 n4 c4, by omega, by omega, by go_num, Lib.hid ?_⟩
              rw [HStep.out]
              exact CpB.put HA4.out rfl rfl
            case measure => simp [intOf]; omega
          · have HT := Lib.hid (take_end (f := cutAc) HNn.out hk hk8 hgo)
            have HX1 := Lib.hid ((HJ.out.frame (w.heap.size + 1) (by omega) (by omega)).trans HXA.out.2)
            obtain ⟨⟨e0, e1, e2⟩, k0, k1, k2⟩ := cells3 HX1.out
            have HR := Lib.hid (rowS3_set (y0 := .string (cutB nm)) (y1 := .slice pv vn cv) (y2 := v') HX1.out)
            have HF : Hid (∀ W, W = ((wr.setCell ⟨w.heap.size + 1, 0, none⟩ (.string (cutB nm))).setCell ⟨w.heap.size + 1, 1, none⟩ (.slice pv vn cv)).setCell ⟨w.heap.size + 1, 2, none⟩ v' → RowIn paY (fun j => w.heap.size ≤ j) W (.slice pv vn cv) ((Lp.take 12).map cutPa) ∧ RowIn acY (fun j => w.heap.size ≤ j) W v' ((La.take 8).map cutAc) ∧ Below w.heap.size w W) := Lib.hid (by
              rintro W rfl
              have off : ∀ j, j ≠ w.heap.size + 1 → (((wr.setCell ⟨w.heap.size + 1, 0, none⟩ (.string (cutB nm))).setCell ⟨w.heap.size + 1, 1, none⟩ (.slice pv vn cv)).setCell ⟨w.heap.size + 1, 2, none⟩ v').heap[j]? = wr.heap[j]? := fun j hj => (heap_setCell_other _ ⟨w.heap.size + 1, 2, none⟩ j _ hj).trans ((heap_setCell_other _ ⟨w.heap.size + 1, 1, none⟩ j _ hj).trans (heap_setCell_other _ ⟨w.heap.size + 1, 0, none⟩ j _ hj))
              refine ⟨HPa.out.keep (by have := HJ.out.below.size; simpa using this) fun j hj hl => ⟨by omega, (off j (by omega)).trans (HJ.out.frame j hl (by omega))⟩, ?_, ((((HBA.out.trans HJ.out.below).setCell (p := ⟨w.heap.size + 1, 0, none⟩) (by simp) _).setCell (p := ⟨w.heap.size + 1, 1, none⟩) (by simp) _).setCell (p := ⟨w.heap.size + 1, 2, none⟩) (by simp) _)⟩
              have ho := HJ.out.own.in_
              rw [HT.out] at ho
              exact ho.keep (by simp) fun j hj _ => ⟨by omega, off j (by omega)⟩)
            obtain ⟨p', n0, c'', rfl, -⟩ := rowOwn_shape HJ.out.own
            have hcase : ((k : Int) < (n : Int) ∧ ¬ (k : Int) < 8) ∨ ¬ (k : Int) < (n : Int) := by omega
            rcases hcase with ⟨hlt', hl8⟩ | hlt'
            all_goals
              go_wp2_with fail
              refine bodyPost_ret (results_cell_row (fn := Tryd.f6) (by rfl) _ _ _ _ _ _ _ (by rfl) HR.out Tryd.underlying31 (by rfl) (by kernel_rfl)) (by rfl) ?_
              obtain ⟨F1, F2, F3⟩ := HF.out _ rfl
              exact ⟨⟨_, _, rfl, by rw [← List.map_take]; exact F1, by rw [← List.map_take]; exact F2⟩, F3⟩
end
section
open Go Go.RowKit Go.Shelf

/-- Declarations whose types are read in a world that stands. -/
def dfY (wO : World) : Lay DeL where
  sz := 3
  is := fun _ _ us d => ∃ u, us = [.string ⟨d.name.toArray⟩, .bool d.base, u] ∧ RowIn tyY (fun _ => True) wO u d.types
  len := fun h => by obtain ⟨u, rfl, -⟩ := h; rfl
  one := fun h x hx => by
    obtain ⟨u, rfl, h⟩ := h
    simp only [List.mem_cons, List.not_mem_nil, or_false] at hx
    rcases hx with rfl | rfl | rfl
    · rfl
    · rfl
    · exact rowIn_one h
  keep := fun h _ _ => h
theorem dfY.row {wO W : World} {S : Nat → Prop} {v : Value} {L : List DeL} (h : RowIn (dfY wO) S W v L) (hb : Below wO.heap.size wO W) : RowIn deY (fun _ => True) W v L := by
  obtain ⟨p, c, rfl, h1, h2, h⟩ := h
  refine ⟨p, c, rfl, h1, h2, ?_⟩
  rcases h with h | ⟨b, off, rfl, -, hl, h⟩
  · exact .inl h
  · refine .inr ⟨b, off, rfl, trivial, hl, fun j hj => ?_⟩
    obtain ⟨us, ⟨u, rfl, hu⟩, hc⟩ := h j hj
    exact ⟨_, ⟨u, rfl, hu.in_below hb⟩, hc⟩
theorem dfY.of {wO : World} {S : Nat → Prop} {v : Value} {L : List DeL} (h : RowIn deY S wO v L) : RowIn (dfY wO) S wO v L := by
  obtain ⟨p, c, rfl, h1, h2, h⟩ := h
  refine ⟨p, c, rfl, h1, h2, ?_⟩
  rcases h with h | ⟨b, off, rfl, hS, hl, h⟩
  · exact .inl h
  · refine .inr ⟨b, off, rfl, hS, hl, fun j hj => ?_⟩
    obtain ⟨us, ⟨u, rfl, hu⟩, hc⟩ := h j hj
    exact ⟨_, ⟨u, rfl, hu.keep (Nat.le_refl _) fun _ _ _ => ⟨trivial, rfl⟩⟩, hc⟩
set_option maxRecDepth 100000 in
set_option maxHeartbeats 8000000 in
theorem ldeclw_any (d : DeL) (u : Value) (S : Nat → Prop) (wO w : World) (h : RowIn tyY S wO u d.types) :
    Calls Tryd.prog 7 #[.agg #[.string ⟨d.name.toArray⟩, .bool d.base, u]] w fun e w' => (∃ v, e = .returned (.agg #[.string ⟨(cutD d).name.toArray⟩, .bool (cutD d).base, v]) ∧ RowIn tyY S wO v (cutD d).types) ∧ Below w.heap.size w w' := by
  have HI := Lib.hid h
  obtain ⟨p, c, rfl⟩ := h.shape
  have hn2 := len_le h
  obtain ⟨p0, c0, e0, hc1, hc2, -⟩ := h
  injection e0 with e1 e2 e3
  subst e1 e3
  clear e2
  rw [show (⟨(cutD d).name.toArray⟩ : ByteArray) = cutB ⟨d.name.toArray⟩ from (cutB_list d.name).symm]
  generalize (⟨d.name.toArray⟩ : ByteArray) = nm at *
  obtain ⟨L, hL⟩ : ∃ L, L = d.types := ⟨_, rfl⟩
  rw [show (cutD d).types = L.take 12 by rw [hL]; rfl, show (cutD d).base = d.base from rfl]
  rw [← hL] at HI hn2 hc1 ⊢
  generalize d.base = bs at *
  obtain ⟨n, hn⟩ : ∃ n, n = L.length := ⟨_, rfl⟩
  have HNn := Lib.hid hn
  rw [← hn] at HI hn2 hc1 ⊢
  clear hL hn d
  have hn3 : (n : Int) ≤ 9223372036854775807 := by omega
  obtain ⟨w0, hw0⟩ : ∃ w0, (w.alloc (.cells #[.string nm, .bool bs, .slice p n c] 34)).alloc (.cells #[.string ⟨#[]⟩, .bool false, .slice none 0 0] 34) = w0 := ⟨_, rfl⟩
  have HB := Lib.hid (show Below w.heap.size w w0 by rw [← hw0]; exact below_box2 w _ _)
  have hx := two_newA w (.cells #[.string nm, .bool bs, .slice p n c] 34) (.cells #[.string ⟨#[]⟩, .bool false, .slice none 0 0] 34)
  rw [hw0] at hx
  have HX := Lib.hid hx
  have HW0 := Lib.hid hw0
  clear hw0 hx
  go_enter Tryd.func7, Tryd.ntmps7
  go_wp2_with fail
  try rw [HW0.out]
  refine (ltext_any _ _).mono ?_
  rintro y w1 ⟨rfl, rfl⟩
  obtain ⟨⟨d0, d1, d2⟩, g0, g1, g2⟩ := cells3 HX.out.1
  obtain ⟨⟨b0, b1, b2⟩, k0, k1, k2⟩ := cells3 HX.out.2
  obtain ⟨wA, hwA⟩ : ∃ wA, w0.setCell ⟨w.heap.size, 0, none⟩ (.string (cutB nm)) = wA := ⟨_, rfl⟩
  have HA0 := Lib.hid (show wA.heap[w.heap.size]? = some (.cells #[.string (cutB nm), .bool bs, .slice p n c] 34 (0, 0)) by rw [← hwA]; exact Go.heap_setCell_same _ w.heap.size 0 _ _ _ HX.out.1)
  have HA1 := Lib.hid (show wA.heap[w.heap.size + 1]? = some (.cells #[.string ⟨#[]⟩, .bool false, .slice none 0 0] 34 (0, 0)) by rw [← hwA]; exact (heap_setCell_other _ ⟨w.heap.size, 0, none⟩ _ _ (by simp)).trans HX.out.2)
  have HBA := Lib.hid (show Below w.heap.size w wA by rw [← hwA]; exact HB.out.setCell (p := ⟨w.heap.size, 0, none⟩) (Nat.le_refl _) _)
  obtain ⟨⟨i0, i1, i2⟩, if0, if1, if2⟩ := cells3 HA0.out
  obtain ⟨⟨j0, j1, j2⟩, jf0, jf1, jf2⟩ := cells3 HA1.out
  have HWA := Lib.hid hwA
  clear hwA
  by_cases hgo : 12 < n
  · have hgt : (12 : Int) < (n : Int) := by omega
    have hle12 : (12 : Int) ≤ (n : Int) := by omega
    have hle12' : (12 : Int) ≤ (c : Int) := by omega
    have hcn : 12 ≤ c := by omega
    have HF : Hid (RowIn tyY S wO (.slice p 12 c) (L.take 12)) := Lib.hid (HI.out.cut (by have := HNn.out; omega))
    go_wp2_with fail
    have hr2 := (heap_setCell_other (w0.setCell ⟨w.heap.size, 0, none⟩ (.string (cutB nm))) ⟨w.heap.size, 2, none⟩ (w.heap.size + 1) (.slice p 12 c) (show w.heap.size + 1 ≠ w.heap.size by omega)).trans ((heap_setCell_other w0 ⟨w.heap.size, 0, none⟩ (w.heap.size + 1) (.string (cutB nm)) (show w.heap.size + 1 ≠ w.heap.size by omega)).trans HX.out.2)
    refine bodyPost_ret (results_cell_row (fn := Tryd.f7) (by rfl) _ _ _ _ _ _ _ (by rfl) (rowS3_set hr2) Tryd.underlying34 (by rfl) (by kernel_rfl)) (by rfl) ?_
    have hbf := (((((HB.out.setCell (p := ⟨w.heap.size, 0, none⟩) (Nat.le_refl _) (.string (cutB nm))).setCell (p := ⟨w.heap.size, 2, none⟩) (Nat.le_refl _) (.slice p 12 c)).setCell (p := ⟨w.heap.size + 1, 0, none⟩) (by simp) (.string (cutB nm))).setCell (p := ⟨w.heap.size + 1, 1, none⟩) (by simp) (.bool bs)).setCell (p := ⟨w.heap.size + 1, 2, none⟩) (by simp) (.slice p 12 c))
    exact ⟨⟨_, rfl, HF.out⟩, hbf⟩
  · have hgt : ¬ (12 : Int) < (n : Int) := by omega
    have HF : Hid (RowIn tyY S wO (.slice p n c) (L.take 12)) := Lib.hid (by rw [List.take_of_length_le (by have := HNn.out; omega)]; exact HI.out)
    go_wp2_with fail
    have hr2 := (heap_setCell_other w0 ⟨w.heap.size, 0, none⟩ (w.heap.size + 1) (.string (cutB nm)) (show w.heap.size + 1 ≠ w.heap.size by omega)).trans HX.out.2
    refine bodyPost_ret (results_cell_row (fn := Tryd.f7) (by rfl) _ _ _ _ _ _ _ (by rfl) (rowS3_set hr2) Tryd.underlying34 (by rfl) (by kernel_rfl)) (by rfl) ?_
    have hbf := ((((HB.out.setCell (p := ⟨w.heap.size, 0, none⟩) (Nat.le_refl _) (.string (cutB nm))).setCell (p := ⟨w.heap.size + 1, 0, none⟩) (by simp) (.string (cutB nm))).setCell (p := ⟨w.heap.size + 1, 1, none⟩) (by simp) (.bool bs)).setCell (p := ⟨w.heap.size + 1, 2, none⟩) (by simp) (.slice p n c))
    exact ⟨⟨_, rfl, HF.out⟩, hbf⟩
end
end Go.Proofs.YtfjpiofinffpfaaDoor
