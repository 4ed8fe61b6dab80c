/-
  The laws' copies of a size: texts, terms.
  The laws' copies of a size: atoms.
-/
import Derived.Test.YtpemmgbopknopaaGreatDoorH11
import Derived.RegionTactic
import Derived.BigRegion
import Derived.Deep.RegionLaw
namespace Go.Proofs.YtpemmgbopknopaaGreatDoor
section
open Go Go.RowKit Go.Shelf

/-- No more than 300 bytes. -/
def cutB (s : ByteArray) : ByteArray := if 300 < s.size then s.extract 0 300 else s
theorem cutB_data (s : ByteArray) : (cutB s).data.toList = s.data.toList.take 300 := by
  unfold cutB
  split
  · rw [ByteArray.data_extract]
    simp
  · rw [List.take_of_length_le]
    rw [← Lib.size_eq]
    omega
theorem cutB_list (l : List UInt8) : cutB ⟨l.toArray⟩ = ⟨(l.take 300).toArray⟩ := by
  have h := cutB_data ⟨l.toArray⟩
  exact (str_of_list (s := cutB ⟨l.toArray⟩) (l := l.take 300) h.symm).symm
theorem cutB_le (s : ByteArray) : (cutB s).size ≤ 300 := by rw [Lib.size_eq, cutB_data, List.length_take]; omega
def cutT (t : TmL) : TmL := ⟨t.kind, t.name.take 300, (t.val.1, t.val.2.1, cutB t.val.2.2)⟩
theorem cutT_sm {t : TmL} (h : I64 t.val.2.1) : SmT (cutT t) := ⟨by simp only [cutT, List.length_take]; omega, h⟩
set_option maxRecDepth 100000 in
theorem ltext_any (s : ByteArray) (w : World) : Calls Tryz.prog 16 #[.string s] w fun e w' => e = .returned (.string (cutB s)) ∧ w = w' := by
  by_cases h : 300 < s.size
  · have h' : (300 : Int) < (s.size : Int) := by omega
    have h2 : (300 : Int) ≤ (s.size : Int) := by omega
    have HC := Lib.hid (show cutB s = s.extract 0 300 by unfold cutB; rw [if_pos h])
    rw [HC.out]
    clear h
    go_enter Tryz.func16, Tryz.ntmps16
    go_wp2_with fail
    go_ret
    exact ⟨rfl, rfl⟩
  · have h' : ¬ (300 : Int) < (s.size : Int) := by omega
    have HC := Lib.hid (show cutB s = s by unfold cutB; rw [if_neg h])
    rw [HC.out]
    clear h
    go_enter Tryz.func16, Tryz.ntmps16
    go_wp2_with fail
    go_ret
    exact ⟨rfl, rfl⟩
theorem set_14 {A W : World} {b : Nat} {t : TypeId} {u v x y z v' z' : Value} (h : A.heap[b]? = some (.cells #[u, v, x, y, z] t (0, 0))) (hW : ((A.setCell ⟨b, 1, none⟩ v').setCell ⟨b, 4, none⟩ z').drew = W) :
    W.heap[b]? = some (.cells #[u, v', x, y, z'] t (0, 0)) ∧ ∀ k, k ≠ b → W.heap[k]? = A.heap[k]? := by
  subst hW
  have h1 : (A.setCell ⟨b, 1, none⟩ v').heap[b]? = some (.cells #[u, v', x, y, z] t (0, 0)) := Go.heap_setCell_same _ b 1 _ _ v' h
  have h2 : ((A.setCell ⟨b, 1, none⟩ v').setCell ⟨b, 4, none⟩ z').heap[b]? = some (.cells #[u, v', x, y, z'] t (0, 0)) := Go.heap_setCell_same _ b 4 _ _ z' h1
  exact ⟨h2, fun k hk => (heap_setCell_other _ ⟨b, 4, none⟩ k _ hk).trans (heap_setCell_other _ ⟨b, 1, none⟩ k _ hk)⟩
theorem below_14 {A W w : World} {n b : Nat} {v' z' : Value} (h : Below n w A) (hb : n ≤ b) (hW : ((A.setCell ⟨b, 1, none⟩ v').setCell ⟨b, 4, none⟩ z').drew = W) : Below n w W := by
  subst hW
  exact ((h.setCell (p := ⟨b, 1, none⟩) hb _).setCell (p := ⟨b, 4, none⟩) hb _).drew
set_option maxRecDepth 100000 in
set_option maxHeartbeats 4000000 in
theorem lterm_any (t : TmL) (w : World) : Calls Tryz.prog 14 #[valT t] w fun e w' => e = .returned (valT (cutT t)) ∧ Below w.heap.size w w' := by
  obtain ⟨k, nm, v1, v2, v3⟩ := t
  show Calls Tryz.prog 14 #[.agg #[.int .i64 k, .string ⟨nm.toArray⟩, .int .i64 v1, .int .i64 v2, .string v3]] w fun e w' => e = .returned (.agg #[.int .i64 k, .string ⟨(nm.take 300).toArray⟩, .int .i64 v1, .int .i64 v2, .string (cutB v3)]) ∧ Below w.heap.size w w'
  rw [← cutB_list]
  generalize (⟨nm.toArray⟩ : ByteArray) = n
  obtain ⟨w0, hw0⟩ : ∃ w0, (w.alloc (.cells #[.int .i64 k, .string n, .int .i64 v1, .int .i64 v2, .string v3] 42)).alloc (.cells #[.int .i64 0, .string ⟨#[]⟩, .int .i64 0, .int .i64 0, .string ⟨#[]⟩] 42) = w0 := ⟨_, rfl⟩
  have HB := Lib.hid (show Below w.heap.size w w0 by rw [← hw0]; exact below_box2 w _ _)
  have hx := two_newA w (.cells #[.int .i64 k, .string n, .int .i64 v1, .int .i64 v2, .string v3] 42) (.cells #[.int .i64 0, .string ⟨#[]⟩, .int .i64 0, .int .i64 0, .string ⟨#[]⟩] 42)
  rw [hw0] at hx
  have HX := Lib.hid hx
  go_enter Tryz.func14, Tryz.ntmps14
  go_wp2_with fail
  try rw [hw0]
  obtain ⟨⟨c0, c1, c2, c3, c4⟩, f0, f1, f2, f3, f4⟩ := cells5 hx.1
  clear hw0 hx
  go_region_with (go_at_call 16; refine (ltext_any _ _).mono ?_; rintro y w1 ⟨rfl, rfl⟩)
  all_goals
    generalize hW : World.drew _ = W
    obtain ⟨y1, y2⟩ := set_14 (A := w0) HX.out.1 hW
    have HBW := Lib.hid (below_14 (w := w) HB.out (Nat.le_refl _) hW)
    have HY2 := Lib.hid ((y2 (w.heap.size + 1) (by omega)).trans HX.out.2)
    obtain ⟨⟨d0, d1, d2, d3, d4⟩, -⟩ := cells5 y1
    obtain ⟨⟨e0, e1, e2, e3, e4⟩, g0, g1, g2, g3, g4⟩ := cells5 HY2.out
    clear c0 c1 c2 c3 c4 f0 f1 f2 f3 f4 y1 y2 hW
    go_wp2_with fail
    refine bodyPost_ret (results_cell_row (fn := Tryz.f14) (by rfl) _ _ _ _ _ _ _ (by rfl) (row5_set HY2.out) Tryz.underlying42 (by rfl) (by kernel_rfl)) (by rfl) ?_
    refine ⟨rfl, ?_⟩
    exact ((((HBW.out.setCell (p := ⟨w.heap.size + 1, 0, none⟩) (by simp) _).setCell (p := ⟨w.heap.size + 1, 1, none⟩) (by simp) _).setCell (p := ⟨w.heap.size + 1, 2, none⟩) (by simp) _).setCell (p := ⟨w.heap.size + 1, 3, none⟩) (by simp) _).setCell (p := ⟨w.heap.size + 1, 4, none⟩) (by simp) _
end
section
open Go Go.RowKit Go.Shelf

def cutA (a : AtL) : AtL := ⟨a.pred.take 300, (a.args.take 12).map cutT⟩
theorem three_new (w : World) (o o' o'' : Obj) : (((w.alloc o).alloc o').alloc o'').heap[w.heap.size]? = some o ∧ (((w.alloc o).alloc o').alloc o'').heap[w.heap.size + 1]? = some o' ∧ (((w.alloc o).alloc o').alloc o'').heap[w.heap.size + 2]? = some o'' := by
  have s2 : ((w.alloc o).alloc o').heap.size = w.heap.size + 2 := by simp
  have x2 := heap_alloc_new ((w.alloc o).alloc o') o''
  rw [s2] at x2
  have up : ∀ {A : World} {b : Nat} {o p : Obj}, A.heap[b]? = some o → (A.alloc p).heap[b]? = some o := fun h => (Below.heap_alloc _ _ _ (Array.getElem?_eq_some_iff.1 h).1).trans h
  exact ⟨up (two_newA w o o').1, up (two_newA w o o').2, x2⟩
theorem below_box3 (w : World) (o o' o'' : Obj) : Below w.heap.size w (((w.alloc o).alloc o').alloc o'') := (below_box2 w o o').alloc (by simp; omega) _
/-- What a loop of copies keeps: the argument's struct, the result's, the new one's with the row so far. -/
structure CpS {α : Type} (Y : Lay α) (et : TypeId) (w : World) (a0 a1 : Obj) (a2 : Value → Obj) (L : List α) (v : Value) (wr : World) : Prop where
  own : RowOwn Y et (w.heap.size + 3) wr v L
  below : Below w.heap.size w wr
  size : w.heap.size + 3 ≤ wr.heap.size
  x0 : wr.heap[w.heap.size]? = some a0
  x1 : wr.heap[w.heap.size + 1]? = some a1
  x2 : wr.heap[w.heap.size + 2]? = some (a2 v)
section
variable {α : Type} {Y : Lay α} {et : TypeId} {w w1 wr : World} {a0 a1 : Obj} {a2 : Value → Obj} {L : List α} {v : Value}
theorem CpS.on (h : CpS Y et w a0 a1 a2 L v wr) (hb : Below wr.heap.size wr w1) : CpS Y et w a0 a1 a2 L v w1 :=
  ⟨h.own.keep hb.size fun k _ hk => hb.block k hk, h.below.trans (hb.mono h.below.size), Nat.le_trans h.size hb.size, (hb.block _ (by have := h.size; omega)).trans h.x0, (hb.block _ (by have := h.size; omega)).trans h.x1, (hb.block _ (by have := h.size; omega)).trans h.x2⟩
theorem CpS.lit (h : CpS Y et w a0 a1 a2 L v wr) (o : Obj) : CpS Y et w a0 a1 a2 L v (wr.alloc o) := h.on ((Below.refl _ _).alloc (Nat.le_refl _) o)
/-- Behind the append, ahead of the store. -/
theorem CpS.app {v' : Value} {w2 : World} {L' : List α} (h : CpS Y et w a0 a1 a2 L v wr) (ho : RowOwn Y et (w.heap.size + 3) w2 v' L') (hg : wr.grownBy w2 v.ownBlock) :
    RowOwn Y et (w.heap.size + 3) w2 v' L' ∧ Below w.heap.size w w2 ∧ w.heap.size + 3 ≤ w2.heap.size ∧ w2.heap[w.heap.size]? = some a0 ∧ w2.heap[w.heap.size + 1]? = some a1 ∧ w2.heap[w.heap.size + 2]? = some (a2 v) := by
  have off : ∀ k, k < w.heap.size + 3 → w2.heap[k]? = wr.heap[k]? := fun k hk => hg.block k (by have := h.size; omega) (fun e => by have := (h.own.lt k e.symm).1; omega)
  exact ⟨ho, h.below.grown hg (by have := h.size; omega) (fun k e => by have := (h.own.lt k e).1; omega), Nat.le_trans h.size hg.size, (off _ (by omega)).trans h.x0, (off _ (by omega)).trans h.x1, (off _ (by omega)).trans h.x2⟩
/-- Behind the store. -/
theorem CpS.put {v' : Value} {w2 w3 : World} {L' : List α} (h : RowOwn Y et (w.heap.size + 3) w2 v' L' ∧ Below w.heap.size w w2 ∧ w.heap.size + 3 ≤ w2.heap.size ∧ w2.heap[w.heap.size]? = some a0 ∧ w2.heap[w.heap.size + 1]? = some a1 ∧ w2.heap[w.heap.size + 2]? = some (a2 v))
    (hs : w3.heap.size = w2.heap.size) (hw : w3.heap[w.heap.size + 2]? = some (a2 v')) (hk : ∀ k, k ≠ w.heap.size + 2 → w3.heap[k]? = w2.heap[k]?) (hb : Below w.heap.size w w3) : CpS Y et w a0 a1 a2 L' v' w3 :=
  ⟨h.1.keep (by omega) fun k hB _ => hk k (by omega), hb, by rw [hs]; exact h.2.2.1, (hk _ (by omega)).trans h.2.2.2.1, (hk _ (by omega)).trans h.2.2.2.2.1, hw⟩
theorem rowOwn_shape {B : Nat} (h : RowOwn Y et B wr v L) : ∃ p n c, v = .slice p n c ∧ n = L.length := by
  obtain ⟨us, ho, -⟩ := h
  rcases ho.2 with ⟨rfl, e⟩ | ⟨g, cap, cur, rfl, -⟩
  · exact ⟨none, 0, 0, rfl, e.symm⟩
  · exact ⟨_, _, _, rfl, rfl⟩
theorem CpS.shape (h : CpS Y et w a0 a1 a2 L v wr) : ∃ p c, v = .slice p L.length c := by
  obtain ⟨us, ho, -⟩ := h.own
  rcases ho.2 with ⟨rfl, e⟩ | ⟨g, cap, cur, rfl, -⟩
  · exact ⟨none, 0, by rw [e]⟩
  · exact ⟨_, _, rfl⟩
theorem take_map_succ {β : Type} {f : α → β} {k : Nat} (h : k < L.length) : (L.take (k + 1)).map f = (L.take k).map f ++ [f L[k]] := by
  rw [List.take_succ_eq_append_getElem h, List.map_append, List.map_singleton]
end
/-- One cell of a struct set. -/
theorem set_one {A W : World} {b i : Nat} {cs : Array Value} {t : TypeId} {u : Value} (h : A.heap[b]? = some (.cells cs t (0, 0))) (hW : (A.setCell ⟨b, i, none⟩ u).drew = W) :
    W.heap[b]? = some (.cells (cs.setIfInBounds i u) t (0, 0)) ∧ (∀ k, k ≠ b → W.heap[k]? = A.heap[k]?) ∧ W.heap.size = A.heap.size ∧ ∀ n (w : World), Below n w A → n ≤ b → Below n w W := by
  subst hW
  exact ⟨Go.heap_setCell_same _ b i _ _ u h, fun k hk => heap_setCell_other _ ⟨b, i, none⟩ k _ hk, by simp, fun n w hb hn => (hb.setCell (p := ⟨b, i, none⟩) hn _).drew⟩
set_option maxRecDepth 100000 in
set_option maxHeartbeats 8000000 in
theorem latom_any (a : AtL) (u : Value) (S : Nat → Prop) (w : World) (h : RowIn tmY S w u a.args) :
    Calls Tryz.prog 50 #[.agg #[.string ⟨a.pred.toArray⟩, u]] w fun e w' => (∃ v, e = .returned (.agg #[.string ⟨(cutA a).pred.toArray⟩, v]) ∧ RowIn tmY (fun k => w.heap.size ≤ k) w' v (cutA a).args) ∧ Below w.heap.size w w' := by
  have HI := Lib.hid h
  obtain ⟨p, c, rfl⟩ := h.shape
  have hn2 := len_le h
  obtain ⟨n, hn⟩ : ∃ n, n = a.args.length := ⟨_, rfl⟩
  have HN := Lib.hid hn
  obtain ⟨nm, hnm⟩ : ∃ nm : ByteArray, nm = ⟨a.pred.toArray⟩ := ⟨_, rfl⟩
  have hcut : (⟨(cutA a).pred.toArray⟩ : ByteArray) = cutB nm := by rw [hnm, cutB_list]; rfl
  have HArgs := Lib.hid (show (cutA a).args = (a.args.take 12).map cutT from rfl)
  rw [hcut, ← hnm, ← hn]
  rw [← hn] at HI hn2
  have hn3 : (n : Int) ≤ 9223372036854775807 := by omega
  clear h hnm hcut hn hn2
  obtain ⟨w0, hw0⟩ : ∃ w0, (((w.alloc (.cells #[.string nm, .slice p n c] 46)).alloc (.cells #[.string ⟨#[]⟩, .slice none 0 0] 46)).alloc (.cells #[.string (cutB nm), .slice none 0 0] 46)) = w0 := ⟨_, rfl⟩
  have hx := three_new w (.cells #[.string nm, .slice p n c] 46) (.cells #[.string ⟨#[]⟩, .slice none 0 0] 46) (.cells #[.string (cutB nm), .slice none 0 0] 46)
  have HJ0 : Hid (CpS tmY 42 w (.cells #[.string nm, .slice p n c] 46) (.cells #[.string ⟨#[]⟩, .slice none 0 0] 46) (fun v => .cells #[.string (cutB nm), v] 46) [] (.slice none 0 0) w0) :=
    Lib.hid (by rw [← hw0]; exact ⟨RowOwn.nil _ _ _ _, below_box3 _ _ _ _, by simp, hx.1, hx.2.1, hx.2.2⟩)
  have HW0 := Lib.hid hw0
  clear hx hw0
  go_enter Tryz.func50, Tryz.ntmps50
  go_wp2_with (go_at_call 16; refine (ltext_any _ _).mono ?_; rintro y w1 ⟨rfl, rfl⟩)
  rw [HW0.out]
  go_loopw [4] (fun i wr => ∃ (k : Nat) (v : Value), k ≤ n ∧ k ≤ 12 ∧ i = .int .i64 k ∧ Hid (CpS tmY 42 w (.cells #[.string nm, .slice p n c] 46) (.cells #[.string ⟨#[]⟩, .slice none 0 0] 46) (fun v => .cells #[.string (cutB nm), v] 46) ((a.args.take k).map cutT) v wr)) (fun i _ => n - (intOf i).toNat)
  case atStart => exact ⟨0, _, Nat.zero_le _, Nat.zero_le _, rfl, HJ0⟩
  case round =>
    obtain ⟨k, v, hk, hk12, rfl, HJ⟩ := hrel
    have h0 : (0 : Int) ≤ (k : Int) := by omega
    obtain ⟨⟨c0, c1⟩, f0, f1⟩ := cells2 HJ.out.x0
    by_cases hgo : k < n ∧ k < 12
    · have hlt' : (k : Int) < (n : Int) := by omega
      have hl12 : (k : Int) < 12 := by omega
      have hkn : k < a.args.length := by rw [← HN.out]; exact hgo.1
      obtain ⟨b, off, cc, e1, hbl, a0, a1, a2, a3, a4⟩ := cells5_at (HI.out.in_below HJ.out.below) hkn
      injection e1 with e1 hq1 hq2
      subst e1
      clear hq1 hq2
      obtain ⟨⟨d0, d1⟩, g0, g1⟩ := cells2 HJ.out.x2
      have HStep := Lib.hid (take_map_succ (f := cutT) hkn)
      obtain ⟨X, hX⟩ : ∃ X, X = a.args[k] := ⟨_, rfl⟩
      rw [← hX] at a0 a1 a2 a3 a4 HStep
      clear hX
      have HLt := Lib.hid (lterm_any X)
      obtain ⟨Z, hZ⟩ : ∃ Z, Z = cutT X := ⟨_, rfl⟩
      rw [← hZ] at HLt HStep
      clear hZ
      obtain ⟨K, N, ⟨v1, v2, v3⟩⟩ := X
      unfold valT at HLt
      obtain ⟨T, hT⟩ : ∃ T, T = (a.args.take k).map cutT := ⟨_, rfl⟩
      have HTl := Lib.hid (show T.length ≤ 1000000 by rw [hT, List.length_map, List.length_take]; omega)
      rw [← hT] at HJ HStep
      clear hT
      obtain ⟨pv, cv, rfl⟩ := HJ.out.shape
      simp only at a0 a1 a2 a3 a4 HLt
      clear hgo
      go_wp2_with fail
      go_region_law (first
        | (refine step_appY tmY rfl (.tmp 21) (.tmp 28) 44 42 rfl (w.heap.size + 3) (.agg #[.int .i64 0, .string ⟨#[]⟩, .int .i64 0, .int .i64 0, .string ⟨#[]⟩]) 56 Tryz.underlying44 Tryz.infoTm rfl (by decide) (by decide) _ T Z (cellT Z) w3.heap.size 1 rfl rfl HL3.out.own rfl (lit_rowcells w3 (cellT Z) _) HTl.out HL3.out.size ?_; intro v4 w4 ho hg hv4; obtain ⟨p4, n4, c4, rfl, hn4⟩ := rowOwn_shape ho; have HA4 := Lib.hid (HL3.out.app ho hg); obtain ⟨⟨j0, j1⟩, jf0, jf1⟩ := cells2 HA4.out.2.2.2.2.2; clear ho hg hv4 hn4)
        | (go_simp; go_at_call 14; refine (HLt.out _).mono ?_; rintro y w3 ⟨rfl, hb3⟩; have HJ3 := Lib.hid (HJ.out.on ((Below.refl _ wr).drew.trans hb3)); have HL3 := Lib.hid (HJ3.out.lit (.cells #[.int .i64 Z.kind, .string ⟨Z.name.toArray⟩, .int .i64 Z.val.1, .int .i64 Z.val.2.1, .string Z.val.2.2] 42)); obtain ⟨⟨i0, i1⟩, if0, if1⟩ := cells2 HJ3.out.x0; obtain ⟨⟨l0, l1⟩, lf0, lf1⟩ := cells2 HJ3.out.x2; obtain ⟨⟨m0, m1⟩, mf0, mf1⟩ := cells2 HL3.out.x2; clear hb3))
      all_goals
        go_wp2_with fail
        go_roundw
        case rel =>
          refine ⟨k + 1, .slice p4 n4 c4, by omega, by omega, by go_num, Lib.hid ?_⟩
          rw [HStep.out]
          exact CpS.put HA4.out (by simp) (Go.heap_setCell_same _ (w.heap.size + 2) 1 _ _ _ HA4.out.2.2.2.2.2) (fun j hj => heap_setCell_other _ ⟨w.heap.size + 2, 1, none⟩ j _ hj) (HA4.out.2.1.setCell (p := ⟨w.heap.size + 2, 1, none⟩) (by simp) _)
        case measure => simp [intOf]; omega
    · have HT := Lib.hid (show (a.args.take k).map cutT = (a.args.take 12).map cutT by
        have h1 := HN.out
        rcases Nat.lt_or_ge k 12 with h2 | h2
        · rw [List.take_of_length_le (by omega), List.take_of_length_le (by omega)]
        · rw [show k = 12 by omega])
      obtain ⟨⟨d0, d1⟩, g0, g1⟩ := cells2 HJ.out.x2
      obtain ⟨⟨e0, e1⟩, k0, k1⟩ := cells2 HJ.out.x1
      have HR := Lib.hid (row2_set (u' := .string (cutB nm)) (v' := v) HJ.out.x1)
      have HF : Hid (RowIn tmY (fun j => w.heap.size ≤ j) ((wr.setCell ⟨w.heap.size + 1, 0, none⟩ (.string (cutB nm))).setCell ⟨w.heap.size + 1, 1, none⟩ v) v (cutA a).args ∧ Below w.heap.size w ((wr.setCell ⟨w.heap.size + 1, 0, none⟩ (.string (cutB nm))).setCell ⟨w.heap.size + 1, 1, none⟩ v)) := Lib.hid (by
        refine ⟨?_, (HJ.out.below.setCell (p := ⟨w.heap.size + 1, 0, none⟩) (by simp) _).setCell (p := ⟨w.heap.size + 1, 1, none⟩) (by simp) _⟩
        have ho := HJ.out.own.in_
        rw [HT.out, ← HArgs.out] at ho
        exact ho.keep (by simp) fun j hj _ => ⟨by omega, (heap_setCell_other _ ⟨w.heap.size + 1, 1, none⟩ j _ (show j ≠ w.heap.size + 1 by omega)).trans (heap_setCell_other _ ⟨w.heap.size + 1, 0, none⟩ j _ (show j ≠ w.heap.size + 1 by omega))⟩)
      obtain ⟨pv, n0, cv, rfl, -⟩ := rowOwn_shape HJ.out.own
      by_cases hlt : k < n
      · have hlt' : (k : Int) < (n : Int) := by omega
        have hl12 : ¬ (k : Int) < 12 := by omega
        go_wp2_with fail
        refine bodyPost_ret (results_cell_row (fn := Tryz.f50) (by rfl) _ _ _ _ _ _ _ (by rfl) HR.out Tryz.underlying46 (by rfl) (by kernel_rfl)) (by rfl) ?_
        exact ⟨⟨_, rfl, HF.out.1⟩, HF.out.2⟩
      · have hlt' : ¬ (k : Int) < (n : Int) := by omega
        go_wp2_with fail
        refine bodyPost_ret (results_cell_row (fn := Tryz.f50) (by rfl) _ _ _ _ _ _ _ (by rfl) HR.out Tryz.underlying46 (by rfl) (by kernel_rfl)) (by rfl) ?_
        exact ⟨⟨_, rfl, HF.out.1⟩, HF.out.2⟩
end
end Go.Proofs.YtpemmgbopknopaaGreatDoor
