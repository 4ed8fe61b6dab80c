/-
  Words for the law CacheRoom, second part: what Put, Get at the end and the copies leave.
-/
import Derived.Test.YtdjebcfpodfhhaaChU
import Derived.Test.YtdjebcfpodfhhaaChFp
namespace Go.Proofs.Ytdjebcfpodfhhaa
open Go Go.RowKit Go.Maps Go.WideMaps

/-- An op in a box. -/
def OpBox (b : Nat) (kd : Int) (r : ByteArray) (pg : Int) (pv : Value) (W : World) : Prop := W.cell? ⟨b, 0, none⟩ = some (.int .i64 kd) ∧ W.cell? ⟨b, 1, none⟩ = some (.string r) ∧ W.cell? ⟨b, 2, none⟩ = some (.int .i64 pg) ∧ W.cell? ⟨b, 3, none⟩ = some pv
theorem opBox_mk (w : World) (kd : Int) (r : ByteArray) (pg : Int) (pv : Value) : OpBox w.heap.size kd r pg pv (w.alloc (.cells #[.int .i64 kd, .string r, .int .i64 pg, pv] 36)) := by
  refine ⟨?_, ?_, ?_, ?_⟩ <;> exact (cell_of_row _ w.heap.size _ _ _ (0, 0) (heap_alloc_new w _)).trans (by simp)
theorem OpBox.below {b : Nat} {kd : Int} {r : ByteArray} {pg : Int} {pv : Value} {W W' : World} (h : OpBox b kd r pg pv W) (hb : Below W.heap.size W W') : OpBox b kd r pg pv W' :=
  have k : ∀ {o : Nat} {u : Value}, W.cell? ⟨b, o, none⟩ = some u → W'.cell? ⟨b, o, none⟩ = some u := fun {o _} h => (hb.cell (p := ⟨b, o, none⟩) (lt_of_cell h)).trans h
  ⟨k h.1, k h.2.1, k h.2.2.1, k h.2.2.2⟩
theorem OpBox.upd {b : Nat} {kd : Int} {r : ByteArray} {pg : Int} {pv : Value} {W W' : World} {Z : Nat → Prop} (h : OpBox b kd r pg pv W) (hu : Upd (allOf Z) W W') (hb : ¬ Z b) : OpBox b kd r pg pv W' :=
  have k : ∀ {o : Nat} {u : Value}, W.cell? ⟨b, o, none⟩ = some u → W'.cell? ⟨b, o, none⟩ = some u := fun {o _} h => (hu.cell b o (lt_of_cell h) hb).trans h
  ⟨k h.1, k h.2.1, k h.2.2.1, k h.2.2.2⟩
theorem OpsA.row {w wr : World} {p1 : Option Addr} {cp1 : Nat} {L : List OpV} (h : OpsA w (.slice p1 L.length cp1) L) (hb : Below w.heap.size w wr) {k : Nat} (hk : k < L.length) :
    ∃ bb bo kd r pg pt lt ct, p1 = some ⟨bb, bo, none⟩ ∧ wr.cell? ⟨bb, bo + k * 4, none⟩ = some (.int .i64 kd) ∧ wr.cell? ⟨bb, bo + k * 4 + 1, none⟩ = some (.string r) ∧ wr.cell? ⟨bb, bo + k * 4 + 2, none⟩ = some (.int .i64 pg) ∧ wr.cell? ⟨bb, bo + k * 4 + 3, none⟩ = some (.slice pt lt ct) ∧
      (Lit.int .i64 pg).wf = true ∧ (lt ≤ 20 → ∃ E, EntS (fun k => k < w.heap.size) w (.slice pt lt ct) E) ∧ r.size ≤ maxLen ∧ lt ≤ maxLen := by
  obtain ⟨p, cap, e, -, h2, h3⟩ := h
  injection e with e1 _ _
  subst e1
  rcases h2 with h | ⟨b, off, rfl, hlt, hc⟩
  · rw [h] at hk
    simp at hk
  · obtain ⟨c0, c1, c2, c3⟩ := hc k L[k] (List.getElem?_eq_getElem hk)
    obtain ⟨g1, -, g2, pt, lt, ct, e, g3, g4⟩ := h3 L[k] (List.getElem_mem hk)
    rw [e] at c3 g4
    exact ⟨b, off, _, _, _, pt, lt, ct, rfl, (hb.cell (p := ⟨b, _, none⟩) hlt).trans c0, (hb.cell (p := ⟨b, _, none⟩) hlt).trans c1, (hb.cell (p := ⟨b, _, none⟩) hlt).trans c2, (hb.cell (p := ⟨b, _, none⟩) hlt).trans c3, g1, fun h => by obtain ⟨E, -, hE⟩ := g4 h; exact ⟨E, hE⟩, g2, g3⟩
theorem HeIn.opened {S : Nat → Prop} {W : World} {v : Value} {Hs : List Pg} (h : HeIn S W v Hs) : ∃ p cap Q, Q.map (·.2) = Hs ∧ v = .slice p Q.length cap ∧ (∀ q ∈ Q, EntS S W q.1 q.2.2.2) ∧ (∀ q ∈ Q, ∃ pp l c, q.1 = .slice pp l c) ∧ (Q = [] ∨ ∃ b off, p = some ⟨b, off, none⟩ ∧ S b ∧ b < W.heap.size ∧ CellsH W b off Q) := by
  obtain ⟨p, cap, Q, hQ, rfl, hl, ht, hc⟩ := h.inside
  refine ⟨p, cap, Q, hQ, rfl, fun q hq => (ht q hq).mono fun _ h => h.1, fun q hq => ?_, ?_⟩
  · obtain ⟨pp, c, Q', -, e, -⟩ := ht q hq
    exact ⟨pp, _, c, e⟩
  · rcases hc with h | ⟨b, off, e, hb, hc⟩
    · exact .inl h
    · exact .inr ⟨b, off, e, hb.1, hb.2, hc⟩
theorem held_rows {S Z : Nat → Prop} {w5 w6 W : World} {p : Option Addr} {Q : List (Value × Pg)} (h : Q = [] ∨ ∃ b off, p = some ⟨b, off, none⟩ ∧ S b ∧ b < w5.heap.size ∧ CellsH w5 b off Q) (hS : ∀ b, S b → ¬ Z b) (hu : Upd (allOf Z) w5 w6) (hb : Below w6.heap.size w6 W) : Q = [] ∨ ∃ b off, p = some ⟨b, off, none⟩ ∧ CellsH W b off Q := by
  rcases h with h | ⟨b, off, e, hs, hlt, hc⟩
  · exact .inl h
  · have k : ∀ {o : Nat} {u : Value}, w5.cell? ⟨b, o, none⟩ = some u → W.cell? ⟨b, o, none⟩ = some u := fun {o _} h => (hb.cell (p := ⟨b, o, none⟩) (Nat.lt_of_lt_of_le hlt hu.size)).trans ((hu.cell b o hlt (hS b hs)).trans h)
    exact .inr ⟨b, off, e, fun j q hj => ⟨k (hc j q hj).1, k (hc j q hj).2.1, k (hc j q hj).2.2⟩⟩
theorem CaY.oks {Z : Nat → Prop} {cnt : Nat} {w : World} {c : Nat} {room h m g : Int} {L : List Pg} (H : CaY Z cnt w c room h m g L) : ∀ x ∈ L, KeyOk x.1 x.2.1 := by
  obtain ⟨A, B, M, s, n, N, h1, -, -, -, -, rfl, -⟩ := H
  intro x hx
  obtain ⟨y, hy, rfl⟩ := List.mem_map.1 hx
  exact h1.oks y hy
/-- A round's put, the copy of the page and its row ahead of the others. -/
theorem RoJ.put {w0 w5 w6 w7 W w8 : World} {Z : Nat → Prop} {cnt c n k : Nat} {lv v7 : Value} {Hs Lc : List Pg} {h m g : Int} (H : RoJ w0 w5 Z cnt c n k lv Hs Lc h m g) {r : ByteArray} {i : Int} {E : List (List V3 × Int)} {e : Ending}
    (hp : PutY Z cnt w5 c (n : Int) h m g Lc r i E e w6) (h7 : EntS (fun k => w6.heap.size ≤ k) w7 v7 E) (hb7 : Below w6.heap.size w6 w7) (hbW : Below w7.heap.size w7 W) {p' : Option Addr} {c' : Nat} {q : List (Value × Pg)} (hq : q.map (·.2) = Hs) (hqe : ∀ x ∈ q, EntS (fun b => w0.heap.size ≤ b ∧ ¬ Z b) w5 x.1 x.2.2.2)
    (ho : w8.ownsRow w7.heap.size 52 3 (.slice p' (q.length + 1) c') (q.length + 1) (rowH ((v7, r, i, E) :: q))) (hg : Below w7.heap.size W w8) (hk : k ≤ 60) : RoS w0 w8 c n (k + 1) (.slice p' (q.length + 1) c') := by
  obtain ⟨-, hu, hc⟩ := hp
  have hb6 := upd_below hu H.below.size H.lo
  have hb8 : Below w6.heap.size w6 w8 := hb7.trans ((hbW.trans hg).mono hb7.size)
  have s7 := hb7.size
  have s6 := hu.size
  have hZ := H.ca.ltZ
  have hk1 := H.hk1
  have mk1 := H.mk1
  have gk1 := H.gk1
  have hhl := H.hl
  have hcl := H.cl
  refine ⟨_, cnt + 1, (r, i, E) :: Hs, _, h, m, _, hc.below hb8, ?_, ?_, H.below.trans (hb6.trans (hb8.mono (Nat.le_trans H.below.size s6))), ?_, ?_, by omega, by omega, by omega, ?_⟩
  · have hql : q.length = Hs.length := by rw [← hq]; simp
    refine ⟨p', c', (v7, r, i, E) :: q, by simp [hq], by simp, by simp only [List.length_cons]; omega, ?_, ?_⟩
    · intro x hx
      rcases List.mem_cons.1 hx with rfl | hx
      · have h7' : EntS (fun k => w6.heap.size ≤ k ∧ k < w7.heap.size) w7 v7 E := h7.inside
        refine h7'.same (fun b hb => ⟨?_, ?_⟩) (fun b o hb => ?_)
        · have := H.below.size; have := hb.1; omega
        · rintro (e | e)
          · have := hZ b e; have := hb.1; omega
          · have := e.2; have := hb.1; omega
        · exact (hbW.trans hg).cell (p := ⟨b, o, none⟩) hb.2
      · have h5 := (hqe x hx).inside
        refine h5.same (fun b hb => ⟨hb.1.1, ?_⟩) (fun b o hb => ?_)
        · rintro (e | e)
          · exact hb.1.2 e
          · have := e.1; have := hb.2; omega
        · exact (hb8.cell (p := ⟨b, o, none⟩) (Nat.lt_of_lt_of_le hb.2 s6)).trans (hu.cell b o hb.2 hb.1.2)
    · obtain ⟨gb, cap', e, hlo, hgb⟩ := World.ownsRow.form ho (by omega)
      injection e with e1 e2 e3
      subst e1
      refine .inr ⟨gb, 0, rfl, ⟨?_, ?_⟩, fun j x hj => ?_⟩
      · have := H.below.size; omega
      · rintro (e | e)
        · have := hZ gb e; omega
        · have := e.2; omega
      · obtain ⟨q1, q2, q3⟩ := rowH_at _ j x hj
        have c1 := World.ownsRow.cells ho (g := gb) rfl _ _ q1
        have c2 := World.ownsRow.cells ho (g := gb) rfl _ _ q2
        have c3 := World.ownsRow.cells ho (g := gb) rfl _ _ q3
        rw [addr_add] at c1 c2 c3
        exact ⟨c1, c2, c3⟩
  · rintro b (e | e)
    · exact H.lo b e
    · have := H.below.size; omega
  · intro x hx
    unfold putL at hx
    have hx := List.mem_of_mem_take hx
    rcases List.mem_cons.1 hx with rfl | hx
    · unfold findL
      exact List.find?_cons_of_pos (eqK_iff.2 ⟨rfl, rfl⟩)
    · obtain ⟨hx1, hx2⟩ := List.mem_filter.1 hx
      unfold findL
      rw [List.find?_cons_of_neg]
      · exact H.inv x hx1
      · intro e
        obtain ⟨e1, e2⟩ := eqK_iff.1 e
        dsimp only at e1 e2
        rw [← e1, ← e2] at hx2
        rw [eqK_iff.2 ⟨rfl, rfl⟩] at hx2
        cases hx2
  · simp only [List.length_cons]; omega
  · unfold putG
    split
    · omega
    · split <;> omega
/-- What the last rounds keep. -/
structure LaJ (w0 wr : World) (Z : Nat → Prop) (cnt c n B k : Nat) (lv kv : Value) (K : List Ky) (Hs Lc : List Pg) (h m g : Int) : Prop where
  ro : RoJ w0 wr Z cnt c n k lv Hs Lc h m g
  kb : KeyB B wr kv K
  hB : ∀ b, Z b → b < B
  fi : ∀ q ∈ K, ∃ x, findL q.1 q.2 Lc = some x
  oks : ∀ q ∈ K, KeyOk q.1 q.2
def LaS (w0 wr : World) (Z : Nat → Prop) (cnt c n B k : Nat) (lv kv : Value) (K : List Ky) (Hs : List Pg) : Prop := ∃ Lc h m g, LaJ w0 wr Z cnt c n B k lv kv K Hs Lc h m g
theorem find_of_mem {r : ByteArray} {i : Int} {L : List Pg} {x : Pg} (hx : x ∈ L) (e : x.1 = r ∧ x.2.1 = i) : ∃ y, findL r i L = some y := by
  cases h : findL r i L with
  | none => exact absurd e (findL_none h x hx)
  | some y => exact ⟨y, rfl⟩
theorem LaJ.start {w0 w1 w2 : World} {Z : Nat → Prop} {cnt c n k : Nat} {lv kv : Value} {Hs Lc : List Pg} {h m g : Int} (H : RoJ w0 w1 Z cnt c n k lv Hs Lc h m g) (hb : Below w1.heap.size w1 w2) (hr : w2.ownsRow w1.heap.size 33 2 kv Lc.length (rowK (keysL Lc))) (hn : n ≤ 7) : LaS w0 w2 Z cnt c n w1.heap.size k lv kv (keysL Lc) Hs := by
  have hl := H.ca.len
  have e : (keysL Lc).length = Lc.length := by simp [keysL]
  refine ⟨Lc, h, m, g, H.keep hb, ?_, H.ca.ltZ, ?_, ?_⟩
  · rw [← e] at hr
    exact KeyB.own hr (by omega)
  · intro q hq
    obtain ⟨x, hx, rfl⟩ := List.mem_map.1 hq
    exact find_of_mem hx ⟨rfl, rfl⟩
  · intro q hq
    obtain ⟨x, hx, rfl⟩ := List.mem_map.1 hq
    exact H.ca.oks x hx
theorem LaS.keep {w0 wr W : World} {Z : Nat → Prop} {cnt c n B k : Nat} {lv kv : Value} {K : List Ky} {Hs : List Pg} (H : LaS w0 wr Z cnt c n B k lv kv K Hs) (hb : Below wr.heap.size wr W) : LaS w0 W Z cnt c n B k lv kv K Hs := by
  obtain ⟨Lc, h, m, g, H⟩ := H
  exact ⟨Lc, h, m, g, H.ro.keep hb, H.kb.below hb, H.hB, H.fi, H.oks⟩
theorem LaS.below {w0 wr : World} {Z : Nat → Prop} {cnt c n B k : Nat} {lv kv : Value} {K : List Ky} {Hs : List Pg} (H : LaS w0 wr Z cnt c n B k lv kv K Hs) : Below w0.heap.size w0 wr := by
  obtain ⟨Lc, h, m, g, H⟩ := H
  exact H.ro.below
theorem LaS.kb {w0 wr : World} {Z : Nat → Prop} {cnt c n B k : Nat} {lv kv : Value} {K : List Ky} {Hs : List Pg} (H : LaS w0 wr Z cnt c n B k lv kv K Hs) : KeyB B wr kv K := by
  obtain ⟨Lc, h, m, g, H⟩ := H
  exact H.kb
/-- One look-up of the last rounds. -/
def LaGet (w0 : World) (Z : Nat → Prop) (cnt c n B k : Nat) (lv kv : Value) (K : List Ky) (Hs : List Pg) (r : ByteArray) (i : Int) (e : Ending) (W : World) : Prop :=
  ∃ x p l cp, e = .returned (.tuple #[.slice p l cp, .bool true]) ∧ findL r i Hs = some x ∧ EntS (fun k => k < W.heap.size) W (.slice p l cp) x.2.2 ∧ HeIn (fun k => k < W.heap.size) W lv Hs ∧ LaS w0 W Z cnt c n B (k + 1) lv kv K Hs
theorem la_get {w0 wr : World} {Z : Nat → Prop} {cnt c n B k : Nat} {lv kv : Value} {K : List Ky} {Hs : List Pg} (H : LaS w0 wr Z cnt c n B k lv kv K Hs) (r : ByteArray) (i : Int) (hq : (r, i) ∈ K) (hk : k ≤ 100) :
    Calls Try.prog 20 #[ptr c, .agg #[.string r, .int .i64 i]] wr (LaGet w0 Z cnt c n B k lv kv K Hs r i) := by
  obtain ⟨Lc, h, m, g, H⟩ := H
  have hk1 := H.ro.hk1
  have mk1 := H.ro.mk1
  have gk1 := H.ro.gk1
  refine (getY H.ro.ca r i (H.oks _ hq) (by omega) (by omega)).mono ?_
  rintro e W ⟨hu, hg⟩
  have hb := upd_below hu H.ro.below.size H.ro.lo
  have hh : HeIn (fun b => w0.heap.size ≤ b ∧ ¬ Z b) W lv Hs := H.ro.held.inside.same (fun _ hk => hk.1) (fun b o hk => hu.cell b o hk.2 hk.1.2)
  obtain ⟨y, hy⟩ := H.fi _ hq
  rcases hg with ⟨hno, -⟩ | ⟨x, v, hx, rfl, hc, he, -⟩
  · dsimp only at hy
    rw [hno] at hy
    cases hy
  · obtain ⟨L1, L2, -, e1, e2⟩ := findL_some hx
    have hH := H.ro.inv x (findL_mem hx)
    rw [e1, e2] at hH
    have hkb := H.kb.upd hu (fun b _ hb e => by have := H.hB b e; omega)
    have hfi : ∀ q ∈ K, ∃ y, findL q.1 q.2 (x :: restL r i Lc) = some y := by
      intro q hq'
      obtain ⟨z, hz⟩ := H.fi q hq'
      obtain ⟨M1, M2, hL, f1, f2⟩ := findL_some hz
      by_cases hs : q.1 = r ∧ q.2 = i
      · exact find_of_mem (List.mem_cons_self ..) ⟨e1.trans hs.1.symm, e2.trans hs.2.symm⟩
      · refine find_of_mem (x := z) (List.mem_cons_of_mem _ (List.mem_filter.2 ⟨findL_mem hz, ?_⟩)) ⟨f1, f2⟩
        have : eqK z.1 z.2.1 r i = false := by
          rw [← Bool.not_eq_true]
          intro e
          obtain ⟨g1, g2⟩ := eqK_iff.1 e
          exact hs ⟨f1.symm.trans g1, f2.symm.trans g2⟩
        rw [this]
        rfl
    have hes : EntS (fun k => k < W.heap.size) W v x.2.2 := he.inside.mono fun _ h => h.2
    obtain ⟨p, cp, Q, -, rfl, -⟩ := id hes
    refine ⟨x, p, _, cp, rfl, hH, hes, hh.inside.same (fun _ h => h.2) (fun _ _ _ => rfl), _, _, _, _, ⟨hc, hh, H.ro.lo, H.ro.below.trans hb, fun z hz => ?_, by have := H.ro.hl; omega, by have := H.ro.cl; omega, by omega, by omega, by omega⟩, hkb, H.hB, hfi, H.oks⟩
    rcases List.mem_cons.1 hz with rfl | hz
    · exact H.ro.inv _ (findL_mem hx)
    · exact H.ro.inv _ (List.mem_filter.1 hz).1
theorem keys_ne {Z : Nat → Prop} {cnt : Nat} {w : World} {c : Nat} {room h m g : Int} {L : List Pg} (H : CaY Z cnt w c room h m g L) {a b : Nat} {x y : Ky} (hab : b < a) (ha : (keysL L)[a]? = some x) (hb : (keysL L)[b]? = some y) : eqK x.1 x.2 y.1 y.2 = false := by
  rw [← Bool.not_eq_true]
  intro e
  obtain ⟨e1, e2⟩ := eqK_iff.1 e
  have hp := H.apart
  unfold Apart at hp
  unfold keysL at ha hb
  rw [List.getElem?_map] at ha hb
  obtain ⟨u, hu, rfl⟩ := Option.map_eq_some_iff.1 ha
  obtain ⟨v, hv, rfl⟩ := Option.map_eq_some_iff.1 hb
  obtain ⟨hal, rfl⟩ := List.getElem?_eq_some_iff.1 hu
  obtain ⟨hbl, rfl⟩ := List.getElem?_eq_some_iff.1 hv
  exact List.pairwise_iff_getElem.1 hp b a hbl hal hab ⟨e1.symm, e2.symm⟩
theorem EntS.slice3 {S : Nat → Prop} {W : World} {v : Value} {E : List (List V3 × Int)} (h : EntS S W v E) : ∃ p l c, v = .slice p l c := by
  obtain ⟨p, c, Q, -, e, -⟩ := h
  exact ⟨p, _, c, e⟩
theorem RoJ.roS {w0 wr : World} {Z : Nat → Prop} {cnt c n k : Nat} {lv : Value} {Hs Lc : List Pg} {h m g : Int} (H : RoJ w0 wr Z cnt c n k lv Hs Lc h m g) : RoS w0 wr c n k lv := ⟨Z, cnt, Hs, Lc, h, m, g, H⟩
end Go.Proofs.Ytdjebcfpodfhhaa
