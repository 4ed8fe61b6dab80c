/-
  Contract of merge.First.
-/
import Derived.Test.YtemfglpjokmioaaMgGh
namespace Go.Proofs.Ytemfglpjokmioaa
open Go Go.RowKit Go.Shelf

/-- What the closure of First keeps: at most so many are left, behind them R is. -/
def FiJ (cn r b : Nat) (W0 : World) (Y0 : Nat → Prop) (R : List Th) (Y : Nat → Prop) (M : List Th) (w : World) : Prop :=
  (∀ k, Y k → k < w.heap.size) ∧ Y cn ∧ Bk w cn 3 1 ∧ ∃ (m : Int) (D : List Th) (Yr : Nat → Prop), w.cell? ⟨cn, 0, none⟩ = some (.int .i64 m) ∧ (-9223372036854775808 ≤ m ∧ m ≤ 9223372036854775807) ∧ MadeAt (Gh b W0 Y0) r Yr D w ∧ (∀ k, Yr k → Y k ∧ k ≠ cn) ∧ M = D.take m.toNat ∧ D.drop m.toNat = R
theorem FiJ.keep {cn r b : Nat} {W0 : World} {Y0 Y : Nat → Prop} {R M : List Th} {w w' : World} (h : FiJ cn r b W0 Y0 R Y M w) (hs : w.heap.size ≤ w'.heap.size) (hb : ∀ k, Y k → w'.heap[k]? = w.heap[k]?) : FiJ cn r b W0 Y0 R Y M w' := by
  obtain ⟨h1, h2, h3, m, D, Yr, h4, h5, h6, h7, h8⟩ := h
  exact ⟨fun k e => Nat.lt_of_lt_of_le (h1 k e) hs, h2, h3.of_heap (hb cn h2), m, D, Yr, (World.cell?_of_block (a := ⟨cn, 0, none⟩) (hb cn h2)).trans h4, h5, h6.keep hs (fun k e => hb k (h7 k e).1), h7, h8⟩
/-- The cursor behind First, when nothing is left to tell. -/
def Gf (b : Nat) (W0 : World) (Y0 : Nat → Prop) (R : List Th) : (Nat → Prop) → List Th → World → Prop := fun Y M w => M = [] → ∃ Z, MadeAt Tt b Z R w ∧ (∀ k, k < W0.heap.size → ¬ Y0 k → ¬ Z k) ∧ ∀ k, Z k → Y k
theorem FiJ.ghost {cn r b : Nat} {W0 : World} {Y0 Y : Nat → Prop} {R M : List Th} {w : World} (h : FiJ cn r b W0 Y0 R Y M w) : Gf b W0 Y0 R Y M w := by
  obtain ⟨h1, h2, h3, m, D, Yr, h4, h5, h6, h7, h8, h9⟩ := h
  intro hM
  obtain ⟨Y1, g1, Z, g2, g3, g4⟩ := h6.ghost
  have hD : D = R := by
    rw [hM] at h8
    rw [← h9]
    have := List.take_append_drop m.toNat D
    rw [← h8, List.nil_append] at this
    exact this.symm
  exact ⟨Z, hD ▸ g2, g3, fun k e => (h7 k (g1 k (g4 k e))).1⟩
set_option maxRecDepth 100000 in
set_option maxHeartbeats 1000000 in
theorem first1_any {cn r b : Nat} {W0 : World} {Y0 Y : Nat → Prop} {R M : List Th} {w : World} (h : FiJ cn r b W0 Y0 R Y M w) : Calls Try.prog 58 #[.pointer (some ⟨cn, 0, none⟩), .pointer (some ⟨r, 0, none⟩)] w (TellEnd Y M (FiJ cn r b W0 Y0 R) w) := by
  have HJ := Lib.hid h
  obtain ⟨h1, h2, h3, m, D, Yr, h4, h5, h6, h7, h8, h9⟩ := h
  have hcl := h1 _ h2
  have hfz := h3.free 0
  by_cases hm : m < 1
  · have hM : M = [] := by rw [h8, show m.toNat = 0 by omega]; rfl
    have HM := Lib.hid hM
    clear h1 h2 h3 h6 h7 h8 h9 hM h5
    go_enter Try.func58, Try.ntmps58
    go_wp2_with fail
    refine bodyPost_ret (v := .tuple #[.agg #[.int .i8 0, .int .i64 0], .bool false]) (by simp [results, Try.results58, go_sem]) rfl ⟨by rw [HM.out]; rfl, (Upd.refl _ _).alloc _, Y, fun k e => .inl e, ?_⟩
    have := HJ.out.keep (w' := w.alloc (.cells #[.int .i8 0, .int .i64 0] 28)) (by simp) (fun k e => Below.heap_alloc _ _ _ (by have := HJ.out.1 k e; omega))
    rw [HM.out] at this ⊢
    exact this
  · have hm1 : ¬ m < 1 := hm
    have hw1 : -9223372036854775808 ≤ m - 1 := by omega
    have hw2 : m - 1 ≤ 9223372036854775807 := by omega
    have hne : ∀ k, Yr k → k ≠ cn := fun k e => (h7 k e).2
    have h6' : MadeAt (Gh b W0 Y0) r Yr D ((w.alloc (.cells #[.int .i8 0, .int .i64 0] 28)).setCell ⟨cn, 0, none⟩ (.int .i64 (m - 1))) :=
      h6.keep (by simp [World.setCell]) (fun k e => (Below.heap_setCell _ _ _ _ (hne k e)).trans (Below.heap_alloc _ _ _ (by have := h6.inside k e; omega)))
    have eW : (w.alloc (.cells #[.int .i8 0, .int .i64 0] 28)).setCell ⟨cn, 0, none⟩ (.int .i64 (m - 1)) = (w.setCell ⟨cn, 0, none⟩ (.int .i64 (m - 1))).alloc (.cells #[.int .i8 0, .int .i64 0] 28) := World.setCell_alloc_past _ _ _ _ hcl
    have hN := next_any h6'
    rw [eW] at hN
    have HN := Lib.hid hN
    have HeW := Lib.hid eW
    clear hN eW
    have HU := Lib.hid (show Upd (allOf Y) (w.alloc (.cells #[.int .i8 0, .int .i64 0] 28)) ((w.alloc (.cells #[.int .i8 0, .int .i64 0] 28)).setCell ⟨cn, 0, none⟩ (.int .i64 (m - 1))) from (Upd.refl _ _).setCell cn 0 _ (fun _ => h2))
    have HB := Lib.hid (show Bk ((w.alloc (.cells #[.int .i8 0, .int .i64 0] 28)).setCell ⟨cn, 0, none⟩ (.int .i64 (m - 1))) cn 3 1 ∧ ((w.alloc (.cells #[.int .i8 0, .int .i64 0] 28)).setCell ⟨cn, 0, none⟩ (.int .i64 (m - 1))).cell? ⟨cn, 0, none⟩ = some (.int .i64 (m - 1)) from
      ⟨(h3.of_heap (Below.heap_alloc _ _ _ (by omega))).setCell _ _ _, World.cell?_setCell_same _ _ _ ((World.cell?_alloc_lt _ _ _ hcl).trans h4)⟩)
    have HF := Lib.hid (And.intro h1 (And.intro h2 (And.intro h7 (And.intro h8 h9))))
    obtain ⟨hk, hmm, ok, eh, -, -⟩ := headV_form D
    have HE := Lib.hid eh
    have HD := Lib.hid (show headV M = headV D by
      rw [h8]
      cases D with
      | nil => rw [List.take_nil]
      | cons x t => rw [show m.toNat = (m.toNat - 1) + 1 by omega, List.take_succ_cons]; rfl)
    have HT := Lib.hid (show M.tail = D.tail.take (m - 1).toNat ∧ D.tail.drop (m - 1).toNat = R by
      rw [h8, ← h9]
      have e : m.toNat = (m - 1).toNat + 1 := by omega
      cases D with
      | nil => simp
      | cons x t => rw [e, List.take_succ_cons, List.drop_succ_cons]; exact ⟨rfl, rfl⟩)
    clear h1 h2 h3 h6 h6' h7 h8 h9 hne eh hm
    go_enter Try.func58, Try.ntmps58
    go_wp2_with fail
    refine HN.out.mono ?_
    rintro e w1 ⟨rfl, hu, Y', hs, hm'⟩
    rw [HE.out]
    rw [← HeW.out] at hu hs
    obtain ⟨h1, h2, h7, -, -⟩ := HF.out
    have hu1 : Upd (allOf Y) (w.alloc (.cells #[.int .i8 0, .int .i64 0] 28)) w1 := HU.out.trans (hu.allMono fun k e => (h7 k e).1)
    have hc1 := upd_cell h1 hu1
    have c0 := cell_of_row w1 w.heap.size 0 _ _ (0, 0) hc1
    have c1 := cell_of_row w1 w.heap.size 1 _ _ (0, 0) hc1
    have f0 := frozen_of_row w1 w.heap.size 0 _ _ hc1
    have f1 := frozen_of_row w1 w.heap.size 1 _ _ hc1
    have hcn : w1.heap[cn]? = _ := hu.block cn (by simp [World.setCell]; omega) (fun _ e => (h7 cn e).2 rfl)
    have hsz : w.heap.size + 1 ≤ w1.heap.size := by have := hu1.size; simpa using this
    have hs' : Sub (w.heap.size + 1) Yr Y' := fun k e => (hs k e).imp_right fun e => by simpa [World.setCell] using e
    have hJ1 : FiJ cn r b W0 Y0 R (fun k => Y k ∨ (w.heap.size + 1 ≤ k ∧ k < w1.heap.size)) M.tail w1 := by
      refine ⟨?_, .inl h2, HB.out.1.of_heap hcn, m - 1, D.tail, Y', (World.cell?_of_block (a := ⟨cn, 0, none⟩) hcn).trans HB.out.2, ⟨by omega, by omega⟩, hm', fun k e => ?_, HT.out⟩
      · rintro k (e | e)
        · have := h1 k e; omega
        · exact e.2
      · rcases hs' k e with e' | e'
        · exact ⟨.inl (h7 k e').1, (h7 k e').2⟩
        · exact ⟨.inr ⟨e', hm'.inside k e⟩, by omega⟩
    have HQ := Lib.hid (told_after (P := FiJ cn r b W0 Y0 R) FiJ.keep (.int .i8 hk) (.int .i64 hmm) h1 hu1 (fun k e => e.imp_right fun e => by simpa using e.1) hJ1)
    have HN2 := Lib.hid (cells_set2 hc1 (.int .i8 hk) (.int .i64 hmm))
    clear h1 h2 h7 hu hu1 hs hm' hc1 hcn hs' hJ1 HN HU
    go_wp2_with fail
    obtain ⟨n0, n1⟩ := HN2.out
    refine bodyPost_ret (v := .tuple #[.agg #[.int .i8 hk, .int .i64 hmm], .bool ok]) (by simp [results, Try.results58, go_sem, n0, n1]) rfl ⟨by rw [HD.out, HE.out], HQ.out⟩
theorem FiJ.tells {cn r b : Nat} {W0 : World} {Y0 Y : Nat → Prop} {R M : List Th} {w : World} (h : FiJ cn r b W0 Y0 R Y M w) : Tells 58 #[.pointer (some ⟨cn, 0, none⟩), .pointer (some ⟨r, 0, none⟩)] (Gf b W0 Y0 R) Y M w :=
  ⟨h.1, FiJ cn r b W0 Y0 R, Y, fun _ e => e, h, fun _ _ _ h => ⟨h.1, h.ghost⟩, fun _ _ _ _ h => h.keep, fun _ _ _ h => first1_any h⟩
set_option maxRecDepth 100000 in
set_option maxHeartbeats 1000000 in
theorem first_any {b : Nat} {F : Nat → Prop} {L : List Th} {w : World} (n : Int) (hn : -9223372036854775808 ≤ n ∧ n ≤ 9223372036854775807) (h : MadeAt Tt b F L w) :
    Calls Try.prog 32 #[.int .i64 n, curV b] w fun e w' => ∃ b' Y, e = .returned (curV b') ∧ MadeAt (Gf b w F (L.drop n.toNat)) b' Y (L.take n.toNat) w' ∧ (∀ k, Y k → F k ∨ w.heap.size ≤ k) ∧ Below w.heap.size w w' := by
  have hmf : ∀ (fn : Fn) (first cap : Array Value) (w : World), (Instr.makeFunc fn first cap).run Try.prog w = .ok (.func fn first cap) w := fun _ _ _ _ => rfl
  have HF := Lib.hid (from_any b (w.alloc (.cells #[.int .i64 n] 3)))
  go_enter Try.func32, Try.ntmps32
  go_wp2_with fail
  refine HF.out.mono ?_
  rintro e w1 ⟨rfl, hw1⟩
  have hs1 : w1.heap.size = w.heap.size + 2 := by rw [← hw1]; simp
  have hb1 : Below w.heap.size w w1 := by rw [← hw1]; exact ((Below.refl _ _).alloc (Nat.le_refl _) _).alloc (by simp) _
  have hcn : w1.heap[w.heap.size]? = some (.cells #[.int .i64 n] 3 (0, 0)) := by rw [← hw1]; exact (Below.heap_alloc _ _ _ (by simp)).trans (heap_alloc_new w _)
  have HQ := Lib.hid (And.intro hs1 (And.intro hb1 hcn))
  clear hw1 hs1 hb1 hcn HF
  go_wp2_with fail
  refine (cursor_any _ _ _).mono ?_
  rintro e w2 ⟨rfl, rfl⟩
  go_wp2_with fail
  go_ret
  obtain ⟨hs1, hb1, hcn⟩ := HQ.out
  obtain ⟨w3, hw3⟩ : ∃ w3, w3 = w1.alloc (.cells #[nextV b] 83) := ⟨_, rfl⟩
  have hs3 : w3.heap.size = w1.heap.size + 1 := by rw [hw3]; simp
  have hb3 : Below w.heap.size w w3 := by rw [hw3]; exact hb1.alloc hb1.size _
  have hcn3 : w3.heap[w.heap.size]? = some (.cells #[.int .i64 n] 3 (0, 0)) := by rw [hw3]; exact (Below.heap_alloc _ _ _ (by omega)).trans hcn
  have hr3 : w3.heap[w1.heap.size]? = some (.cells #[nextV b] 83 (0, 0)) := by rw [hw3]; exact heap_alloc_new w1 _
  have hm := made_over (r := w1.heap.size) (h.keep hb3.size (fun k e => hb3.block k (h.inside k e))) hr3 (fun e => by have := h.inside _ e; omega)
  have hm2 : MadeAt (Gh b w F) w1.heap.size (fun k => k = w1.heap.size ∨ F k) L w3 := by
    obtain ⟨a1, a2, a3, a4⟩ := hm
    have hg : ∀ Y L w', Gh b w3 F Y L w' → Gh b w F Y L w' := fun Y L w' e => by
      obtain ⟨Z, e1, e2, e3⟩ := e
      exact ⟨Z, e1, fun k hk hn => e2 k (by omega) hn, e3⟩
    have ht : ∀ {k lb Y L w'}, Tells k lb (Gh b w3 F) Y L w' → Tells k lb (Gh b w F) Y L w' := fun {k lb Y L w'} t => by
      obtain ⟨t1, J, Y0, t2, t3, t4, t5⟩ := t
      exact ⟨t1, J, Y0, t2, t3, fun Y L w e => ⟨(t4 Y L w e).1, hg _ _ _ (t4 Y L w e).2⟩, t5⟩
    refine ⟨a1, a2, a3, ?_⟩
    rcases a4 with ⟨fv, k, lb, Y0, e1, e2, e3, e4⟩ | ⟨e1, -⟩
    · exact .inl ⟨fv, k, lb, Y0, e1, e2, e3, ht e4⟩
    · rw [cell_of_row _ _ 0 _ _ (0, 0) hr3] at e1
      cases e1
  have hJ : FiJ w.heap.size w1.heap.size b w F (L.drop n.toNat) (fun k => k = w.heap.size ∨ k = w1.heap.size ∨ F k) (L.take n.toNat) w3 := by
    refine ⟨?_, .inl rfl, ⟨_, hcn3, rfl⟩, n, L, _, cell_of_row _ _ 0 _ _ (0, 0) hcn3, hn, hm2, ?_, rfl, rfl⟩
    · rintro k (rfl | rfl | e)
      · omega
      · omega
      · have := h.inside k e; omega
    · rintro k (rfl | e)
      · exact ⟨.inr (.inl rfl), by omega⟩
      · have := h.inside k e
        exact ⟨.inr (.inr e), by omega⟩
  have hmn := made_new 83 (Fv.clo _ _ (enters_of Try.func58 (by kernel_rfl) rfl)) hJ.tells
  refine ⟨w3.heap.size, _, by rw [hs3]; rfl, by rw [← hw3]; exact hmn, ?_, by rw [← hw3]; exact hb3.alloc hb3.size _⟩
  rintro k (rfl | rfl | rfl | e)
  · exact .inr hb3.size
  · exact .inr (Nat.le_refl _)
  · exact .inr hb1.size
  · exact .inl e
end Go.Proofs.Ytemfglpjokmioaa
