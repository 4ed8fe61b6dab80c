/-
  Functions and cursors that are nil: First, Once, Only; what Both, Less and Merge tell then.
-/
import Derived.Test.YtlccleafjpeccaaMgGh
import Derived.Test.YtlccleafjpeccaaMgU
import Derived.Test.YtlccleafjpeccaaMhD
namespace Go.Proofs.Ytlccleafjpeccaa
open Go Go.RowKit Go.Shelf

/-- What the closure of First keeps. -/
def FnJ (cn r : Nat) (R : List Th) (Y : Nat → Prop) (M : List Th) (w : World) : Prop :=
  (∀ k, Y k → k < w.heap.size) ∧ Y cn ∧ Bk w cn 3 1 ∧ ∃ (m : Int) (D : List Th) (Yr : Nat → Prop), w.cell? ⟨cn, 0, none⟩ = some (.int .i64 m) ∧ (-9223372036854775808 ≤ m ∧ m ≤ 9223372036854775807) ∧ MadeAt Tt r Yr D w ∧ (∀ k, Yr k → Y k ∧ k ≠ cn) ∧ M = D.take m.toNat ∧ D.drop m.toNat = R
theorem FnJ.keep {cn r : Nat} {Y : Nat → Prop} {R M : List Th} {w w' : World} (h : FnJ cn r R Y M w) (hs : w.heap.size ≤ w'.heap.size) (hb : ∀ k, Y k → w'.heap[k]? = w.heap[k]?) : FnJ cn r R Y M w' := by
  obtain ⟨h1, h2, h3, m, D, Yr, h4, h5, h6, h7, h8⟩ := h
  exact ⟨fun k e => Nat.lt_of_lt_of_le (h1 k e) hs, h2, h3.of_heap (hb cn h2), m, D, Yr, (World.cell?_of_block (a := ⟨cn, 0, none⟩) (hb cn h2)).trans h4, h5, h6.keep hs (fun k e => hb k (h7 k e).1), h7, h8⟩
set_option maxRecDepth 100000 in
set_option maxHeartbeats 1000000 in
theorem first1n_any {cn r : Nat} {Y : Nat → Prop} {R M : List Th} {w : World} (h : FnJ cn r R Y M w) : Calls Try.prog 58 #[.pointer (some ⟨cn, 0, none⟩), .pointer (some ⟨r, 0, none⟩)] w (TellEnd Y M (FnJ cn r R) w) := by
  have HJ := Lib.hid h
  obtain ⟨h1, h2, h3, m, D, Yr, h4, h5, h6, h7, h8, h9⟩ := h
  have hcl := h1 _ h2
  have hfz := h3.free 0
  by_cases hm : m < 1
  · have hM : M = [] := by rw [h8, show m.toNat = 0 by omega]; rfl
    have HM := Lib.hid hM
    clear h1 h2 h3 h6 h7 h8 h9 hM h5
    go_enter Try.func58, Try.ntmps58
    go_wp2_with fail
    refine bodyPost_ret (v := .tuple #[.agg #[.int .i8 0, .int .i64 0], .bool false]) (by simp [results, Try.results58, go_sem]) rfl ⟨by rw [HM.out]; rfl, (Upd.refl _ _).alloc _, Y, fun k e => .inl e, ?_⟩
    have := HJ.out.keep (w' := w.alloc (.cells #[.int .i8 0, .int .i64 0] 28)) (by simp) (fun k e => Below.heap_alloc _ _ _ (by have := HJ.out.1 k e; omega))
    rw [HM.out] at this ⊢
    exact this
  · have hm1 : ¬ m < 1 := hm
    have hw1 : -9223372036854775808 ≤ m - 1 := by omega
    have hw2 : m - 1 ≤ 9223372036854775807 := by omega
    have hne : ∀ k, Yr k → k ≠ cn := fun k e => (h7 k e).2
    have h6' : MadeAt Tt r Yr D ((w.alloc (.cells #[.int .i8 0, .int .i64 0] 28)).setCell ⟨cn, 0, none⟩ (.int .i64 (m - 1))) :=
      h6.keep (by simp [World.setCell]) (fun k e => (Below.heap_setCell _ _ _ _ (hne k e)).trans (Below.heap_alloc _ _ _ (by have := h6.inside k e; omega)))
    have eW : (w.alloc (.cells #[.int .i8 0, .int .i64 0] 28)).setCell ⟨cn, 0, none⟩ (.int .i64 (m - 1)) = (w.setCell ⟨cn, 0, none⟩ (.int .i64 (m - 1))).alloc (.cells #[.int .i8 0, .int .i64 0] 28) := World.setCell_alloc_past _ _ _ _ hcl
    have hN := next_any h6'
    rw [eW] at hN
    have HN := Lib.hid hN
    have HeW := Lib.hid eW
    clear hN eW
    have HU := Lib.hid (show Upd (allOf Y) (w.alloc (.cells #[.int .i8 0, .int .i64 0] 28)) ((w.alloc (.cells #[.int .i8 0, .int .i64 0] 28)).setCell ⟨cn, 0, none⟩ (.int .i64 (m - 1))) from (Upd.refl _ _).setCell cn 0 _ (fun _ => h2))
    have HB := Lib.hid (show Bk ((w.alloc (.cells #[.int .i8 0, .int .i64 0] 28)).setCell ⟨cn, 0, none⟩ (.int .i64 (m - 1))) cn 3 1 ∧ ((w.alloc (.cells #[.int .i8 0, .int .i64 0] 28)).setCell ⟨cn, 0, none⟩ (.int .i64 (m - 1))).cell? ⟨cn, 0, none⟩ = some (.int .i64 (m - 1)) from
      ⟨(h3.of_heap (Below.heap_alloc _ _ _ (by omega))).setCell _ _ _, World.cell?_setCell_same _ _ _ ((World.cell?_alloc_lt _ _ _ hcl).trans h4)⟩)
    have HF := Lib.hid (And.intro h1 (And.intro h2 (And.intro h7 (And.intro h8 h9))))
    obtain ⟨hk, hmm, ok, eh, -, -⟩ := headV_form D
    have HE := Lib.hid eh
    have HD := Lib.hid (show headV M = headV D by
      rw [h8]
      cases D with
      | nil => rw [List.take_nil]
      | cons x t => rw [show m.toNat = (m.toNat - 1) + 1 by omega, List.take_succ_cons]; rfl)
    have HT := Lib.hid (show M.tail = D.tail.take (m - 1).toNat ∧ D.tail.drop (m - 1).toNat = R by
      rw [h8, ← h9]
      have e : m.toNat = (m - 1).toNat + 1 := by omega
      cases D with
      | nil => simp
      | cons x t => rw [e, List.take_succ_cons, List.drop_succ_cons]; exact ⟨rfl, rfl⟩)
    clear h1 h2 h3 h6 h6' h7 h8 h9 hne eh hm
    go_enter Try.func58, Try.ntmps58
    go_wp2_with fail
    refine HN.out.mono ?_
    rintro e w1 ⟨rfl, hu, Y', hs, hm'⟩
    rw [HE.out]
    rw [← HeW.out] at hu hs
    obtain ⟨h1, h2, h7, -, -⟩ := HF.out
    have hu1 : Upd (allOf Y) (w.alloc (.cells #[.int .i8 0, .int .i64 0] 28)) w1 := HU.out.trans (hu.allMono fun k e => (h7 k e).1)
    have hc1 := upd_cell h1 hu1
    have c0 := cell_of_row w1 w.heap.size 0 _ _ (0, 0) hc1
    have c1 := cell_of_row w1 w.heap.size 1 _ _ (0, 0) hc1
    have f0 := frozen_of_row w1 w.heap.size 0 _ _ hc1
    have f1 := frozen_of_row w1 w.heap.size 1 _ _ hc1
    have hcn : w1.heap[cn]? = _ := hu.block cn (by simp [World.setCell]; omega) (fun _ e => (h7 cn e).2 rfl)
    have hsz : w.heap.size + 1 ≤ w1.heap.size := by have := hu1.size; simpa using this
    have hs' : Sub (w.heap.size + 1) Yr Y' := fun k e => (hs k e).imp_right fun e => by simpa [World.setCell] using e
    have hJ1 : FnJ cn r R (fun k => Y k ∨ (w.heap.size + 1 ≤ k ∧ k < w1.heap.size)) M.tail w1 := by
      refine ⟨?_, .inl h2, HB.out.1.of_heap hcn, m - 1, D.tail, Y', (World.cell?_of_block (a := ⟨cn, 0, none⟩) hcn).trans HB.out.2, ⟨by omega, by omega⟩, hm', fun k e => ?_, HT.out⟩
      · rintro k (e | e)
        · have := h1 k e; omega
        · exact e.2
      · rcases hs' k e with e' | e'
        · exact ⟨.inl (h7 k e').1, (h7 k e').2⟩
        · exact ⟨.inr ⟨e', hm'.inside k e⟩, by omega⟩
    have HQ := Lib.hid (told_after (P := FnJ cn r R) FnJ.keep (.int .i8 hk) (.int .i64 hmm) h1 hu1 (fun k e => e.imp_right fun e => by simpa using e.1) hJ1)
    have HN2 := Lib.hid (cells_set2 hc1 (.int .i8 hk) (.int .i64 hmm))
    clear h1 h2 h7 hu hu1 hs hm' hc1 hcn hs' hJ1 HN HU
    go_wp2_with fail
    obtain ⟨n0, n1⟩ := HN2.out
    refine bodyPost_ret (v := .tuple #[.agg #[.int .i8 hk, .int .i64 hmm], .bool ok]) (by simp [results, Try.results58, go_sem, n0, n1]) rfl ⟨by rw [HD.out, HE.out], HQ.out⟩
theorem FnJ.tells {cn r : Nat} {Y : Nat → Prop} {R M : List Th} {w : World} (h : FnJ cn r R Y M w) : Tells 58 #[.pointer (some ⟨cn, 0, none⟩), .pointer (some ⟨r, 0, none⟩)] Tt Y M w :=
  ⟨h.1, FnJ cn r R, Y, fun _ e => e, h, fun _ _ _ h => ⟨h.1, trivial⟩, fun _ _ _ _ h => h.keep, fun _ _ _ h => first1n_any h⟩
set_option maxRecDepth 100000 in
set_option maxHeartbeats 1000000 in
theorem first_nil (n : Int) (hn : -9223372036854775808 ≤ n ∧ n ≤ 9223372036854775807) (w : World) : Calls Try.prog 32 #[.int .i64 n, .nilIface] w (NewCur [] w) := by
  have hmf : ∀ (fn : Fn) (first cap : Array Value) (w : World), (Instr.makeFunc fn first cap).run Try.prog w = .ok (.func fn first cap) w := fun _ _ _ _ => rfl
  have HF := Lib.hid (from_nil (w.alloc (.cells #[.int .i64 n] 3)))
  have HN := Lib.hid hn
  clear hn
  go_enter Try.func32, Try.ntmps32
  go_wp2_with fail
  refine HF.out.mono ?_
  rintro e w1 ⟨rfl, hw1⟩
  have hs1 : w1.heap.size = w.heap.size + 2 := by rw [← hw1]; simp
  have hb1 : Below w.heap.size w w1 := by rw [← hw1]; exact ((Below.refl _ _).alloc (Nat.le_refl _) _).alloc (by simp) _
  have hcn : w1.heap[w.heap.size]? = some (.cells #[.int .i64 n] 3 (0, 0)) := by rw [← hw1]; exact (Below.heap_alloc _ _ _ (by simp)).trans (heap_alloc_new w _)
  have HQ := Lib.hid (And.intro hs1 (And.intro hb1 hcn))
  clear hw1 hs1 hb1 hcn HF
  go_wp2_with fail
  refine (cursor_any _ _ _).mono ?_
  rintro e w2 ⟨rfl, rfl⟩
  go_wp2_with fail
  go_ret
  obtain ⟨hs1, hb1, hcn⟩ := HQ.out
  have hm := made_none (G := Tt) (fun _ _ _ => trivial) 83 w1
  have hJ : FnJ w.heap.size w1.heap.size [] (fun k => k = w.heap.size ∨ k = w1.heap.size) [] (w1.alloc (.cells #[.nilFunc] 83)) := by
    refine ⟨?_, .inl rfl, ⟨_, (Below.heap_alloc _ _ _ (by omega)).trans hcn, rfl⟩, n, [], _, cell_of_row _ _ 0 _ _ (0, 0) ((Below.heap_alloc _ _ _ (by omega)).trans hcn), HN.out, hm, ?_, by simp, by simp⟩
    · rintro k (rfl | rfl)
      · simp; omega
      · simp
    · rintro k rfl
      exact ⟨.inr rfl, by omega⟩
  have hmn := made_new 83 (Fv.clo _ _ (enters_of Try.func58 (by kernel_rfl) rfl)) hJ.tells
  rw [show (w1.alloc (.cells #[.nilFunc] 83)).heap.size = w1.heap.size + 1 by simp] at hmn
  refine ⟨_, _, rfl, hmn, ?_, (hb1.alloc hb1.size _).alloc (by have := hb1.size; simp; omega) _⟩
  rintro k (rfl | rfl | rfl)
  · have := hb1.size; omega
  · exact Nat.le_refl _
  · exact hb1.size
theorem eqlCmpNil (W : World) : (binOp .eql 42 .nilFunc .nilFunc).run Try.prog W = .ok (.bool true) W := by kernel_rfl
theorem eqlHoldsNil (W : World) : (binOp .eql 36 .nilFunc .nilFunc).run Try.prog W = .ok (.bool true) W := by kernel_rfl
set_option maxRecDepth 100000 in
theorem once_nil (c : Option Nat) (w : World) : Calls Try.prog 25 #[.nilFunc, curO c] w (NewCur [] w) := by
  have q := eqlCmpNil
  go_enter Try.func25, Try.ntmps25
  go_wp2_with fail
  refine (none_any _).mono ?_
  rintro e w1 ⟨rfl, rfl⟩
  go_wp2_with fail
  go_ret
  have hb := below_new' w (.cells #[.nilFunc] 42)
  have hm := made_none (G := Tt) (fun _ _ _ => trivial) 83 (w.alloc (.cells #[.nilFunc] 42))
  rw [World.size_alloc] at hm
  refine ⟨_, _, rfl, hm, ?_, hb.alloc hb.size _⟩
  rintro k rfl
  exact Nat.le_succ _
set_option maxRecDepth 100000 in
theorem only_nil (c : Option Nat) (w : World) : Calls Try.prog 31 #[.nilFunc, curO c] w (NewCur [] w) := by
  have q := eqlHoldsNil
  go_enter Try.func31, Try.ntmps31
  go_wp2_with fail
  refine (none_any _).mono ?_
  rintro e w1 ⟨rfl, rfl⟩
  go_wp2_with fail
  go_ret
  have hb := below_new' w (.cells #[.nilFunc] 36)
  have hm := made_none (G := Tt) (fun _ _ _ => trivial) 83 (w.alloc (.cells #[.nilFunc] 36))
  rw [World.size_alloc] at hm
  refine ⟨_, _, rfl, hm, ?_, hb.alloc hb.size _⟩
  rintro k rfl
  exact Nat.le_succ _
theorem less_all : ∀ (L : List Th), onlyL (amStep false) [] L = L
  | [] => rfl
  | x :: r => by
    conv => lhs; unfold onlyL
    exact congrArg (x :: ·) (less_all r)
theorem merge_mid : ∀ (L : List Th), mergeL [[], L, []] = L
  | [] => mergeL_none rfl
  | x :: r => by
    obtain ⟨s, hs, e⟩ := mergeL_some (Ls := [[], x :: r, []]) (m := 1) (y := x) rfl
    simp at hs
    subst hs
    rw [e]
    exact congrArg (x :: ·) (merge_mid r)
end Go.Proofs.Ytlccleafjpeccaa
