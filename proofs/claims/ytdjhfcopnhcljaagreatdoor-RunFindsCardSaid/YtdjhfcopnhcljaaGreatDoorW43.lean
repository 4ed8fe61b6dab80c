/-
  A run that nobody opened: what its methods answer.
  run.Open and run.Write without a disk.
  run.Open of a run's file.
-/
import Derived.Test.YtdjhfcopnhcljaaGreatDoorW42
import Derived.Test.YtdjhfcopnhcljaaGreatDoorW29
namespace Go.Proofs.YtdjhfcopnhcljaaGreatDoor
section
open Go Go.RowKit

/-- No run, or one that nobody opened. -/
def NoRun (w : World) (v : Value) : Prop := v = .pointer none ∨ ∃ b, v = .pointer (some ⟨b, 0, none⟩) ∧ b < w.heap.size ∧ w.cell? ⟨b, 0, none⟩ = some (.pointer none)
theorem NoRun.below {w w' : World} {v : Value} (h : NoRun w v) (hb : Below w.heap.size w w') : NoRun w' v := by
  rcases h with h | ⟨b, h, hl, hc⟩
  · exact .inl h
  · exact .inr ⟨b, h, Nat.lt_of_lt_of_le hl hb.size, (hb.cell (p := ⟨b, 0, none⟩) hl).trans hc⟩
theorem NoRun.shape {w : World} {v : Value} (h : NoRun w v) : ∃ p, v = .pointer p := by
  rcases h with rfl | ⟨b, rfl, -⟩
  · exact ⟨_, rfl⟩
  · exact ⟨_, rfl⟩
set_option maxRecDepth 100000 in
theorem rmade_no (w : World) (v : Value) (h : NoRun w v) : Says 79 #[v] w (.bool false) := by
  rcases h with rfl | ⟨b, rfl, -, hb⟩
  · go_enter Tryz.func79, Tryz.ntmps79
    go_wp2_with fail
    go_ret
    exact ⟨rfl, rfl⟩
  · have q := fun W : World => run_eql_nil_pointer W 53 _ (some ⟨b, 0, none⟩) Tryz.underlying53
    go_enter Tryz.func79, Tryz.ntmps79
    go_wp2_with fail
    go_ret
    exact ⟨rfl, rfl⟩
theorem rname_no (w : World) (v : Value) (h : NoRun w v) : Says 34 #[v] w (.string ⟨#[]⟩) := by
  have HM := Lib.hid (rmade_no w v h)
  clear h
  go_enter Tryz.func34, Tryz.ntmps34
  go_wp2_with fail
  refine HM.out.mono ?_
  rintro e w1 ⟨rfl, rfl⟩
  go_wp2_with fail
  go_ret
  exact ⟨rfl, rfl⟩
theorem rlen_no (w : World) (v : Value) (h : NoRun w v) : Says 27 #[v] w (.tuple #[.int .i64 0, .int .i64 0]) := by
  have HM := Lib.hid (rmade_no w v h)
  clear h
  go_enter Tryz.func27, Tryz.ntmps27
  go_wp2_with fail
  refine HM.out.mono ?_
  rintro e w1 ⟨rfl, rfl⟩
  go_wp2_with fail
  go_ret2
  exact ⟨rfl, rfl⟩
set_option maxRecDepth 100000 in
theorem rfind_no (w : World) (v : Value) (p : Option Addr) (n c : Nat) (h : NoRun w v) : Calls Tryz.prog 30 #[v, .slice p n c] w fun e w' => e = .returned (.int .i64 0) ∧ Below w.heap.size w w' := by
  have HB := Lib.hid (below_new w (.cells #[.slice p n c] 64))
  have HM := Lib.hid (rmade_no _ v (h.below HB.out))
  clear h
  go_enter Tryz.func30, Tryz.ntmps30
  go_wp2_with fail
  refine HM.out.mono ?_
  rintro e w1 ⟨rfl, rfl⟩
  go_wp2_with fail
  go_ret
  exact ⟨rfl, HB.out⟩
set_option maxRecDepth 100000 in
theorem spanOf_no (w : World) (v : Value) (i : Int) (h : NoRun w v) : Calls Tryz.prog 82 #[v, .int .i64 i] w fun e w' => e = .returned (.tuple #[.agg #[.int .i64 0, .int .i64 0, .slice none 0 0], .int .i64 4]) ∧ Below w.heap.size w w' := by
  have HB := Lib.hid (below_new w (.cells #[.int .i64 0, .int .i64 0, .slice none 0 0] 110))
  have HM := Lib.hid (rmade_no _ v (h.below HB.out))
  clear h
  go_enter Tryz.func82, Tryz.ntmps82
  go_wp2_with fail
  refine HM.out.mono ?_
  rintro e w1 ⟨rfl, rfl⟩
  go_wp2_with fail
  refine bodyPost_ret (v := .tuple #[.agg #[.int .i64 0, .int .i64 0, .slice none 0 0], .int .i64 4]) (by simp [results, Tryz.results82, go_sem]) rfl ⟨rfl, ?_⟩
  first | exact HB.out | (refine Below.setCells ?_ ?_) | skip
  all_goals (first | exact HB.out | simp)
/-- got, where there is an error beside a span. -/
theorem gotS_bad (v1 v2 : Int) (p : Option Addr) (m c : Nat) (n : Int) (w : World) (hn : n ≠ 0) : Calls Tryz.prog 81 #[.agg #[.int .i64 v1, .int .i64 v2, .slice p m c], .int .i64 n] w fun e w' => e = .panicked (errP n) ∧ Below w.heap.size w w' := by
  have HB := Lib.hid ((below_new w (.cells #[.int .i64 v1, .int .i64 v2, .slice p m c] 110)).alloc (by simp) (.cells #[.int .i64 0, .int .i64 0, .slice none 0 0] 110))
  go_enter Tryz.func81, Tryz.ntmps81
  go_wp2_with fail
  refine (need_bad n _ hn).mono ?_
  rintro e w1 ⟨rfl, rfl⟩
  go_wp2_with fail
  exact ⟨rfl, rfl, HB.out⟩
set_option maxRecDepth 100000 in
theorem cloneT_nil (w : World) : Says 90 #[.slice none 0 0] w (.slice none 0 0) := by
  have hnil : ∀ W : World, (binOp .eql 64 (.slice none 0 0) (.slice none 0 0)).run Tryz.prog W = .ok (.bool true) W := fun W => Lib.run_eql_slice_nil (P := Tryz.prog) W 64 92 none 0 0 0 0 Tryz.underlying64
  go_enter Tryz.func90, Tryz.ntmps90
  go_wp2_with fail
  go_ret
  exact ⟨rfl, rfl⟩
set_option maxRecDepth 100000 in
theorem rfence_no (w : World) (v : Value) (i : Int) (h : NoRun w v) : Calls Tryz.prog 33 #[v, .int .i64 i] w fun e w' => e = .returned (.tuple #[.slice none 0 0, .int .i64 4]) ∧ Below w.heap.size w w' := by
  have HS := Lib.hid (spanOf_no w v i h)
  obtain ⟨p, rfl⟩ := h.shape
  clear h
  go_enter Tryz.func33, Tryz.ntmps33
  go_wp2_with fail
  refine HS.out.mono ?_
  rintro e w1 ⟨rfl, hb⟩
  have HB := Lib.hid (hb.trans ((below_new w1 (.cells #[.int .i64 0, .int .i64 0, .slice none 0 0] 110)).mono hb.size))
  clear hb HS
  go_wp2_with fail
  refine (cloneT_nil _).mono ?_
  rintro e w2 ⟨rfl, rfl⟩
  go_wp2_with fail
  go_ret2
  exact ⟨rfl, HB.out⟩
set_option maxRecDepth 100000 in
theorem page1_no (br bi : Nat) (w : World) (v : Value) (i : Int) (h : NoRun w v) (hr : w.heap[br]? = some (.cells #[v] 53 (0, 0))) (hi : w.heap[bi]? = some (.cells #[.int .i64 i] 3 (0, 0))) (R : Value → World → Prop) :
    Calls Tryz.prog 80 #[.pointer (some ⟨br, 0, none⟩), .pointer (some ⟨bi, 0, none⟩)] w (AnsC R (fun n _ => n = 4) w) := by
  have HS := Lib.hid (spanOf_no w v i h)
  have c0 := (cell_at hr).1
  have c1 := (cell_at hi).1
  obtain ⟨p, rfl⟩ := h.shape
  clear h hr hi
  go_enter Tryz.func80, Tryz.ntmps80
  go_wp2_with fail
  refine HS.out.mono ?_
  rintro e w1 ⟨rfl, hb⟩
  have HB := Lib.hid hb
  clear hb HS c0 c1
  go_wp2_with fail
  refine (gotS_bad 0 0 none 0 0 4 _ (by decide)).mono ?_
  rintro e w2 ⟨rfl, hb⟩
  have HB2 := Lib.hid (HB.out.trans (hb.mono HB.out.size))
  clear hb
  go_wp2_with fail
  exact ⟨rfl, HB2.out, .inr ⟨4, rfl, rfl⟩⟩
set_option maxRecDepth 100000 in
theorem rpage_no (w : World) (v : Value) (i : Int) (h : NoRun w v) : Calls Tryz.prog 28 #[v, .int .i64 i] w fun e w' => e = .returned (.tuple #[.slice none 0 0, .int .i64 4]) ∧ Below w.heap.size w w' := by
  obtain ⟨wb, hwb⟩ : ∃ wb, wb = (w.alloc (.cells #[v] 53)).alloc (.cells #[.int .i64 i] 3) := ⟨_, rfl⟩
  have hbb : Below w.heap.size w wb := by
    rw [hwb]
    exact ((Below.refl _ _).alloc (Nat.le_refl _) _).alloc (by simp) _
  have h0 : wb.heap[w.heap.size]? = some (.cells #[v] 53 (0, 0)) := by
    rw [hwb]
    exact (Below.heap_alloc _ _ _ (by simp only [World.size_alloc]; omega)).trans (World.alloc_heap_new w _)
  have h1 : wb.heap[w.heap.size + 1]? = some (.cells #[.int .i64 i] 3 (0, 0)) := by
    rw [hwb]
    have n1 := World.alloc_heap_new (w.alloc (.cells #[v] 53)) (.cells #[.int .i64 i] 3)
    simp only [World.size_alloc] at n1
    exact n1
  have HA := Lib.hid (answeredC_any 80 #[.pointer (some ⟨w.heap.size, 0, none⟩), .pointer (some ⟨w.heap.size + 1, 0, none⟩)] wb (fun _ _ => False) (fun n _ => n = 4) (enters_of Tryz.func80 (by kernel_rfl) rfl)
    (fun wE hbE hsE => page1_no _ _ wE v i (h.below (hbb.trans (hbE.mono hbb.size))) ((hbE.block _ (Array.getElem?_eq_some_iff.1 h0).1).trans h0) ((hbE.block _ (Array.getElem?_eq_some_iff.1 h1).1).trans h1) _))
  have HB := Lib.hid hbb
  obtain ⟨p, rfl⟩ := h.shape
  clear h h0 h1 hbb
  go_enter Tryz.func28, Tryz.ntmps28
  go_wp2_with fail
  rw [← hwb]
  clear hwb
  refine HA.out.mono ?_
  rintro e w2 ⟨hb, W, ht, ⟨u, -, hu⟩ | ⟨n, rfl, rfl⟩⟩
  · exact hu.elim
  · have HB2 := Lib.hid (HB.out.trans (hb.mono HB.out.size))
    clear hb ht HA
    go_wp2_with fail
    go_ret2
    exact ⟨rfl, HB2.out⟩
end
section
open Go Go.RowKit

set_option maxRecDepth 100000 in
theorem open1_no (bd bs : Nat) (w : World) (s : ByteArray) (hd : w.heap[bd]? = some (.cells #[.pointer none] 43 (0, 0))) (hs : w.heap[bs]? = some (.cells #[.string s] 9 (0, 0))) (R : Value → World → Prop) :
    Calls Tryz.prog 75 #[.pointer (some ⟨bd, 0, none⟩), .pointer (some ⟨bs, 0, none⟩)] w (AnsR R (fun n _ => n = 4) w) := by
  have HS := Lib.hid (size_no w (.pointer none) (.string s) (.inl rfl))
  have c0 := (cell_at hd).1
  have c1 := (cell_at hs).1
  clear hd hs
  go_enter Tryz.func75, Tryz.ntmps75
  go_wp2_with fail
  refine HS.out.mono ?_
  rintro e w1 ⟨rfl, rfl⟩
  go_wp2_with fail
  refine (gotI_bad (.int .i64 0) 4 _ (by decide)).mono ?_
  rintro e w2 ⟨rfl, rfl⟩
  go_wp2_with fail
  exact ⟨rfl, Below.refl _ _, .inr ⟨4, rfl, rfl⟩⟩
set_option maxRecDepth 100000 in
theorem ropen_no (s : ByteArray) (w : World) : Calls Tryz.prog 26 #[.pointer none, .string s] w fun e w' => e = .returned (.tuple #[.pointer none, .int .i64 4]) ∧ Below w.heap.size w w' := by
  obtain ⟨wb, hwb⟩ : ∃ wb, wb = (w.alloc (.cells #[.pointer none] 43)).alloc (.cells #[.string s] 9) := ⟨_, rfl⟩
  have hbb : Below w.heap.size w wb := by
    rw [hwb]
    exact ((Below.refl _ _).alloc (Nat.le_refl _) _).alloc (by simp) _
  have h0 : wb.heap[w.heap.size]? = some (.cells #[.pointer none] 43 (0, 0)) := by
    rw [hwb]
    exact (Below.heap_alloc _ _ _ (by simp only [World.size_alloc]; omega)).trans (World.alloc_heap_new w _)
  have h1 : wb.heap[w.heap.size + 1]? = some (.cells #[.string s] 9 (0, 0)) := by
    rw [hwb]
    have n1 := World.alloc_heap_new (w.alloc (.cells #[.pointer none] 43)) (.cells #[.string s] 9)
    simp only [World.size_alloc] at n1
    exact n1
  have HA := Lib.hid (answeredR_any 75 #[.pointer (some ⟨w.heap.size, 0, none⟩), .pointer (some ⟨w.heap.size + 1, 0, none⟩)] wb (fun _ _ => False) (fun n _ => n = 4) (enters_of Tryz.func75 (by kernel_rfl) rfl)
    (fun wE hbE hsE => open1_no _ _ wE s ((hbE.block _ (Array.getElem?_eq_some_iff.1 h0).1).trans h0) ((hbE.block _ (Array.getElem?_eq_some_iff.1 h1).1).trans h1) _))
  have HB := Lib.hid hbb
  clear h0 h1 hbb
  go_enter Tryz.func26, Tryz.ntmps26
  go_wp2_with fail
  rw [← hwb]
  clear hwb
  refine HA.out.mono ?_
  rintro e w2 ⟨hb, W, ht, ⟨u, -, hu⟩ | ⟨n, rfl, rfl⟩⟩
  · exact hu.elim
  · have HB2 := Lib.hid (HB.out.trans (hb.mono HB.out.size))
    clear hb ht HA
    go_wp2_with fail
    go_ret2
    exact ⟨rfl, HB2.out⟩
theorem none_run : IsRun [] := RunTo.zero []
theorem en_nil (n : Nat) (w : World) : EnIn n w (.slice none 0 0) [] := ⟨none, 0, rfl, Nat.le_refl _, by decide, .inl rfl⟩
set_option maxRecDepth 100000 in
set_option maxHeartbeats 1000000 in
theorem write1_no (bl bd bs Eb : Nat) (w : World) (s : ByteArray) (hl : w.heap[bl]? = some (.cells #[.slice none 0 0] 22 (0, 0))) (hd : w.heap[bd]? = some (.cells #[.pointer none] 43 (0, 0))) (hs : w.heap[bs]? = some (.cells #[.string s] 9 (0, 0))) (hE : w.heap[Eb]? = some (.cells #[.int .i64 0] 25 (0, 0))) (G : Glob w) :
    Calls Tryz.prog 67 #[.pointer (some ⟨bl, 0, none⟩), .pointer (some ⟨bd, 0, none⟩), .pointer (some ⟨bs, 0, none⟩)] w (DoEnd Eb (fun _ => False) (fun n W => n = 4 ∧ Below w.heap.size w W)) := by
  have HBy := Lib.hid (runBytes_any _ [] w (en_nil _ w) (by decide) (fun c hc => by cases hc) G)
  have c0 := (cell_at hl).1
  have HD := Lib.hid hd
  have HS := Lib.hid hs
  have HE := Lib.hid hE
  clear hl hd hs hE G
  go_enter Tryz.func67, Tryz.ntmps67
  go_wp2_with fail
  refine HBy.out.mono ?_
  rintro e w1 ⟨⟨-, v1, rfl, ho1⟩ | ⟨hno, -⟩, hb1⟩
  · obtain ⟨q1, d1, rfl⟩ := ho1.in_.shape
    have HB1 := Lib.hid hb1
    have c1 := (cell_at ((hb1.block _ (Array.getElem?_eq_some_iff.1 HD.out).1).trans HD.out)).1
    have c2 := (cell_at ((hb1.block _ (Array.getElem?_eq_some_iff.1 HS.out).1).trans HS.out)).1
    have HE1 := Lib.hid (cell_at ((hb1.block _ (Array.getElem?_eq_some_iff.1 HE.out).1).trans HE.out))
    obtain ⟨m1, hm1⟩ : ∃ m, m = (runL []).length := ⟨_, rfl⟩
    rw [← hm1]
    clear ho1 hb1 HBy c0 hm1
    go_wp2_with fail
    refine (gotB_ok _ _).mono ?_
    rintro e w2 ⟨rfl, rfl⟩
    go_wp2_with fail
    refine (create_no _ (.pointer none) (.string s) (.inl rfl)).mono ?_
    rintro e w2 ⟨rfl, rfl⟩
    go_wp2_with fail
    refine (need_bad 4 _ (by decide)).mono ?_
    rintro e w2 ⟨rfl, rfl⟩
    go_wp2_with fail
    exact ⟨rfl, HE1.out, .inr ⟨4, rfl, rfl, HB1.out⟩⟩
  · exact absurd none_run hno
set_option maxRecDepth 100000 in
set_option maxHeartbeats 1000000 in
theorem rwrite_no (s : ByteArray) (w : World) (G : Glob w) : Calls Tryz.prog 24 #[.pointer none, .string s, .slice none 0 0] w fun e w' => e = .returned (.int .i64 4) ∧ Below w.heap.size w w' := by
  obtain ⟨wb, hwb⟩ : ∃ wb, wb = ((w.alloc (.cells #[.pointer none] 43)).alloc (.cells #[.string s] 9)).alloc (.cells #[.slice none 0 0] 22) := ⟨_, rfl⟩
  have hsb : wb.heap.size = w.heap.size + 3 := by rw [hwb]; simp
  have h0 : wb.heap[w.heap.size]? = some (.cells #[.pointer none] 43 (0, 0)) := by
    rw [hwb]
    exact (Below.heap_alloc _ _ _ (by simp only [World.size_alloc]; omega)).trans ((Below.heap_alloc _ _ _ (by simp only [World.size_alloc]; omega)).trans (World.alloc_heap_new w _))
  have h1 : wb.heap[w.heap.size + 1]? = some (.cells #[.string s] 9 (0, 0)) := by
    rw [hwb]
    have n1 := World.alloc_heap_new (w.alloc (.cells #[.pointer none] 43)) (.cells #[.string s] 9)
    simp only [World.size_alloc] at n1
    exact (Below.heap_alloc _ _ _ (by simp only [World.size_alloc]; omega)).trans n1
  have h2 : wb.heap[w.heap.size + 1 + 1]? = some (.cells #[.slice none 0 0] 22 (0, 0)) := by
    rw [hwb]
    have n2 := World.alloc_heap_new ((w.alloc (.cells #[.pointer none] 43)).alloc (.cells #[.string s] 9)) (.cells #[.slice none 0 0] 22)
    simp only [World.size_alloc] at n2
    exact n2
  have hbb : Below w.heap.size w wb := by
    rw [hwb]
    exact (((Below.refl _ _).alloc (Nat.le_refl _) _).alloc (by simp) _).alloc (by simp only [World.size_alloc]; omega) _
  have hEb := below_new wb (.cells #[.int .i64 0] 25)
  have hbE := hbb.trans (hEb.mono hbb.size)
  have hEc := World.alloc_heap_new wb (.cells #[.int .i64 0] 25)
  have kk : ∀ {k : Nat} {o : Obj}, wb.heap[k]? = some o → (wb.alloc (.cells #[.int .i64 0] 25)).heap[k]? = some o := fun h => (hEb.block _ (Array.getElem?_eq_some_iff.1 h).1).trans h
  have hw := write1_no (w.heap.size + 1 + 1) w.heap.size (w.heap.size + 1) wb.heap.size _ s (kk h2) (kk h0) (kk h1) hEc (G.below hbE)
  have HT := Lib.hid (tried_any 67 _ wb _ _ (enters_of Tryz.func67 (by kernel_rfl) rfl) hw)
  have HBE := Lib.hid hbE
  have HSb := Lib.hid hsb
  clear hw hEc hEb hbb h0 h1 h2 kk hbE hsb G
  go_enter Tryz.func24, Tryz.ntmps24
  go_wp2_with fail
  rw [← hwb]
  clear hwb
  refine HT.out.mono ?_
  rintro e W ⟨W1, n, ⟨rfl, hR⟩ | ⟨rfl, hb⟩, rfl, rfl⟩
  · exact hR.elim
  · have HB := Lib.hid (HBE.out.trans (hb.mono HBE.out.size))
    clear hb HT
    go_wp2_with fail
    go_ret
    exact ⟨rfl, HB.out.setCell (p := ⟨wb.heap.size, 0, none⟩) (by have := HSb.out; simp only; omega) _⟩
end
section
open Go Go.RowKit

theorem runL_long (E : List Ct) : 0 < (runL E).length := by
  unfold runL tailL
  rw [List.length_append, sealL_len]
  omega
theorem add_zero0 (b j : Nat) : (⟨b, 0, none⟩ : Addr).add j = ⟨b, j, none⟩ := by cases j <;> simp [Addr.add]
theorem ownF_byC {n : Nat} {w : World} {v : Value} {l : List UInt8} (h : OwnF n w v l) (hl : 0 < l.length) : ∃ b cap, v = .slice (some ⟨b, 0, none⟩) l.length cap ∧ n ≤ b ∧ ByC w.heap.size w (.slice (some ⟨b, 0, none⟩) l.length cap) l := by
  rcases h.form with ⟨h1, -⟩ | ⟨b, cap, h1, h2, h3, h4, h5, h6⟩
  · rw [h1] at hl; exact absurd hl (by decide)
  · refine ⟨b, cap, h1, h2, .inr ⟨⟨b, 0, none⟩, cap, rfl, fun j hj => ⟨h3, ?_⟩⟩, some ⟨b, 0, none⟩, cap, rfl, h4, h5⟩
    have := h6 j hj
    rw [add_zero0]
    rw [Nat.zero_add] at this
    exact this
/-- A run that is open. -/
def RunAt (n : Nat) (W : World) (r d : Nat) (s : ByteArray) (E : List Ct) : Prop :=
  n ≤ r ∧ ∃ sv Rr, W.heap[r]? = some (.cells #[.pointer (some ⟨r, 0, none⟩), .pointer (some ⟨d, 0, none⟩), .string s, sv, .int .i64 (E.length : Nat)] 84 (0, 0)) ∧ OwnSp n W sv Rr ∧ Rr.map (·.1) = spL 0 (pagesL E)
def OpenR (n d : Nat) (s : ByteArray) (E : List Ct) (v : Value) (W : World) : Prop := ∃ r, v = .pointer (some ⟨r, 0, none⟩) ∧ RunAt n W r d s E
theorem Grow.none_below {a b : World} (h : Grow (fun _ => False) a b) : Below a.heap.size a b := h.below (Nat.le_refl _) (fun _ e => e.elim)
set_option maxRecDepth 100000 in
set_option maxHeartbeats 4000000 in
theorem open1_any {Y : Nat → Prop} {d : Nat} (bd bs : Nat) (w : World) (s : ByteArray) (E : List Ct) (hF : FlAt w d s (runL E) Y) (hd : w.heap[bd]? = some (.cells #[.pointer (some ⟨d, 0, none⟩)] 43 (0, 0))) (hs : w.heap[bs]? = some (.cells #[.string s] 9 (0, 0)))
    (h64 : s.size ≤ 64) (hE : E.length ≤ 1000) (hK : Kin E) (hR : IsRun E) (hL : (runL E).length ≤ 500000) (G : Glob w) :
    Calls Tryz.prog 75 #[.pointer (some ⟨bd, 0, none⟩), .pointer (some ⟨bs, 0, none⟩)] w (AnsR (OpenR w.heap.size d s E) (fun _ _ => False) w) := by
  have HSz := Lib.hid (flsize_any hF h64)
  have HF := Lib.hid hF
  have HD := Lib.hid hd
  have HS := Lib.hid hs
  have HP := Lib.hid (And.intro h64 (And.intro hE (And.intro hK (And.intro hR (And.intro hL G)))))
  have c0 := (cell_at hd).1
  have c1 := (cell_at hs).1
  obtain ⟨N, hN⟩ : ∃ N, N = (runL E).length := ⟨_, rfl⟩
  rw [← hN] at HSz
  have HN := Lib.hid hN
  clear hF hd hs h64 hE hK hR hL G hN
  go_enter Tryz.func75, Tryz.ntmps75
  go_wp2_with fail
  refine HSz.out.mono ?_
  rintro e w1 ⟨rfl, hg1⟩
  have hb1 := hg1.none_below
  have HB1 := Lib.hid hb1
  have c2 := (cell_at ((hb1.block _ (Array.getElem?_eq_some_iff.1 HD.out).1).trans HD.out)).1
  have c3 := (cell_at ((hb1.block _ (Array.getElem?_eq_some_iff.1 HS.out).1).trans HS.out)).1
  have HRd := Lib.hid (flread_any (HF.out.below hb1) HP.out.1 HP.out.2.2.2.2.1)
  rw [← HN.out] at HRd
  clear hg1 hb1 HSz c0 c1
  go_wp2_with fail
  refine (gotI_ok _ _).mono ?_
  rintro e w2 ⟨rfl, rfl⟩
  go_wp2_with fail
  refine HRd.out.mono ?_
  rintro e w2 ⟨v, rfl, hv, hg2⟩
  obtain ⟨b, cap, rfl, -, hby⟩ := ownF_byC hv (runL_long E)
  have hb2 := HB1.out.trans (hg2.none_below.mono HB1.out.size)
  have HB2 := Lib.hid hb2
  have HGl := Lib.hid (HP.out.2.2.2.2.2.below HB2.out)
  have HBy := Lib.hid hby
  have HIx := Lib.hid (fun W (hW : Below w2.heap.size w2 W) => indexOf_ok ⟨b, 0, none⟩ cap E W ⟨(HBy.out.1.below hW).mono hW.size, HBy.out.2⟩ HP.out.2.1 HP.out.2.2.2.1 HP.out.2.2.1 (by have := HP.out.2.2.2.2.1; omega) (HGl.out.below hW))
  rw [← HN.out] at HIx ⊢
  have hlt := (Array.getElem?_eq_some_iff.1 HD.out).1
  have hlt2 := (Array.getElem?_eq_some_iff.1 HS.out).1
  have HC := Lib.hid (show ∀ W, Below w2.heap.size w2 W → W.cell? ⟨bd, 0, none⟩ = some (.pointer (some ⟨d, 0, none⟩)) ∧ W.cell? ⟨bs, 0, none⟩ = some (.string s) from fun W hW =>
    ⟨(hW.cell (p := ⟨bd, 0, none⟩) (Nat.lt_of_lt_of_le hlt HB2.out.size)).trans (cell_at ((hb2.block _ hlt).trans HD.out)).1, (hW.cell (p := ⟨bs, 0, none⟩) (Nat.lt_of_lt_of_le hlt2 HB2.out.size)).trans (cell_at ((hb2.block _ hlt2).trans HS.out)).1⟩)
  have HN2 := Lib.hid (Below.refl w2.heap.size w2).drew
  have c4 := HC.out w2 (Below.refl _ _)
  obtain ⟨c4, c5⟩ := c4
  clear hv hg2 hby hb2 HRd c2 c3 hlt hlt2
  go_wp2_with fail
  refine (gotB_ok _ _).mono ?_
  rintro e w3 ⟨rfl, rfl⟩
  go_wp2_with fail
  go_region_held3 (fun X => X.cell? ⟨bd, 0, none⟩ = some (.pointer (some ⟨d, 0, none⟩)) ∧ X.cell? ⟨bs, 0, none⟩ = some (.string s)) (first | exact HC.out _ HN2.out | exact HC.out _ HB4.out | exact HC.out _ (HB4.out.alloc HB4.out.size _))
    ((go_at_call 51; refine (HIx.out _ HN2.out).mono ?_; rintro e w4 ⟨sv, Rr, rfl, hsp, hm, hb4⟩; obtain ⟨sp, sc, rfl, -⟩ := hsp.shape; have HB4 := Lib.hid (HN2.out.trans hb4)))
  obtain ⟨o, ho⟩ : ∃ o, o = Obj.cells #[.pointer none, .pointer (some ⟨d, 0, none⟩), .string s, .slice sp Rr.length sc, .int .i64 (E.length : Int)] 84 := ⟨_, rfl⟩
  have hb5 := below_new w4 o
  have h5 : (w4.alloc o).heap[w4.heap.size]? = some (.cells #[.pointer none, .pointer (some ⟨d, 0, none⟩), .string s, .slice sp Rr.length sc, .int .i64 (E.length : Int)] 84 (0, 0)) := by rw [ho]; exact World.alloc_heap_new w4 _
  have k0 := cell_of_row _ w4.heap.size 0 _ _ (0, 0) h5
  have k1 := frozen_of_row _ w4.heap.size 0 _ _ h5
  have h6 := heap_setCell_same _ w4.heap.size 0 _ _ (.pointer (some ⟨w4.heap.size, 0, none⟩)) h5
  have hsp' : OwnSp w.heap.size w4 (.slice sp Rr.length sc) Rr := hsp.weak HB2.out.size
  have hB : Below w.heap.size w w4 := HB2.out.trans (HB4.out.mono HB2.out.size)
  have hsz := Nat.le_trans HB2.out.size HB4.out.size
  have HEnd := Lib.hid (show AnsR (OpenR w.heap.size d s E) (fun _ _ => False) w (.returned (.pointer (some ⟨w4.heap.size, 0, none⟩))) ((w4.alloc o).setCell ⟨w4.heap.size, 0, none⟩ (.pointer (some ⟨w4.heap.size, 0, none⟩))) from
    ⟨hB.trans ((hb5.mono hsz).setCell hsz _), .inl ⟨_, rfl, ⟨_, rfl, hsz, _, Rr, h6, ((hsp'.below hb5).other (turned_setCell _ _ _) h5 (fun cur e => by injection e with _ e _; exact absurd e (by decide)) (fun cur e => by injection e with _ e _; exact absurd e (by decide))), hm⟩, _, rfl⟩⟩)
  rw [← ho]
  clear hb5 h5 h6 hsp' hB hsz hsp hm hb4 ho
  go_wp2_with fail
  go_ret
  exact HEnd.out
end
end Go.Proofs.YtdjhfcopnhcljaaGreatDoor
