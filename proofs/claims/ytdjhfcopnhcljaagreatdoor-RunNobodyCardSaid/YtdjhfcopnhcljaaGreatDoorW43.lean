/-
  run.Open and run.Write without a disk.
  run.Open of a run's file.
  run.Open of a run's file: the run that it makes.
-/
import Derived.Test.YtdjhfcopnhcljaaGreatDoorW42
import Derived.Test.YtdjhfcopnhcljaaGreatDoorW41
namespace Go.Proofs.YtdjhfcopnhcljaaGreatDoor
section
open Go Go.RowKit

set_option maxRecDepth 100000 in
theorem open1_no (bd bs : Nat) (w : World) (s : ByteArray) (hd : w.heap[bd]? = some (.cells #[.pointer none] 43 (0, 0))) (hs : w.heap[bs]? = some (.cells #[.string s] 9 (0, 0))) (R : Value → World → Prop) :
    Calls Tryz.prog 75 #[.pointer (some ⟨bd, 0, none⟩), .pointer (some ⟨bs, 0, none⟩)] w (AnsR R (fun n _ => n = 4) w) := by
  have HS := Lib.hid (size_no w (.pointer none) (.string s) (.inl rfl))
  have c0 := (cell_at hd).1
  have c1 := (cell_at hs).1
  clear hd hs
  go_enter Tryz.func75, Tryz.ntmps75
  go_wp2_with fail
  refine HS.out.mono ?_
  rintro e w1 ⟨rfl, rfl⟩
  go_wp2_with fail
  refine (gotI_bad (.int .i64 0) 4 _ (by decide)).mono ?_
  rintro e w2 ⟨rfl, rfl⟩
  go_wp2_with fail
  exact ⟨rfl, Below.refl _ _, .inr ⟨4, rfl, rfl⟩⟩
set_option maxRecDepth 100000 in
theorem ropen_no (s : ByteArray) (w : World) : Calls Tryz.prog 26 #[.pointer none, .string s] w fun e w' => e = .returned (.tuple #[.pointer none, .int .i64 4]) ∧ Below w.heap.size w w' := by
  obtain ⟨wb, hwb⟩ : ∃ wb, wb = (w.alloc (.cells #[.pointer none] 43)).alloc (.cells #[.string s] 9) := ⟨_, rfl⟩
  have hbb : Below w.heap.size w wb := by
    rw [hwb]
    exact ((Below.refl _ _).alloc (Nat.le_refl _) _).alloc (by simp) _
  have h0 : wb.heap[w.heap.size]? = some (.cells #[.pointer none] 43 (0, 0)) := by
    rw [hwb]
    exact (Below.heap_alloc _ _ _ (by simp only [World.size_alloc]; omega)).trans (World.alloc_heap_new w _)
  have h1 : wb.heap[w.heap.size + 1]? = some (.cells #[.string s] 9 (0, 0)) := by
    rw [hwb]
    have n1 := World.alloc_heap_new (w.alloc (.cells #[.pointer none] 43)) (.cells #[.string s] 9)
    simp only [World.size_alloc] at n1
    exact n1
  have HA := Lib.hid (answeredR_any 75 #[.pointer (some ⟨w.heap.size, 0, none⟩), .pointer (some ⟨w.heap.size + 1, 0, none⟩)] wb (fun _ _ => False) (fun n _ => n = 4) (enters_of Tryz.func75 (by kernel_rfl) rfl)
    (fun wE hbE hsE => open1_no _ _ wE s ((hbE.block _ (Array.getElem?_eq_some_iff.1 h0).1).trans h0) ((hbE.block _ (Array.getElem?_eq_some_iff.1 h1).1).trans h1) _))
  have HB := Lib.hid hbb
  clear h0 h1 hbb
  go_enter Tryz.func26, Tryz.ntmps26
  go_wp2_with fail
  rw [← hwb]
  clear hwb
  refine HA.out.mono ?_
  rintro e w2 ⟨hb, W, ht, ⟨u, -, hu⟩ | ⟨n, rfl, rfl⟩⟩
  · exact hu.elim
  · have HB2 := Lib.hid (HB.out.trans (hb.mono HB.out.size))
    clear hb ht HA
    go_wp2_with fail
    go_ret2
    exact ⟨rfl, HB2.out⟩
theorem none_run : IsRun [] := RunTo.zero []
theorem en_nil (n : Nat) (w : World) : EnIn n w (.slice none 0 0) [] := ⟨none, 0, rfl, Nat.le_refl _, by decide, .inl rfl⟩
set_option maxRecDepth 100000 in
set_option maxHeartbeats 1000000 in
theorem write1_no (bl bd bs Eb : Nat) (w : World) (s : ByteArray) (hl : w.heap[bl]? = some (.cells #[.slice none 0 0] 22 (0, 0))) (hd : w.heap[bd]? = some (.cells #[.pointer none] 43 (0, 0))) (hs : w.heap[bs]? = some (.cells #[.string s] 9 (0, 0))) (hE : w.heap[Eb]? = some (.cells #[.int .i64 0] 25 (0, 0))) (G : Glob w) :
    Calls Tryz.prog 67 #[.pointer (some ⟨bl, 0, none⟩), .pointer (some ⟨bd, 0, none⟩), .pointer (some ⟨bs, 0, none⟩)] w (DoEnd Eb (fun _ => False) (fun n W => n = 4 ∧ Below w.heap.size w W)) := by
  have HBy := Lib.hid (runBytes_any _ [] w (en_nil _ w) (by decide) (fun c hc => by cases hc) G)
  have c0 := (cell_at hl).1
  have HD := Lib.hid hd
  have HS := Lib.hid hs
  have HE := Lib.hid hE
  clear hl hd hs hE G
  go_enter Tryz.func67, Tryz.ntmps67
  go_wp2_with fail
  refine HBy.out.mono ?_
  rintro e w1 ⟨⟨-, v1, rfl, ho1⟩ | ⟨hno, -⟩, hb1⟩
  · obtain ⟨q1, d1, rfl⟩ := ho1.in_.shape
    have HB1 := Lib.hid hb1
    have c1 := (cell_at ((hb1.block _ (Array.getElem?_eq_some_iff.1 HD.out).1).trans HD.out)).1
    have c2 := (cell_at ((hb1.block _ (Array.getElem?_eq_some_iff.1 HS.out).1).trans HS.out)).1
    have HE1 := Lib.hid (cell_at ((hb1.block _ (Array.getElem?_eq_some_iff.1 HE.out).1).trans HE.out))
    obtain ⟨m1, hm1⟩ : ∃ m, m = (runL []).length := ⟨_, rfl⟩
    rw [← hm1]
    clear ho1 hb1 HBy c0 hm1
    go_wp2_with fail
    refine (gotB_ok _ _).mono ?_
    rintro e w2 ⟨rfl, rfl⟩
    go_wp2_with fail
    refine (create_no _ (.pointer none) (.string s) (.inl rfl)).mono ?_
    rintro e w2 ⟨rfl, rfl⟩
    go_wp2_with fail
    refine (need_bad 4 _ (by decide)).mono ?_
    rintro e w2 ⟨rfl, rfl⟩
    go_wp2_with fail
    exact ⟨rfl, HE1.out, .inr ⟨4, rfl, rfl, HB1.out⟩⟩
  · exact absurd none_run hno
set_option maxRecDepth 100000 in
set_option maxHeartbeats 1000000 in
theorem rwrite_no (s : ByteArray) (w : World) (G : Glob w) : Calls Tryz.prog 24 #[.pointer none, .string s, .slice none 0 0] w fun e w' => e = .returned (.int .i64 4) ∧ Below w.heap.size w w' := by
  obtain ⟨wb, hwb⟩ : ∃ wb, wb = ((w.alloc (.cells #[.pointer none] 43)).alloc (.cells #[.string s] 9)).alloc (.cells #[.slice none 0 0] 22) := ⟨_, rfl⟩
  have hsb : wb.heap.size = w.heap.size + 3 := by rw [hwb]; simp
  have h0 : wb.heap[w.heap.size]? = some (.cells #[.pointer none] 43 (0, 0)) := by
    rw [hwb]
    exact (Below.heap_alloc _ _ _ (by simp only [World.size_alloc]; omega)).trans ((Below.heap_alloc _ _ _ (by simp only [World.size_alloc]; omega)).trans (World.alloc_heap_new w _))
  have h1 : wb.heap[w.heap.size + 1]? = some (.cells #[.string s] 9 (0, 0)) := by
    rw [hwb]
    have n1 := World.alloc_heap_new (w.alloc (.cells #[.pointer none] 43)) (.cells #[.string s] 9)
    simp only [World.size_alloc] at n1
    exact (Below.heap_alloc _ _ _ (by simp only [World.size_alloc]; omega)).trans n1
  have h2 : wb.heap[w.heap.size + 1 + 1]? = some (.cells #[.slice none 0 0] 22 (0, 0)) := by
    rw [hwb]
    have n2 := World.alloc_heap_new ((w.alloc (.cells #[.pointer none] 43)).alloc (.cells #[.string s] 9)) (.cells #[.slice none 0 0] 22)
    simp only [World.size_alloc] at n2
    exact n2
  have hbb : Below w.heap.size w wb := by
    rw [hwb]
    exact (((Below.refl _ _).alloc (Nat.le_refl _) _).alloc (by simp) _).alloc (by simp only [World.size_alloc]; omega) _
  have hEb := below_new wb (.cells #[.int .i64 0] 25)
  have hbE := hbb.trans (hEb.mono hbb.size)
  have hEc := World.alloc_heap_new wb (.cells #[.int .i64 0] 25)
  have kk : ∀ {k : Nat} {o : Obj}, wb.heap[k]? = some o → (wb.alloc (.cells #[.int .i64 0] 25)).heap[k]? = some o := fun h => (hEb.block _ (Array.getElem?_eq_some_iff.1 h).1).trans h
  have hw := write1_no (w.heap.size + 1 + 1) w.heap.size (w.heap.size + 1) wb.heap.size _ s (kk h2) (kk h0) (kk h1) hEc (G.below hbE)
  have HT := Lib.hid (tried_any 67 _ wb _ _ (enters_of Tryz.func67 (by kernel_rfl) rfl) hw)
  have HBE := Lib.hid hbE
  have HSb := Lib.hid hsb
  clear hw hEc hEb hbb h0 h1 h2 kk hbE hsb G
  go_enter Tryz.func24, Tryz.ntmps24
  go_wp2_with fail
  rw [← hwb]
  clear hwb
  refine HT.out.mono ?_
  rintro e W ⟨W1, n, ⟨rfl, hR⟩ | ⟨rfl, hb⟩, rfl, rfl⟩
  · exact hR.elim
  · have HB := Lib.hid (HBE.out.trans (hb.mono HBE.out.size))
    clear hb HT
    go_wp2_with fail
    go_ret
    exact ⟨rfl, HB.out.setCell (p := ⟨wb.heap.size, 0, none⟩) (by have := HSb.out; simp only; omega) _⟩
end
section
open Go Go.RowKit

theorem runL_long (E : List Ct) : 0 < (runL E).length := by
  unfold runL tailL
  rw [List.length_append, sealL_len]
  omega
theorem add_zero0 (b j : Nat) : (⟨b, 0, none⟩ : Addr).add j = ⟨b, j, none⟩ := by cases j <;> simp [Addr.add]
theorem ownF_byC {n : Nat} {w : World} {v : Value} {l : List UInt8} (h : OwnF n w v l) (hl : 0 < l.length) : ∃ b cap, v = .slice (some ⟨b, 0, none⟩) l.length cap ∧ n ≤ b ∧ ByC w.heap.size w (.slice (some ⟨b, 0, none⟩) l.length cap) l := by
  rcases h.form with ⟨h1, -⟩ | ⟨b, cap, h1, h2, h3, h4, h5, h6⟩
  · rw [h1] at hl; exact absurd hl (by decide)
  · refine ⟨b, cap, h1, h2, .inr ⟨⟨b, 0, none⟩, cap, rfl, fun j hj => ⟨h3, ?_⟩⟩, some ⟨b, 0, none⟩, cap, rfl, h4, h5⟩
    have := h6 j hj
    rw [add_zero0]
    rw [Nat.zero_add] at this
    exact this
/-- A run that is open. -/
def RunAt (n : Nat) (W : World) (r d : Nat) (s : ByteArray) (E : List Ct) : Prop :=
  n ≤ r ∧ ∃ sv Rr, W.heap[r]? = some (.cells #[.pointer (some ⟨r, 0, none⟩), .pointer (some ⟨d, 0, none⟩), .string s, sv, .int .i64 (E.length : Nat)] 84 (0, 0)) ∧ OwnSp n W sv Rr ∧ Rr.map (·.1) = spL 0 (pagesL E)
def OpenR (n d : Nat) (s : ByteArray) (E : List Ct) (v : Value) (W : World) : Prop := ∃ r, v = .pointer (some ⟨r, 0, none⟩) ∧ RunAt n W r d s E
theorem Grow.none_below {a b : World} (h : Grow (fun _ => False) a b) : Below a.heap.size a b := h.below (Nat.le_refl _) (fun _ e => e.elim)
set_option maxRecDepth 100000 in
set_option maxHeartbeats 4000000 in
theorem open1_any {Y : Nat → Prop} {d : Nat} (bd bs : Nat) (w : World) (s : ByteArray) (E : List Ct) (hF : FlAt w d s (runL E) Y) (hd : w.heap[bd]? = some (.cells #[.pointer (some ⟨d, 0, none⟩)] 43 (0, 0))) (hs : w.heap[bs]? = some (.cells #[.string s] 9 (0, 0)))
    (h64 : s.size ≤ 64) (hE : E.length ≤ 1000) (hK : Kin E) (hR : IsRun E) (hL : (runL E).length ≤ 10000) (G : Glob w) :
    Calls Tryz.prog 75 #[.pointer (some ⟨bd, 0, none⟩), .pointer (some ⟨bs, 0, none⟩)] w (AnsR (OpenR w.heap.size d s E) (fun _ _ => False) w) := by
  have HSz := Lib.hid (flsize_any hF h64)
  have HF := Lib.hid hF
  have HD := Lib.hid hd
  have HS := Lib.hid hs
  have HP := Lib.hid (And.intro h64 (And.intro hE (And.intro hK (And.intro hR (And.intro hL G)))))
  have c0 := (cell_at hd).1
  have c1 := (cell_at hs).1
  obtain ⟨N, hN⟩ : ∃ N, N = (runL E).length := ⟨_, rfl⟩
  rw [← hN] at HSz
  have HN := Lib.hid hN
  clear hF hd hs h64 hE hK hR hL G hN
  go_enter Tryz.func75, Tryz.ntmps75
  go_wp2_with fail
  refine HSz.out.mono ?_
  rintro e w1 ⟨rfl, hg1⟩
  have hb1 := hg1.none_below
  have HB1 := Lib.hid hb1
  have c2 := (cell_at ((hb1.block _ (Array.getElem?_eq_some_iff.1 HD.out).1).trans HD.out)).1
  have c3 := (cell_at ((hb1.block _ (Array.getElem?_eq_some_iff.1 HS.out).1).trans HS.out)).1
  have HRd := Lib.hid (flread_any (HF.out.below hb1) HP.out.1 HP.out.2.2.2.2.1)
  rw [← HN.out] at HRd
  clear hg1 hb1 HSz c0 c1
  go_wp2_with fail
  refine (gotI_ok _ _).mono ?_
  rintro e w2 ⟨rfl, rfl⟩
  go_wp2_with fail
  refine HRd.out.mono ?_
  rintro e w2 ⟨v, rfl, hv, hg2⟩
  obtain ⟨b, cap, rfl, -, hby⟩ := ownF_byC hv (runL_long E)
  have hb2 := HB1.out.trans (hg2.none_below.mono HB1.out.size)
  have HB2 := Lib.hid hb2
  have HGl := Lib.hid (HP.out.2.2.2.2.2.below HB2.out)
  have HBy := Lib.hid hby
  have HIx := Lib.hid (fun W (hW : Below w2.heap.size w2 W) => indexOf_ok ⟨b, 0, none⟩ cap E W ⟨(HBy.out.1.below hW).mono hW.size, HBy.out.2⟩ HP.out.2.1 HP.out.2.2.2.1 HP.out.2.2.1 (by have := HP.out.2.2.2.2.1; omega) (HGl.out.below hW))
  rw [← HN.out] at HIx ⊢
  have hlt := (Array.getElem?_eq_some_iff.1 HD.out).1
  have hlt2 := (Array.getElem?_eq_some_iff.1 HS.out).1
  have HC := Lib.hid (show ∀ W, Below w2.heap.size w2 W → W.cell? ⟨bd, 0, none⟩ = some (.pointer (some ⟨d, 0, none⟩)) ∧ W.cell? ⟨bs, 0, none⟩ = some (.string s) from fun W hW =>
    ⟨(hW.cell (p := ⟨bd, 0, none⟩) (Nat.lt_of_lt_of_le hlt HB2.out.size)).trans (cell_at ((hb2.block _ hlt).trans HD.out)).1, (hW.cell (p := ⟨bs, 0, none⟩) (Nat.lt_of_lt_of_le hlt2 HB2.out.size)).trans (cell_at ((hb2.block _ hlt2).trans HS.out)).1⟩)
  have HN2 := Lib.hid (Below.refl w2.heap.size w2).drew
  have c4 := HC.out w2 (Below.refl _ _)
  obtain ⟨c4, c5⟩ := c4
  clear hv hg2 hby hb2 HRd c2 c3 hlt hlt2
  go_wp2_with fail
  refine (gotB_ok _ _).mono ?_
  rintro e w3 ⟨rfl, rfl⟩
  go_wp2_with fail
  go_region_held3 (fun X => X.cell? ⟨bd, 0, none⟩ = some (.pointer (some ⟨d, 0, none⟩)) ∧ X.cell? ⟨bs, 0, none⟩ = some (.string s)) (first | exact HC.out _ HN2.out | exact HC.out _ HB4.out | exact HC.out _ (HB4.out.alloc HB4.out.size _))
    ((go_at_call 51; refine (HIx.out _ HN2.out).mono ?_; rintro e w4 ⟨sv, Rr, rfl, hsp, hm, hb4⟩; obtain ⟨sp, sc, rfl, -⟩ := hsp.shape; have HB4 := Lib.hid (HN2.out.trans hb4)))
  obtain ⟨o, ho⟩ : ∃ o, o = Obj.cells #[.pointer none, .pointer (some ⟨d, 0, none⟩), .string s, .slice sp Rr.length sc, .int .i64 (E.length : Int)] 84 := ⟨_, rfl⟩
  have hb5 := below_new w4 o
  have h5 : (w4.alloc o).heap[w4.heap.size]? = some (.cells #[.pointer none, .pointer (some ⟨d, 0, none⟩), .string s, .slice sp Rr.length sc, .int .i64 (E.length : Int)] 84 (0, 0)) := by rw [ho]; exact World.alloc_heap_new w4 _
  have k0 := cell_of_row _ w4.heap.size 0 _ _ (0, 0) h5
  have k1 := frozen_of_row _ w4.heap.size 0 _ _ h5
  have h6 := heap_setCell_same _ w4.heap.size 0 _ _ (.pointer (some ⟨w4.heap.size, 0, none⟩)) h5
  have hsp' : OwnSp w.heap.size w4 (.slice sp Rr.length sc) Rr := hsp.weak HB2.out.size
  have hB : Below w.heap.size w w4 := HB2.out.trans (HB4.out.mono HB2.out.size)
  have hsz := Nat.le_trans HB2.out.size HB4.out.size
  have HEnd := Lib.hid (show AnsR (OpenR w.heap.size d s E) (fun _ _ => False) w (.returned (.pointer (some ⟨w4.heap.size, 0, none⟩))) ((w4.alloc o).setCell ⟨w4.heap.size, 0, none⟩ (.pointer (some ⟨w4.heap.size, 0, none⟩))) from
    ⟨hB.trans ((hb5.mono hsz).setCell hsz _), .inl ⟨_, rfl, ⟨_, rfl, hsz, _, Rr, h6, ((hsp'.below hb5).other (turned_setCell _ _ _) h5 (fun cur e => by injection e with _ e _; exact absurd e (by decide)) (fun cur e => by injection e with _ e _; exact absurd e (by decide))), hm⟩, _, rfl⟩⟩)
  rw [← ho]
  clear hb5 h5 h6 hsp' hB hsz hsp hm hb4 ho
  go_wp2_with fail
  go_ret
  exact HEnd.out
end
section
open Go Go.RowKit

theorem RunAt.mono {n m : Nat} {W : World} {r d : Nat} {s : ByteArray} {E : List Ct} (h : RunAt n W r d s E) (hm : m ≤ n) : RunAt m W r d s E := by
  obtain ⟨h1, sv, Rr, h2, h3, h4⟩ := h
  exact ⟨by omega, sv, Rr, h2, h3.weak hm, h4⟩
theorem RunAt.below {n : Nat} {w w' : World} {r d : Nat} {s : ByteArray} {E : List Ct} (h : RunAt n w r d s E) (hb : Below w.heap.size w w') : RunAt n w' r d s E := by
  obtain ⟨h1, sv, Rr, h2, h3, h4⟩ := h
  exact ⟨h1, sv, Rr, (hb.block _ (Array.getElem?_eq_some_iff.1 h2).1).trans h2, h3.below hb, h4⟩
/-- A change of a block that holds neither a run, nor spans, nor values. -/
theorem RunAt.other {n b : Nat} {w w' : World} {r d : Nat} {s : ByteArray} {E : List Ct} {o : Obj} (h : RunAt n w r d s E) (ht : Turned (fun k => k = b) w w') (ho : w.heap[b]? = some o) (h0 : r ≠ b) (h1 : ∀ cur, o ≠ .cells cur 110 (0, 0)) (h2 : ∀ cur, o ≠ .cells cur 92 (0, 0)) : RunAt n w' r d s E := by
  obtain ⟨e1, sv, Rr, e2, e3, e4⟩ := h
  exact ⟨e1, sv, Rr, (ht.block _ (Array.getElem?_eq_some_iff.1 e2).1 h0).trans e2, e3.other ht ho h1 h2, e4⟩
theorem ownSp_turn {Y : Nat → Prop} {B : Nat} {w w' : World} {v : Value} {R : List (Sp × Value)} (h : OwnSp B w v R) (ht : Turned Y w w') (hY : ∀ k, Y k → ∃ u t, w.heap[k]? = some (.cells #[u] t (0, 0)) ∧ t ≠ 110 ∧ t ≠ 92) : OwnSp B w' v R := by
  refine ⟨ownsRow_off h.1 ht (fun k hk e => ?_), fun x hx => ⟨ownsRow_off (h.2 x hx).1 ht (fun k hk e => ?_), (h.2 x hx).2⟩⟩
  · obtain ⟨-, cur, hc⟩ := ownsRow_block h.1 k hk
    obtain ⟨u, t, h1, h2, h3⟩ := hY k e
    rw [h1] at hc
    injection hc with hc
    injection hc with _ hc _
    exact h2 hc
  · obtain ⟨-, cur, hc⟩ := ownsRow_block (h.2 x hx).1 k hk
    obtain ⟨u, t, h1, h2, h3⟩ := hY k e
    rw [h1] at hc
    injection hc with hc
    injection hc with _ hc _
    exact h3 hc
set_option maxRecDepth 100000 in
set_option maxHeartbeats 4000000 in
theorem runOpen_any {Y : Nat → Prop} {d : Nat} (w : World) (s : ByteArray) (E : List Ct) (hF : FlAt w d s (runL E) Y) (h64 : s.size ≤ 64) (hE : E.length ≤ 1000) (hK : Kin E) (hR : IsRun E) (hL : (runL E).length ≤ 10000) (G : Glob w) :
    Calls Tryz.prog 26 #[.pointer (some ⟨d, 0, none⟩), .string s] w fun e w' => ∃ r, e = .returned (.tuple #[.pointer (some ⟨r, 0, none⟩), .int .i64 0]) ∧ RunAt w.heap.size w' r d s E ∧ Below w.heap.size w w' := by
  obtain ⟨wb, hwb⟩ : ∃ wb, wb = (w.alloc (.cells #[.pointer (some ⟨d, 0, none⟩)] 43)).alloc (.cells #[.string s] 9) := ⟨_, rfl⟩
  have hbb : Below w.heap.size w wb := by
    rw [hwb]
    exact ((Below.refl _ _).alloc (Nat.le_refl _) _).alloc (by simp) _
  have h0 : wb.heap[w.heap.size]? = some (.cells #[.pointer (some ⟨d, 0, none⟩)] 43 (0, 0)) := by
    rw [hwb]
    exact (Below.heap_alloc _ _ _ (by simp only [World.size_alloc]; omega)).trans (World.alloc_heap_new w _)
  have h1 : wb.heap[w.heap.size + 1]? = some (.cells #[.string s] 9 (0, 0)) := by
    rw [hwb]
    have n1 := World.alloc_heap_new (w.alloc (.cells #[.pointer (some ⟨d, 0, none⟩)] 43)) (.cells #[.string s] 9)
    simp only [World.size_alloc] at n1
    exact n1
  have HA := Lib.hid (answeredR_any 75 #[.pointer (some ⟨w.heap.size, 0, none⟩), .pointer (some ⟨w.heap.size + 1, 0, none⟩)] wb
    (fun v W => OpenR (wb.heap.size + 3) d s E v W ∧ W.heap[wb.heap.size + 1]? = some (.cells #[.pointer none] 53 (0, 0)) ∧ W.heap[wb.heap.size + 2]? = some (.cells #[.int .i64 0] 25 (0, 0))) (fun _ _ => False) (enters_of Tryz.func75 (by kernel_rfl) rfl)
    (fun wE hbE ⟨hsE, e1, e2⟩ => by
      have hb := hbb.trans (hbE.mono hbb.size)
      refine (open1_any _ _ wE s E (hF.below hb) ((hbE.block _ (Array.getElem?_eq_some_iff.1 h0).1).trans h0) ((hbE.block _ (Array.getElem?_eq_some_iff.1 h1).1).trans h1) h64 hE hK hR hL (G.below hb)).mono ?_
      rintro e W ⟨hB, ⟨v, rfl, hv, hp⟩ | ⟨_, _, hf⟩⟩
      · refine ⟨hB, .inl ⟨v, rfl, ⟨by rw [← hsE]; exact hv, ?_, ?_⟩, hp⟩⟩
        · exact (hB.block _ (Array.getElem?_eq_some_iff.1 e1).1).trans e1
        · exact (hB.block _ (Array.getElem?_eq_some_iff.1 e2).1).trans e2
      · exact hf.elim))
  have HB := Lib.hid hbb
  clear h0 h1 hbb hF h64 hE hK hR hL G
  go_enter Tryz.func26, Tryz.ntmps26
  go_wp2_with fail
  rw [← hwb]
  clear hwb
  refine HA.out.mono ?_
  rintro e w2 ⟨hb, W, ht, ⟨u, rfl, ⟨r, rfl, hr⟩, e1, e2⟩ | ⟨n, -, hf⟩⟩
  rotate_left
  · exact hf.elim
  have hrun : RunAt w.heap.size w2 r d s E := by
    have hsz := HB.out.size
    obtain ⟨q1, sv, Rr, q2, q3, q4⟩ := hr
    refine ⟨by omega, sv, Rr, (ht.block _ (Array.getElem?_eq_some_iff.1 q2).1 (by omega)).trans q2, (ownSp_turn q3 ht ?_).weak (by omega), q4⟩
    rintro k (rfl | rfl)
    · exact ⟨_, _, e1, by decide, by decide⟩
    · exact ⟨_, _, e2, by decide, by decide⟩
  have HE := Lib.hid (And.intro hrun (HB.out.trans (hb.mono HB.out.size)))
  clear hb ht hr e1 e2 hrun HA
  go_wp2_with fail
  go_ret2
  exact ⟨r, rfl, HE.out⟩
end
end Go.Proofs.YtdjhfcopnhcljaaGreatDoor
