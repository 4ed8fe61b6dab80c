/-
  parse.whole at Program and the call above it.
  Contract of parse.Program at any text.
-/
import Derived.Test.YtnbaemfkpfmheaaGreatDoorG06
namespace Go.Proofs.YtnbaemfkpfmheaaGreatDoor
section
open Go Go.RowKit Go.Shelf

/-- The deferred closure, where the frame panics. -/
theorem wprog_bad (p q : Addr) (x y : Value) (n : Nat) (w : World) (hc : w.cell? p = some x) (hz : w.frozen? p = false) (hq : (w.setCell p (.int .i64 n)).cell? q = some y) (hz2 : (w.setCell p (.int .i64 n)).frozen? q = false) :
    CallsD Tryz.prog 45 #[.pointer (some p), .pointer (some q)] (.panicking (misP n)) w fun e u' w' =>
      e = .returned (.tuple #[]) ∧ u' = .panicking [{ v := .iface 100 (.int .i64 n), recovered := true }] ∧ w' = (w.setCell p (.int .i64 n)).setCell q (.int .i64 130) := by
  have hta : ∀ W : World, (Instr.typeAssert (Value.iface 100 (.int .i64 n)) 20 100 false).run Tryz.prog W = .ok (.int .i64 n) W := fun W => by kernel_rfl
  refine callsD_of_wpS Tryz.func45 rfl fun c₀ cs hu => ?_
  apply wpS_seq
  apply wpS_region
  simp [wpOpsS, go_sem, recoverD, hu, misP, Tryz.ntmps45, Exit.thenS]
  apply wpS_seq
  apply wpS_region
  simp [wpOpsS, go_sem, Exit.thenS]
  refine wpS_cond (t := true) (by simp [Act.eval, Array.replicate]) ?_
  simp only [if_true]
  apply wpS_region
  simp [wpOpsS, go_sem, hta, hc, hz, hq, hz2, bodyPostS, results, Tryz.results45]
/-- The deferred closure, where the frame returns. -/
theorem wprog_idle (p q : Addr) (w : World) :
    CallsD Tryz.prog 45 #[.pointer (some p), .pointer (some q)] .returning w fun e u' w' => e = .returned (.tuple #[]) ∧ u' = .returning ∧ w' = w := by
  refine callsD_of_wpS Tryz.func45 rfl fun c₀ cs hu => ?_
  apply wpS_seq
  apply wpS_region
  simp [wpOpsS, go_sem, recoverD, hu, Tryz.ntmps45, Exit.thenS]
  apply wpS_seq
  apply wpS_region
  simp [wpOpsS, go_sem, Exit.thenS]
  refine wpS_cond (t := false) (by simp [Act.eval, Array.replicate]) ?_
  simp only [Bool.false_eq_true, if_false]
  refine wpS_of_wp (wp_skip ?_)
  cases c₀
  simp_all [bodyPostS, results, Tryz.results45]
set_option maxRecDepth 100000 in
set_option maxHeartbeats 4000000 in
theorem wprog_any (s : ByteArray) (w : World) (G : Glob w) :
    Calls Tryz.prog 21 #[.string s, .func (.func 22) #[] #[]] w (SayEnd progR prT (.agg #[.slice none 0 0, .slice none 0 0, .slice none 0 0]) s w) := by
  have mixed : Tryz.prog.follows .mixedOrders = true := by kernel_rfl
  have hmf : ∀ (fn : Fn) (first cap : Array Value) (w : World), (Instr.makeFunc fn first cap).run Tryz.prog w = .ok (.func fn first cap) w := fun _ _ _ _ => rfl
  have HG := Lib.hid G
  clear G
  go_enter_defers Tryz.func21, Tryz.ntmps21
  go_wp2_with fail
  refine (words_all s _ (HG.out.below ((((Below.refl _ w).alloc (Nat.le_refl _) _).alloc (by simp) _).alloc (by simp; omega) _))).mono ?_
  rintro y w1 ⟨⟨v, rfl, ho⟩, hb⟩
  obtain ⟨t4, t5, t6⟩ := three_at w zPr (.cells #[.int .i64 0] 3) (.cells #[.int .i64 0] 28)
  have r4 := (hb.block w.heap.size (by simp; omega)).trans t4
  have r5 := (hb.block (w.heap.size + 1) (by simp)).trans t5
  have r6 := (hb.block (w.heap.size + 2) (by simp)).trans t6
  have hz : w.heap.size + 3 ≤ w1.heap.size := by have := hb.size; simp at this; omega
  have HB : Hid (Below w.heap.size w w1) := Lib.hid (((((Below.refl _ w).alloc (Nat.le_refl _) _).alloc (by simp) _).alloc (by simp; omega) _).trans (hb.mono (by simp; omega)))
  obtain ⟨c4, f4⟩ := cells3 r4
  have c5 : w1.cell? ⟨w.heap.size + 1, 0, none⟩ = some (.int .i64 0) := cell_of_row w1 _ 0 _ _ (0, 0) r5
  have c6 : w1.cell? ⟨w.heap.size + 2, 0, none⟩ = some (.int .i64 0) := cell_of_row w1 _ 0 _ _ (0, 0) r6
  have f5 : w1.frozen? ⟨w.heap.size + 1, 0, none⟩ = false := frozen_of_row w1 _ 0 _ _ r5
  have f6 : w1.frozen? ⟨w.heap.size + 2, 0, none⟩ = false := frozen_of_row w1 _ 0 _ _ r6
  clear hb t4 t5 t6
  rcases words_ways s with ⟨hl, e⟩ | ⟨hs, n, hn, e⟩ | ⟨hs, hn, e⟩
  · skip
    rw [e]
    simp only
    clear ho
    go_wp2_with fail
    refine name_w fun X hX => ?_
    have R4 : X.heap[w.heap.size]? = some zPr := by rw [hX]; exact (heap_setCell_other _ ⟨w.heap.size + 2, 0, none⟩ _ _ (by show w.heap.size ≠ w.heap.size + 2; omega)).trans ((heap_setCell_other _ ⟨w.heap.size + 1, 0, none⟩ _ _ (by show w.heap.size ≠ w.heap.size + 1; omega)).trans r4)
    have R5 := (heap_setCell_same w1 _ 0 _ _ (.int .i64 0) r5)
    have R5 : X.heap[w.heap.size + 1]? = some (.cells #[.int .i64 0] 3 (0, 0)) := by rw [hX]; exact (heap_setCell_other _ ⟨w.heap.size + 2, 0, none⟩ _ _ (by show w.heap.size + 1 ≠ w.heap.size + 2; omega)).trans R5
    have R6 : X.heap[w.heap.size + 2]? = some (.cells #[.int .i64 2] 28 (0, 0)) := by rw [hX]; exact heap_setCell_same _ _ 0 _ _ (.int .i64 2) ((heap_setCell_other _ ⟨w.heap.size + 1, 0, none⟩ _ _ (by show w.heap.size + 2 ≠ w.heap.size + 1; omega)).trans r6)
    have HXb : Hid (Below w.heap.size w X) := Lib.hid (by rw [hX]; exact (HB.out.setCell (by simp) _).setCell (by show w.heap.size ≤ w.heap.size + 2; omega) _)
    clear hX r4 r5 r6 c4 c5 c6 f4 f5 f6
    obtain ⟨c4, f4⟩ := cells3 R4
    have c5 : X.cell? ⟨w.heap.size + 1, 0, none⟩ = some (.int .i64 0) := cell_of_row X _ 0 _ _ (0, 0) R5
    have c6 : X.cell? ⟨w.heap.size + 2, 0, none⟩ = some (.int .i64 2) := cell_of_row X _ 0 _ _ (0, 0) R6
    have f5 : X.frozen? ⟨w.heap.size + 1, 0, none⟩ = false := frozen_of_row X _ 0 _ _ R5
    have f6 : X.frozen? ⟨w.heap.size + 2, 0, none⟩ = false := frozen_of_row X _ 0 _ _ R6
    go_region
    go_wp2_with fail
    have HQ := Lib.hid (fin3_at R4 R5 R6 (.slice none 0 0) (.slice none 0 0) (.slice none 0 0) (.int .i64 0) (.int .i64 2))
    have HF : Hid (Below w.heap.size w _) := Lib.hid (fin3_below HXb.out (.slice none 0 0) (.slice none 0 0) (.slice none 0 0) (.int .i64 0) (.int .i64 2))
    obtain ⟨q4, q5, q6⟩ := HQ.out
    clear c4 f4 c5 c6 f5 f6 R4 R5 R6
    obtain ⟨p4, -⟩ := cells3 q4
    have p5 := cell_of_row _ _ 0 _ _ (0, 0) q5
    have p6 := cell_of_row _ _ 0 _ _ (0, 0) q6
    clear q4 q5 q6
    simp [bodyPostD, Leaves, results, Tryz.results21, go_sem, p4, p5, p6]
    exact ⟨HF.out.drew, .inr (.inr (.inr ⟨hl, rfl⟩))⟩
  · skip
    rw [e]
    simp only
    clear ho
    go_wp2_with fail
    refine name_w fun X hX => ?_
    have R4 : X.heap[w.heap.size]? = some zPr := by rw [hX]; exact (heap_setCell_other _ ⟨w.heap.size + 2, 0, none⟩ _ _ (by show w.heap.size ≠ w.heap.size + 2; omega)).trans ((heap_setCell_other _ ⟨w.heap.size + 1, 0, none⟩ _ _ (by show w.heap.size ≠ w.heap.size + 1; omega)).trans r4)
    have R5 := (heap_setCell_same w1 _ 0 _ _ (.int .i64 n) r5)
    have R5 : X.heap[w.heap.size + 1]? = some (.cells #[.int .i64 n] 3 (0, 0)) := by rw [hX]; exact (heap_setCell_other _ ⟨w.heap.size + 2, 0, none⟩ _ _ (by show w.heap.size + 1 ≠ w.heap.size + 2; omega)).trans R5
    have R6 : X.heap[w.heap.size + 2]? = some (.cells #[.int .i64 120] 28 (0, 0)) := by rw [hX]; exact heap_setCell_same _ _ 0 _ _ (.int .i64 120) ((heap_setCell_other _ ⟨w.heap.size + 1, 0, none⟩ _ _ (by show w.heap.size + 2 ≠ w.heap.size + 1; omega)).trans r6)
    have HXb : Hid (Below w.heap.size w X) := Lib.hid (by rw [hX]; exact (HB.out.setCell (by simp) _).setCell (by show w.heap.size ≤ w.heap.size + 2; omega) _)
    clear hX r4 r5 r6 c4 c5 c6 f4 f5 f6
    obtain ⟨c4, f4⟩ := cells3 R4
    have c5 : X.cell? ⟨w.heap.size + 1, 0, none⟩ = some (.int .i64 n) := cell_of_row X _ 0 _ _ (0, 0) R5
    have c6 : X.cell? ⟨w.heap.size + 2, 0, none⟩ = some (.int .i64 120) := cell_of_row X _ 0 _ _ (0, 0) R6
    have f5 : X.frozen? ⟨w.heap.size + 1, 0, none⟩ = false := frozen_of_row X _ 0 _ _ R5
    have f6 : X.frozen? ⟨w.heap.size + 2, 0, none⟩ = false := frozen_of_row X _ 0 _ _ R6
    go_region
    go_wp2_with fail
    have HQ := Lib.hid (fin3_at R4 R5 R6 (.slice none 0 0) (.slice none 0 0) (.slice none 0 0) (.int .i64 n) (.int .i64 120))
    have HF : Hid (Below w.heap.size w _) := Lib.hid (fin3_below HXb.out (.slice none 0 0) (.slice none 0 0) (.slice none 0 0) (.int .i64 n) (.int .i64 120))
    obtain ⟨q4, q5, q6⟩ := HQ.out
    clear c4 f4 c5 c6 f5 f6 R4 R5 R6
    obtain ⟨p4, -⟩ := cells3 q4
    have p5 := cell_of_row _ _ 0 _ _ (0, 0) q5
    have p6 := cell_of_row _ _ 0 _ _ (0, 0) q6
    clear q4 q5 q6
    simp [bodyPostD, Leaves, results, Tryz.results21, go_sem, p4, p5, p6]
    exact ⟨HF.out.drew, .inr (.inr (.inl ⟨hs, n, sayOf_lex hn, rfl⟩))⟩
  · rw [e]
    simp only
    have HLd := Lib.hid (lexS_len (V := valL) _ s.data.toList 0 (Nat.le_refl _))
    have HTd := Lib.hid (lexS_tidy (V := valL) _ s.data.toList 0 (Nat.le_refl _) hn)
    rw [e] at ho
    simp only at ho
    obtain ⟨L, hL⟩ : ∃ L, L = (lexS valL s.data.toList 0).1 := ⟨_, rfl⟩
    rw [← hL] at ho HLd HTd
    have hin := ho.in_ (fun k => w.heap.size + 3 ≤ k ∧ k < w1.heap.size) (fun k e => by have := ho.lt k e; simp at this; omega)
    obtain ⟨pw, cw, rfl, -⟩ := id hin
    have HS := Lib.hid (And.intro hn hL)
    have HI := Lib.hid hin
    have hsz0 : (0 : Int) ≤ (s.size : Int) := by omega
    clear ho hin hn hL e
    go_wp2_with fail
    refine name_c fun X hX => ?_
    have R4 : X.heap[w.heap.size]? = some zPr := by rw [hX]; exact (Below.heap_alloc _ _ _ (by simp; omega)).trans ((heap_setCell_other _ ⟨w.heap.size + 2, 0, none⟩ _ _ (by show w.heap.size ≠ w.heap.size + 2; omega)).trans ((heap_setCell_other _ ⟨w.heap.size + 1, 0, none⟩ _ _ (by show w.heap.size ≠ w.heap.size + 1; omega)).trans r4))
    have R5 := (heap_setCell_same w1 _ 0 _ _ (.int .i64 0) r5)
    have R5 : X.heap[w.heap.size + 1]? = some (.cells #[.int .i64 0] 3 (0, 0)) := by rw [hX]; exact (Below.heap_alloc _ _ _ (by simp; omega)).trans ((heap_setCell_other _ ⟨w.heap.size + 2, 0, none⟩ _ _ (by show w.heap.size + 1 ≠ w.heap.size + 2; omega)).trans R5)
    have R6 : X.heap[w.heap.size + 2]? = some (.cells #[.int .i64 0] 28 (0, 0)) := by rw [hX]; exact (Below.heap_alloc _ _ _ (by simp; omega)).trans (heap_setCell_same _ _ 0 _ _ (.int .i64 0) ((heap_setCell_other _ ⟨w.heap.size + 1, 0, none⟩ _ _ (by show w.heap.size + 2 ≠ w.heap.size + 1; omega)).trans r6))
    have hXs : X.heap.size = w1.heap.size + 1 := by rw [hX]; simp
    have HXb : Hid (Below w.heap.size w X) := Lib.hid (by rw [hX]; exact ((HB.out.setCell (by simp) _).setCell (by show w.heap.size ≤ w.heap.size + 2; omega) _).alloc (by simp; omega) _)
    have HRX : Hid (Rp (w1.heap.size + 1) X w1.heap.size L s.size) := Lib.hid (by
      refine ⟨⟨.slice pw L.length cw, ?_, ?_⟩, HTd.out, ?_, Nat.lt_succ_self _, by omega⟩
      · rw [hX]
        have := heap_alloc_new ((w1.setCell ⟨w.heap.size + 1, 0, none⟩ (.int .i64 0)).setCell ⟨w.heap.size + 1 + 1, 0, none⟩ (.int .i64 0)) (.cells #[.slice pw L.length cw, .int .i64 s.size] 104)
        rw [show ((w1.setCell ⟨w.heap.size + 1, 0, none⟩ (.int .i64 0)).setCell ⟨w.heap.size + 1 + 1, 0, none⟩ (.int .i64 0)).heap.size = w1.heap.size by simp] at this
        exact this
      · refine HI.out.keep (by omega) fun k e hk => ⟨by omega, ?_⟩
        rw [hX]
        exact (Below.heap_alloc _ _ _ (by simp; omega)).trans ((heap_setCell_other _ ⟨w.heap.size + 1 + 1, 0, none⟩ _ _ (by show k ≠ w.heap.size + 1 + 1; omega)).trans (heap_setCell_other _ ⟨w.heap.size + 1, 0, none⟩ _ _ (by show k ≠ w.heap.size + 1; omega)))
      · have := HLd.out
        rw [← Lib.size_eq] at this
        omega)
    clear hX r4 r5 r6 c4 c5 c6 f4 f5 f6
    have HRw := Lib.hid (And.intro R4 (And.intro R5 R6))
    clear R4 R5 R6
    refine (pprogram_any HRX.out).mono ?_
    rintro y w2 ⟨ht, ⟨a, L', v2, hp, hsuf, rfl, hv, hr⟩ | ⟨L', hp, hsuf, rfl⟩⟩
    · have hsz2 := ht.size
      have r4 := (ht.block _ (by omega) (by omega)).trans HRw.out.1
      have r5 := (ht.block _ (by omega) (by omega)).trans HRw.out.2.1
      have r6 := (ht.block _ (by omega) (by omega)).trans HRw.out.2.2
      obtain ⟨u, x, y, rfl, h1, h2, h3⟩ := hv
      obtain ⟨q1, n1, k1, rfl⟩ : ∃ q n k, u = .slice q n k := (by obtain ⟨q, k, e, -⟩ := id h1; exact ⟨_, _, _, e⟩)
      obtain ⟨q2, n2, k2, rfl⟩ : ∃ q n k, x = .slice q n k := (by obtain ⟨q, k, e, -⟩ := id h2; exact ⟨_, _, _, e⟩)
      obtain ⟨q3, n3, k3, rfl⟩ : ∃ q n k, y = .slice q n k := (by obtain ⟨q, k, e, -⟩ := id h3; exact ⟨_, _, _, e⟩)
      have HV := Lib.hid (And.intro h1 (And.intro h2 h3))
      obtain ⟨vw, hvw, pv, cv, rfl, -⟩ := hr.row
      have HE := Lib.hid (And.intro ht (And.intro hp (And.intro hsuf hr)))
      have HR2 := Lib.hid (And.intro r4 (And.intro r5 r6))
      have HW2 := Lib.hid hvw
      clear ht hp hsuf hr r4 r5 r6 hvw h1 h2 h3
      go_wp2_with fail
      refine name_w fun X7 hX7 => ?_
      have HO7 : Hid (Below w2.heap.size w2 X7) := Lib.hid (by rw [hX7]; exact (Below.refl _ w2).alloc (Nat.le_refl _) _)
      have b9 : X7.heap[w2.heap.size]? = some (.cells #[.slice q1 n1 k1, .slice q2 n2 k2, .slice q3 n3 k3] 27 (0, 0)) := by rw [hX7]; exact heap_alloc_new w2 _
      have hs7 : X7.heap.size = w2.heap.size + 1 := by rw [hX7]; simp
      clear hX7
      have cR : X7.cell? ⟨w1.heap.size, 0, none⟩ = some (.slice pv L'.length cv) := cell_of_row X7 _ 0 _ _ (0, 0) ((HO7.out.block _ (by omega)).trans HW2.out)
      have HR7 := Lib.hid (HE.out.2.2.2.below HO7.out)
      have h4 := (HO7.out.block _ (by omega)).trans HR2.out.1
      have h5 := (HO7.out.block _ (by omega)).trans HR2.out.2.1
      have h6 := (HO7.out.block _ (by omega)).trans HR2.out.2.2
      have HRows := Lib.hid (And.intro h4 (And.intro h5 h6))
      obtain ⟨x4, f4⟩ := cells3 h4
      have x5 : X7.cell? ⟨w.heap.size + 1, 0, none⟩ = some (.int .i64 0) := cell_of_row X7 _ 0 _ _ (0, 0) h5
      have x6 : X7.cell? ⟨w.heap.size + 1 + 1, 0, none⟩ = some (.int .i64 0) := cell_of_row X7 _ 0 _ _ (0, 0) h6
      have f5 : X7.frozen? ⟨w.heap.size + 1, 0, none⟩ = false := frozen_of_row X7 _ 0 _ _ h5
      have f6 : X7.frozen? ⟨w.heap.size + 1 + 1, 0, none⟩ = false := frozen_of_row X7 _ 0 _ _ h6
      obtain ⟨x9, -⟩ := cells3 b9
      have HX7b : Hid (Below w.heap.size w X7) := Lib.hid ((HXb.out.trans (HE.out.1.below (by omega) (fun k e => by omega))).trans (HO7.out.mono (by omega)))
      clear h4 h5 h6 b9
      cases L' with
      | nil =>
        have hl0 : ((([] : List Wd).length : Nat) : Int) = 0 := rfl
        refine region_tail 10 mixed (by kernel_rfl) ?_
        simp only [List.take_succ_cons, List.take_zero, List.drop_succ_cons, List.drop_zero]
        iterate 10 still_step
        refine wpStill_nil ?_
        go_wp2_with fail
        refine (pneed_yes _ _).mono ?_
        rintro y w3 ⟨rfl, rfl⟩
        go_wp2_with fail
        refine leaves_cons (f := 45) (args := #[.pointer (some ⟨w.heap.size + 1, 0, none⟩), .pointer (some ⟨w.heap.size + 1 + 1, 0, none⟩)]) (by simp) (by simp [go_sem]) ?_
        refine (wprog_idle _ _ _).mono ?_
        rintro e u' w'' ⟨rfl, rfl, rfl⟩
        have HQ := Lib.hid (fin3_at HRows.out.1 HRows.out.2.1 HRows.out.2.2 (.slice q1 n1 k1) (.slice q2 n2 k2) (.slice q3 n3 k3) (.int .i64 0) (.int .i64 0))
        have HF : Hid (Below w.heap.size w _) := Lib.hid (fin3_below HX7b.out (.slice q1 n1 k1) (.slice q2 n2 k2) (.slice q3 n3 k3) (.int .i64 0) (.int .i64 0))
        obtain ⟨q4, q5, q6⟩ := HQ.out
        clear x4 f4 x5 x6 f5 f6 x9
        obtain ⟨p4, -⟩ := cells3 q4
        have p5 := cell_of_row _ _ 0 _ _ (0, 0) q5
        have p6 := cell_of_row _ _ 0 _ _ (0, 0) q6
        clear q4 q5 q6
        simp [Leaves, settle, results, Tryz.results21, go_sem, p4, p5, p6]
        have hkp : ∀ k, X.heap.size ≤ k → k < w2.heap.size → X7.heap[k]? = w2.heap[k]? := fun k _ hk => HO7.out.block k hk
        obtain ⟨ht, hp, hsuf, hr⟩ := HE.out
        refine ⟨HF.out.drew, .inl ⟨hs, a, _, ?_, rfl, ⟨_, _, _, rfl, ?_, ?_, ?_⟩⟩⟩
        · rcases say_ok HS.out.1 HS.out.2 hp hsuf (show s.size = s.data.toList.length from Lib.size_eq s) with ⟨-, h⟩ | ⟨h, -⟩
          · exact h
          · exact absurd rfl h
        · exact RowIn.keep HV.out.1 (by have := HO7.out.size; simp; omega) fun k e hk => ⟨by omega, ((heap_setCell_other _ ⟨w.heap.size + 1 + 1, 0, none⟩ k _ (by show k ≠ w.heap.size + 1 + 1; omega)).trans ((heap_setCell_other _ ⟨w.heap.size + 1, 0, none⟩ k _ (by show k ≠ w.heap.size + 1; omega)).trans ((heap_setCell_other _ ⟨w.heap.size, 2, none⟩ k _ (by show k ≠ w.heap.size; omega)).trans ((heap_setCell_other _ ⟨w.heap.size, 1, none⟩ k _ (by show k ≠ w.heap.size; omega)).trans (heap_setCell_other _ ⟨w.heap.size, 0, none⟩ k _ (by show k ≠ w.heap.size; omega)))))).trans (hkp k e hk)⟩
        · exact RowIn.keep HV.out.2.1 (by have := HO7.out.size; simp; omega) fun k e hk => ⟨by omega, ((heap_setCell_other _ ⟨w.heap.size + 1 + 1, 0, none⟩ k _ (by show k ≠ w.heap.size + 1 + 1; omega)).trans ((heap_setCell_other _ ⟨w.heap.size + 1, 0, none⟩ k _ (by show k ≠ w.heap.size + 1; omega)).trans ((heap_setCell_other _ ⟨w.heap.size, 2, none⟩ k _ (by show k ≠ w.heap.size; omega)).trans ((heap_setCell_other _ ⟨w.heap.size, 1, none⟩ k _ (by show k ≠ w.heap.size; omega)).trans (heap_setCell_other _ ⟨w.heap.size, 0, none⟩ k _ (by show k ≠ w.heap.size; omega)))))).trans (hkp k e hk)⟩
        · exact RowIn.keep HV.out.2.2 (by have := HO7.out.size; simp; omega) fun k e hk => ⟨by omega, ((heap_setCell_other _ ⟨w.heap.size + 1 + 1, 0, none⟩ k _ (by show k ≠ w.heap.size + 1 + 1; omega)).trans ((heap_setCell_other _ ⟨w.heap.size + 1, 0, none⟩ k _ (by show k ≠ w.heap.size + 1; omega)).trans ((heap_setCell_other _ ⟨w.heap.size, 2, none⟩ k _ (by show k ≠ w.heap.size; omega)).trans ((heap_setCell_other _ ⟨w.heap.size, 1, none⟩ k _ (by show k ≠ w.heap.size; omega)).trans (heap_setCell_other _ ⟨w.heap.size, 0, none⟩ k _ (by show k ≠ w.heap.size; omega)))))).trans (hkp k e hk)⟩
      | cons t L3 =>
        have hl0 : (((t :: L3).length : Nat) : Int) = (L3.length : Int) + 1 := by simp
        have hl1 : ¬ (L3.length : Int) + 1 = 0 := by omega
        refine region_tail 10 mixed (by kernel_rfl) ?_
        simp only [List.take_succ_cons, List.take_zero, List.drop_succ_cons, List.drop_zero]
        iterate 10 still_step
        refine wpStill_nil ?_
        go_wp2_with fail
        refine (pneed_no HR7.out.drew).mono ?_
        rintro y w3 ⟨rfl, hb3⟩
        have hs3 : X7.heap.size ≤ w3.heap.size := hb3.size
        have g4 := (hb3.block _ (show w.heap.size < X7.heap.size by omega)).trans HRows.out.1
        have g5 := (hb3.block _ (show w.heap.size + 1 < X7.heap.size by omega)).trans HRows.out.2.1
        have g6 := (hb3.block _ (show w.heap.size + 2 < X7.heap.size by omega)).trans HRows.out.2.2
        have HP : Hid (Below w.heap.size w w3) := Lib.hid (HX7b.out.trans ((⟨hb3.os, hb3.tape, hb3.output, hb3.size, hb3.block⟩ : Below X7.heap.size X7 w3).mono (by omega)))
        have HSay : Hid (sayOf valL progR s.data.toList = .bad (hereW s.size (t :: L3))) := Lib.hid (by
          rcases say_ok HS.out.1 HS.out.2 HE.out.2.1 HE.out.2.2.1 (show s.size = s.data.toList.length from Lib.size_eq s) with ⟨h, -⟩ | ⟨-, h⟩
          · cases h
          · exact h)
        clear x4 f4 x5 x6 f5 f6 x9 hb3
        obtain ⟨m, hm⟩ : ∃ m, m = hereW s.size (t :: L3) := ⟨_, rfl⟩
        rw [← hm] at HSay ⊢
        have k5 : w3.cell? ⟨w.heap.size + 1, 0, none⟩ = some (.int .i64 0) := cell_of_row w3 _ 0 _ _ (0, 0) g5
        have k5z : w3.frozen? ⟨w.heap.size + 1, 0, none⟩ = false := frozen_of_row w3 _ 0 _ _ g5
        have g6' := (heap_setCell_other w3 ⟨w.heap.size + 1, 0, none⟩ (w.heap.size + 2) (.int .i64 m) (by show w.heap.size + 2 ≠ w.heap.size + 1; omega)).trans g6
        have k6 : (w3.setCell ⟨w.heap.size + 1, 0, none⟩ (.int .i64 m)).cell? ⟨w.heap.size + 1 + 1, 0, none⟩ = some (.int .i64 0) := cell_of_row _ _ 0 _ _ (0, 0) g6'
        have k6z : (w3.setCell ⟨w.heap.size + 1, 0, none⟩ (.int .i64 m)).frozen? ⟨w.heap.size + 1 + 1, 0, none⟩ = false := frozen_of_row _ _ 0 _ _ g6'
        have HK := Lib.hid (And.intro (And.intro k5 k5z) (And.intro k6 k6z))
        have HQ := Lib.hid (finP_at g4 g5 g6 m)
        clear hm g4 g5 g6 g6' k5 k5z k6 k6z
        go_wp2_with fail
        refine leaves_cons (f := 45) (args := #[.pointer (some ⟨w.heap.size + 1, 0, none⟩), .pointer (some ⟨w.heap.size + 1 + 1, 0, none⟩)]) (by simp) (by simp [go_sem]) ?_
        refine (wprog_bad ⟨w.heap.size + 1, 0, none⟩ ⟨w.heap.size + 1 + 1, 0, none⟩ _ _ m w3 HK.out.1.1 HK.out.1.2 HK.out.2.1 HK.out.2.2).mono ?_
        rintro e u' w'' ⟨rfl, rfl, rfl⟩
        obtain ⟨q4, q5, q6⟩ := HQ.out
        obtain ⟨p4, -⟩ := cells3 q4
        have p5 := cell_of_row _ _ 0 _ _ (0, 0) q5
        have p6 := cell_of_row _ _ 0 _ _ (0, 0) q6
        clear q4 q5 q6
        simp [Leaves, settle, results, Tryz.results21, go_sem, p4, p5, p6]
        exact ⟨(HP.out.setCell (by show w.heap.size ≤ w.heap.size + 1; omega) _).setCell (by show w.heap.size ≤ w.heap.size + 1 + 1; omega) _, .inr (.inl ⟨hs, m, HSay.out, rfl⟩)⟩
    · have hsz2 := ht.size
      have g4 := (ht.block _ (by omega) (by omega)).trans HRw.out.1
      have g5 := (ht.block _ (by omega) (by omega)).trans HRw.out.2.1
      have g6 := (ht.block _ (by omega) (by omega)).trans HRw.out.2.2
      have HP : Hid (Below w.heap.size w w2) := Lib.hid (HXb.out.trans (ht.below (by omega) (fun k e => by omega)))
      have HSay : Hid (sayOf valL progR s.data.toList = .bad (hereW s.size L')) := Lib.hid (say_bad HS.out.1 HS.out.2 hp hsuf (Lib.size_eq s))
      clear ht hp hsuf
      obtain ⟨m, hm⟩ : ∃ m, m = hereW s.size L' := ⟨_, rfl⟩
      rw [← hm] at HSay ⊢
      have k5 : w2.cell? ⟨w.heap.size + 1, 0, none⟩ = some (.int .i64 0) := cell_of_row w2 _ 0 _ _ (0, 0) g5
      have k5z : w2.frozen? ⟨w.heap.size + 1, 0, none⟩ = false := frozen_of_row w2 _ 0 _ _ g5
      have g6' := (heap_setCell_other w2 ⟨w.heap.size + 1, 0, none⟩ (w.heap.size + 2) (.int .i64 m) (by show w.heap.size + 2 ≠ w.heap.size + 1; omega)).trans g6
      have k6 : (w2.setCell ⟨w.heap.size + 1, 0, none⟩ (.int .i64 m)).cell? ⟨w.heap.size + 1 + 1, 0, none⟩ = some (.int .i64 0) := cell_of_row _ _ 0 _ _ (0, 0) g6'
      have k6z : (w2.setCell ⟨w.heap.size + 1, 0, none⟩ (.int .i64 m)).frozen? ⟨w.heap.size + 1 + 1, 0, none⟩ = false := frozen_of_row _ _ 0 _ _ g6'
      have HK := Lib.hid (And.intro (And.intro k5 k5z) (And.intro k6 k6z))
      have HQ := Lib.hid (finP_at g4 g5 g6 m)
      clear hm g4 g5 g6 g6' k5 k5z k6 k6z
      go_wp2_with fail
      refine leaves_cons (f := 45) (args := #[.pointer (some ⟨w.heap.size + 1, 0, none⟩), .pointer (some ⟨w.heap.size + 1 + 1, 0, none⟩)]) (by simp) (by simp [go_sem]) ?_
      refine (wprog_bad ⟨w.heap.size + 1, 0, none⟩ ⟨w.heap.size + 1 + 1, 0, none⟩ _ _ m w2 HK.out.1.1 HK.out.1.2 HK.out.2.1 HK.out.2.2).mono ?_
      rintro e u' w'' ⟨rfl, rfl, rfl⟩
      obtain ⟨q4, q5, q6⟩ := HQ.out
      obtain ⟨p4, -⟩ := cells3 q4
      have p5 := cell_of_row _ _ 0 _ _ (0, 0) q5
      have p6 := cell_of_row _ _ 0 _ _ (0, 0) q6
      clear q4 q5 q6
      simp [Leaves, settle, results, Tryz.results21, go_sem, p4, p5, p6]
      exact ⟨(HP.out.setCell (by show w.heap.size ≤ w.heap.size + 1; omega) _).setCell (by show w.heap.size ≤ w.heap.size + 1 + 1; omega) _, .inr (.inl ⟨hs, m, HSay.out, rfl⟩)⟩
end
section
open Go Go.RowKit Go.Shelf

theorem setnV1_below {w X : World} {B : Nat} {y0 y1 y2 : Value} (h : Below B w X) : Below B w (((X.setCell ⟨B, 0, none⟩ y0).setCell ⟨B, 1, none⟩ y1).setCell ⟨B, 2, none⟩ y2) := by
  iterate 3 refine Below.setCell ?_ (by exact Nat.le_refl _) _
  exact h
set_option maxRecDepth 100000 in
set_option maxHeartbeats 4000000 in
theorem parseProgram_any (s : ByteArray) (w : World) (G : Glob w) : Calls Tryz.prog 7 #[.string s] w (SayEnd progR prT (.agg #[.slice none 0 0, .slice none 0 0, .slice none 0 0]) s w) := by
  have HW := Lib.hid (wprog_any s (w.alloc zPr) (G.below ((Below.refl _ w).alloc (Nat.le_refl _) _)))
  clear G
  go_enter Tryz.func7, Tryz.ntmps7
  go_wp2_with fail
  refine HW.out.mono ?_
  rintro y w1 ⟨hb, hways⟩
  have hz : w.heap.size < w1.heap.size := by have := hb.size; simp at this; omega
  have r2 := (hb.block w.heap.size (by simp)).trans (heap_alloc_new w zPr)
  have HB : Hid (Below w.heap.size w w1) := Lib.hid (((Below.refl _ w).alloc (Nat.le_refl _) _).trans (hb.mono (by simp)))
  obtain ⟨c2, f2⟩ := cells3 r2
  clear hb
  rcases hways with ⟨hs, a, v, hsay, rfl, hv⟩ | ⟨hs, n, hsay, rfl⟩ | ⟨hs, n, hsay, rfl⟩ | ⟨hl, rfl⟩
  · obtain ⟨u, x, y, rfl, h1, h2, h3⟩ := hv
    obtain ⟨q0, n0, k0, rfl⟩ : ∃ q n k, u = .slice q n k := (by obtain ⟨q, k, e, -⟩ := id h1; exact ⟨_, _, _, e⟩)
    obtain ⟨q1, n1, k1, rfl⟩ : ∃ q n k, x = .slice q n k := (by obtain ⟨q, k, e, -⟩ := id h2; exact ⟨_, _, _, e⟩)
    obtain ⟨q2, n2, k2, rfl⟩ : ∃ q n k, y = .slice q n k := (by obtain ⟨q, k, e, -⟩ := id h3; exact ⟨_, _, _, e⟩)
    have HV := Lib.hid (And.intro h1 (And.intro h2 h3))
    have HS := Lib.hid hsay
    clear h1 h2 h3 hsay
    go_wp2_with fail
    have HQ := Lib.hid (rowS3_set (y0 := .slice q0 n0 k0) (y1 := .slice q1 n1 k1) (y2 := .slice q2 n2 k2) r2)
    clear c2 f2 r2
    obtain ⟨p2, -⟩ := cells3 HQ.out
    refine bodyPost_ret (v := .tuple #[.agg #[.slice q0 n0 k0, .slice q1 n1 k1, .slice q2 n2 k2], .int .i64 0, .int .i64 0]) (by simp [results, Tryz.results7, go_sem, p2]) rfl ⟨setnV1_below HB.out, .inl ⟨hs, a, _, HS.out, rfl, ⟨_, _, _, rfl, ?_, ?_, ?_⟩⟩⟩
    · exact RowIn.keep HV.out.1 (by simp) fun k e hk => ⟨by simp at e; omega, by simp at e; exact set3_off (by omega)⟩
    · exact RowIn.keep HV.out.2.1 (by simp) fun k e hk => ⟨by simp at e; omega, by simp at e; exact set3_off (by omega)⟩
    · exact RowIn.keep HV.out.2.2 (by simp) fun k e hk => ⟨by simp at e; omega, by simp at e; exact set3_off (by omega)⟩
  · have HS := Lib.hid hsay
    clear hsay
    go_wp2_with fail
    have HQ := Lib.hid (rowS3_set (y0 := .slice none 0 0) (y1 := .slice none 0 0) (y2 := .slice none 0 0) r2)
    clear c2 f2 r2
    obtain ⟨p2, -⟩ := cells3 HQ.out
    refine bodyPost_ret (v := .tuple #[.agg #[.slice none 0 0, .slice none 0 0, .slice none 0 0], .int .i64 n, .int .i64 130]) (by simp [results, Tryz.results7, go_sem, p2]) rfl ⟨setnV1_below HB.out, .inr (.inl ⟨hs, n, HS.out, rfl⟩)⟩
  · have HS := Lib.hid hsay
    clear hsay
    go_wp2_with fail
    have HQ := Lib.hid (rowS3_set (y0 := .slice none 0 0) (y1 := .slice none 0 0) (y2 := .slice none 0 0) r2)
    clear c2 f2 r2
    obtain ⟨p2, -⟩ := cells3 HQ.out
    refine bodyPost_ret (v := .tuple #[.agg #[.slice none 0 0, .slice none 0 0, .slice none 0 0], .int .i64 n, .int .i64 120]) (by simp [results, Tryz.results7, go_sem, p2]) rfl ⟨setnV1_below HB.out, .inr (.inr (.inl ⟨hs, n, HS.out, rfl⟩))⟩
  · skip
    go_wp2_with fail
    have HQ := Lib.hid (rowS3_set (y0 := .slice none 0 0) (y1 := .slice none 0 0) (y2 := .slice none 0 0) r2)
    clear c2 f2 r2
    obtain ⟨p2, -⟩ := cells3 HQ.out
    refine bodyPost_ret (v := .tuple #[.agg #[.slice none 0 0, .slice none 0 0, .slice none 0 0], .int .i64 0, .int .i64 2]) (by simp [results, Tryz.results7, go_sem, p2]) rfl ⟨setnV1_below HB.out, .inr (.inr (.inr ⟨hl, rfl⟩))⟩
end
end Go.Proofs.YtnbaemfkpfmheaaGreatDoor
