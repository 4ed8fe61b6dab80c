/-
  Walk of the law LexCovers.
-/
import Derived.Test.YtiokdlomfmkkoaaDoorLxWm
namespace Go.Proofs.YtiokdlomfmkkoaaDoor
open Go Go.RowKit

theorem wordsL_bad {l : List UInt8} (h : (wordsL l).2.2 ≠ 0) : (wordsL l).1 = [] := by
  unfold wordsL at h ⊢
  split
  · rfl
  · rename_i hl
    rw [if_neg hl] at h
    cases e : (lexS valL l 0).2 with
    | none => rw [e] at h; exact absurd rfl h
    | some n => rfl
theorem cover_facts {l : List UInt8} (h : (wordsL l).2.2 = 0) : Cov l 0 (wordsL l).1 := by
  obtain ⟨h1, h2⟩ := wordsL_ok h
  rw [h2]
  exact lexS_cov (V := valL) _ l 0 (Nat.le_refl _) (Nat.zero_le _) h1
/-- What is left at a round. -/
theorem cov_step {s : List UInt8} {e : Nat} {L : List Wd} {k : Nat} (hk : k < L.length) (h : Cov s e (L.drop k)) :
    e ≤ L[k].pos ∧ 1 ≤ L[k].text.length ∧ L[k].pos + L[k].text.length ≤ s.length ∧ (s.drop L[k].pos).take L[k].text.length = L[k].text ∧ skC false ((s.drop e).take (L[k].pos - e)) = L[k].pos - e ∧ Cov s (L[k].pos + L[k].text.length) (L.drop (k + 1)) := by
  rw [List.drop_eq_getElem_cons hk] at h
  exact h
set_option maxHeartbeats 8000000 in
set_option maxRecDepth 100000 in
theorem lexCovers_walk (s : ByteArray) (w : World) (hm : s.size ≤ maxLen) (G : Glob w) :
    Calls Tryd.prog 6 #[.string s] w fun e w' => e = .returned (.bool true) ∧ Below w.heap.size w w' := by
  have HC := Lib.hid (fun W => lcut_any s W hm)
  obtain ⟨C, hC⟩ : ∃ C, C = cutX s := ⟨_, rfl⟩
  have hz := cutX_size s
  rw [← hC] at HC hz
  clear hC
  have HG := Lib.hid G
  have HW := Lib.hid (fun W G => words_any C W (by omega) G)
  have HLen := Lib.hid (wordsL_len C (by omega))
  have HCv := Lib.hid (cover_facts (l := C.data.toList))
  have HNo := Lib.hid (wordsL_bad (l := C.data.toList))
  obtain ⟨⟨L, n, g⟩, hR⟩ : ∃ R, R = wordsL C.data.toList := ⟨_, rfl⟩
  rw [← hR] at HW HLen HCv HNo
  simp only at HW HLen HCv HNo
  clear hR G
  have hz' : (C.size : Int) ≤ 3000 := by omega
  by_cases hg : g = 0
  · have HCov := Lib.hid (HCv.out hg)
    subst hg
    clear HCv HNo
    go_enter Tryd.func6, Tryd.ntmps6
    go_wp2_with (first
      | (go_at_call 13; refine (awake_true w HG.out).mono ?_; rintro e w0 ⟨rfl, hb⟩; have HB0 := Lib.hid hb; clear hb)
      | (go_at_call 9; refine (HC.out _).mono ?_; rintro e w1 ⟨rfl, rfl⟩)
      | (go_at_call 10; refine (HW.out _ (HG.out.below HB0.out)).mono ?_; rintro e w1 ⟨⟨v1, rfl, ho⟩, hb⟩; have HB1 := Lib.hid (HB0.out.trans (hb.mono HB0.out.size)); have HI1 := Lib.hid (ownW_in ho); obtain ⟨p1, c1, e1, -⟩ := HI1.out; subst e1; clear ho hb))
    have HS1 := Lib.hid (Below.refl w1.heap.size w1)
    have hL' : (L.length : Int) ≤ 1000000 := by have := HLen.out; omega
    go_loopw [6, 7] (fun a i wr => ∃ k e : Nat, k ≤ L.length ∧ e ≤ C.size ∧ a = .int .i64 e ∧ i = .int .i64 k ∧ Hid (Cov C.data.toList e (L.drop k)) ∧ Hid (Below w1.heap.size w1 wr)) (fun _ i _ => L.length - (intOf i).toNat)
    case atStart => exact ⟨0, 0, Nat.zero_le _, Nat.zero_le _, rfl, rfl, HCov, HS1⟩
    case round =>
      obtain ⟨k, e, hk, he, rfl, rfl, HD, HB⟩ := hrel
      by_cases hlt : k < L.length
      · have hlt' : (k : Int) < (L.length : Int) := by omega
        obtain ⟨b, off, c0, e1, h1, h2, hb1, -, q1⟩ := HI1.out.at_ (by omega)
        cases e1
        have r1 := q1 k hlt
        have hcv := cov_step hlt HD.out
        obtain ⟨x, hx⟩ : ∃ x, x = L[k] := ⟨_, rfl⟩
        rw [← hx] at r1 hcv
        obtain ⟨v1, v2, v3, v4, v5, v6⟩ := hcv
        rw [← Lib.size_eq] at v3
        obtain ⟨a0, a1, a2, a3, a4, a5⟩ := r1
        have f : ∀ o, wr.cell? ⟨b, o, none⟩ = w1.cell? ⟨b, o, none⟩ := fun o => HB.out.cell (p := ⟨b, o, none⟩) hb1
        rw [← f] at a0 a1 a2 a3 a4 a5
        have HV6 := Lib.hid v6
        obtain ⟨T, hT⟩ : ∃ T : ByteArray, T = ⟨x.text.toArray⟩ := ⟨_, rfl⟩
        have hTs : T.size = x.text.length := by rw [hT, Lib.size_eq]
        have hcut : C.extract x.pos (x.pos + x.text.length) = T := by rw [cut_list, v4, hT]
        obtain ⟨E, hE⟩ : ∃ E, C.extract e x.pos = E := ⟨_, rfl⟩
        have hEl : E.data.toList = (C.data.toList.drop e).take (x.pos - e) := by
          have h9 := cut_list C e (x.pos - e)
          rw [show e + (x.pos - e) = x.pos by omega] at h9
          rw [← hE, h9]
        have hEs : E.size = x.pos - e := by rw [← hE, ByteArray.size_extract]; omega
        have hgap : decide (skC false E.data.toList = E.size) = true := by rw [hEl, v5, hEs]; simp
        have HGp := Lib.hid (fun W => hgap ▸ rgaps_any E W (by omega))
        rw [← hT] at a1
        obtain ⟨m, hm2⟩ : ∃ m, m = x.text.length := ⟨_, rfl⟩
        rw [← hm2] at hTs hcut HV6 v2 v3
        obtain ⟨p, hp⟩ : ∃ p, p = x.pos := ⟨_, rfl⟩
        rw [← hp] at hcut hE HV6 v1 v3 a5
        clear v4 v5 v6 hT hEl hEs hgap f q1 hx hm2 hp
        have i1 : (e : Int) ≤ (p : Int) := by omega
        have i2 : (p : Int) + (m : Int) ≤ (C.size : Int) := by omega
        have i3 : (p : Int) ≤ (C.size : Int) := by omega
        have i4 : (1 : Int) ≤ (m : Int) := by omega
        have i5 : ¬ (p : Int) < (e : Int) := by omega
        have i6 : ¬ (C.size : Int) < (p : Int) := by omega
        have i7 : ¬ (C.size : Int) - (p : Int) < (m : Int) := by omega
        have i8 : wrap64 ((C.size : Int) - (p : Int)) = (C.size : Int) - (p : Int) := IntWalk.wrap64_in _ (by omega)
        have i9 : ((m : Int) == 0) = false := by rw [beq_eq_false_iff_ne]; omega
        have i10 : ((p : Int) + (m : Int)).toNat = p + m := by omega
        have j1 : ¬ p < e := by omega
        have j2 : ¬ C.size < p := by omega
        have j3 : decide (p < e) = false := decide_eq_false j1
        have j4 : decide (C.size < p) = false := decide_eq_false j2
        have j5 : decide ((p : Int) < (e : Int)) = false := decide_eq_false i5
        have j6 : decide ((C.size : Int) < (p : Int)) = false := decide_eq_false i6
        have j7 : decide ((C.size : Int) - (p : Int) < (m : Int)) = false := decide_eq_false i7
        unfold maxLen at h2
        go_wp2_with fail
        have hnew := heap_alloc_new wr (.cells #[.int .i64 x.kind, .string T, .int .i64 x.val.1, .int .i64 x.val.2.1, .string x.val.2.2, .int .i64 p] 37)
        have HB2 := Lib.hid (HB.out.alloc HB.out.size (.cells #[.int .i64 x.kind, .string T, .int .i64 x.val.1, .int .i64 x.val.2.1, .string x.val.2.2, .int .i64 p] 37))
        obtain ⟨W2, hW2⟩ : ∃ W2, W2 = wr.alloc (.cells #[.int .i64 x.kind, .string T, .int .i64 x.val.1, .int .i64 x.val.2.1, .string x.val.2.2, .int .i64 p] 37) := ⟨_, rfl⟩
        rw [← hW2] at hnew HB2 ⊢
        have q5 := cell_of_row W2 _ 5 _ _ (0, 0) hnew
        have q1 := cell_of_row W2 _ 1 _ _ (0, 0) hnew
        have HGq : Hid (∀ j, Calls Tryd.prog 20 #[.string E] (W2.drewN j) fun e w' => e = .returned (.bool true) ∧ ∃ m, w' = W2.drewN m) := Lib.hid (fun j => (HGp.out (W2.drewN j)).mono (by rintro e w' ⟨rfl, rfl⟩; exact ⟨rfl, j, rfl⟩))
        clear hW2 hnew a0 a1 a2 a3 a4 a5 HGp
        refine wp_region_quiet_lit (by kernel_rfl) (by kernel_rfl) ?_
        iterate 52 go_big_quiet_step ((go_at_call 20; exact HGq.out _))
        refine wpQuiet_nil ?_
        intro _ hw'
        obtain ⟨nq, hw''⟩ := hw'
        subst hw''
        go_wp2_with fail
        go_roundw
        case rel => exact ⟨k + 1, p + m, by omega, by omega, by go_num, by go_num, HV6, Lib.hid (by have h := HB2.out; exact ⟨h.os, h.tape, h.output, h.size, h.block⟩)⟩
        case measure => simp [intOf]; omega
      · have hge : ¬ (k : Int) < (L.length : Int) := by omega
        have hk' : k = L.length := by omega
        have hd := HD.out
        rw [hk', List.drop_length] at hd
        have hgap : decide (skC false (C.data.toList.drop e) = C.size - e) = true := by
          have := hd.2
          rw [← Lib.size_eq] at this
          simpa using this
        obtain ⟨E, hE⟩ : ∃ E, C.extract e C.size = E := ⟨_, rfl⟩
        have hEs : E.size = C.size - e := by rw [← hE, ByteArray.size_extract]; omega
        rw [← tail_list, hE, ← hEs] at hgap
        have HGp := Lib.hid (fun W => hgap ▸ rgaps_any E W (by omega))
        have i1 : (e : Int) ≤ (C.size : Int) := by omega
        clear hgap hd hk'
        go_wp2_with (go_at_call 20; refine (HGp.out _).mono ?_; rintro e w9 ⟨rfl, rfl⟩)
        go_ret
        exact ⟨rfl, HB1.out.trans (HB.out.mono HB1.out.size)⟩
  · have hg1 : (g != 0) = true := by simpa using hg
    have hg2 : (g == 0) = false := by simpa using hg
    have hL0 := HNo.out hg
    subst hL0
    clear HCv HNo hg
    go_enter Tryd.func6, Tryd.ntmps6
    go_wp2_with (first
      | (go_at_call 13; refine (awake_true w HG.out).mono ?_; rintro e w0 ⟨rfl, hb⟩; have HB0 := Lib.hid hb; clear hb)
      | (go_at_call 9; refine (HC.out _).mono ?_; rintro e w1 ⟨rfl, rfl⟩)
      | (go_at_call 10; refine (HW.out _ (HG.out.below HB0.out)).mono ?_; rintro e w1 ⟨⟨v1, rfl, ho⟩, hb⟩; have HB1 := Lib.hid (HB0.out.trans (hb.mono HB0.out.size)); have HI1 := Lib.hid (ownW_in ho); obtain ⟨p1, c1, e1, -⟩ := HI1.out; subst e1; clear ho hb))
    go_ret
    exact ⟨by simp, HB1.out⟩
end Go.Proofs.YtiokdlomfmkkoaaDoor
