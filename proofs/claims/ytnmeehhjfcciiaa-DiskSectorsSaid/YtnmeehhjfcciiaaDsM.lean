/-
  Disk.loosen at a file of which nothing is loose: the walk.
-/
import Derived.Test.YtnmeehhjfcciiaaDsL
namespace Go.Proofs.Ytnmeehhjfcciiaa
open Go Go.RowKit Go.Maps Go.WideMaps

theorem run_look_ok_any {P : Program} (w : World) {t k e : TypeId} (K : Keyed P k) (ht : P.underlying t = some (.map k e)) (z v : Value) (hz : (zeroValue e).run P w = .ok z w) {b n : Nat} {D : DataW Value} (hown : MapAt w P k b n D) {key : Value} {kl : Lit} (hkey : keyOf P k key = some kl) (hat : D.atKey kl (.held z) = .held v) {c : Bool} (hc : Maps.has D kl = c) :
    (Instr.lookup t (.map (some b)) key true).run P w = .ok (.tuple #[v, .bool c]) w := by
  obtain ⟨u, ps, hrun, hu⟩ := World.ownsMap.look_ok hown K ht hz (zd := .held z) (zp := []) rfl hkey
  have := heldE_inv hu
  rw [hat] at this
  injection this with this _
  injection this with this
  subst this hc
  exact hrun
set_option maxRecDepth 100000 in
set_option maxHeartbeats 4000000 in
theorem loosen_clean {n0 nb nF : Nat} {w : World} {d F O D X g : Nat} {room next fixed : Int} {nf no nd nx m : Nat} {ff oo dd xx : DataW Value} {chg fv : Value} {xs : List Value} {L : List UInt8}
    (h : DkS n0 w d F O D X room next nf no nd nx m ff oo dd xx chg xs) (hO : Olds w nb oo (fun _ => none)) (hg : FileAt w g fv fixed (.slice none 0 0)) (hf : OwnF nF w fv L) (hL : L.length ≤ 1000000) (ap : g ≠ d ∧ g ≠ O) (hfd : ∀ b, fv.ownBlock = some b → b ≠ O ∧ b ≠ g) (hno : no ≤ 1000000) (a z : Nat) (haz : a < z) (hz : z ≤ 60000) :
    Calls Try.prog 28 #[.pointer (some ⟨d, 0, none⟩), .int .i64 0, .pointer (some ⟨g, 0, none⟩), .int .i64 (a : Int), .int .i64 (z : Int)] w fun e w' => e = .returned (.tuple #[]) ∧ ∃ oo' wrn, LoG w g O no (a / 64) ((z + 63) / 64 - a / 64) fv L fixed oo' wrn w' := by
  have HS := Lib.hid h
  have HA := Lib.hid ap
  have HNo := Lib.hid hno
  have HF := Lib.hid hf
  have HLl := Lib.hid hL
  have HFd := Lib.hid hfd
  have HGl := Lib.hid (show g < w.heap.size from (Array.getElem?_eq_some_iff.1 hg).1)
  have HSt := Lib.hid (show LoG w g O no (a / 64) 0 fv L fixed oo (.slice none 0 0) w from
    ⟨h.olds, by rw [keptF_zero]; exact ⟨hO.is, hO.no, fun _ _ e => (by cases e), hO.only⟩, hg, World.ownsRow_nil _ _ _ _, Grow.refl _ _⟩)
  have HSe := Lib.hid (fun W : World => sectors_any W z (by omega))
  obtain ⟨i0, HI⟩ : ∃ i0, Hid (i0 = a / 64) := ⟨_, Lib.hid rfl⟩
  obtain ⟨i1, HI1⟩ : ∃ i1, Hid (i1 = (z + 63) / 64) := ⟨_, Lib.hid rfl⟩
  rw [← HI.out] at HSt ⊢
  rw [← HI1.out] at HSe ⊢
  have HLe := Lib.hid (show i0 < i1 ∧ i1 ≤ 1000 from by rw [HI.out, HI1.out]; omega)
  have ne1 : ¬ (a : Int) = (z : Int) := by omega
  have ne2 : (0 : Int) ≤ (a : Int) := by omega
  have ne3 : (a : Int) ≤ 60000 := by omega
  have HQ := Lib.hid (show (a : Int) / 64 = (i0 : Int) by rw [HI.out]; omega)
  clear h hg ap hno hO hf hL hfd haz hz HI HI1
  go_enter Try.func28, Try.ntmps28
  go_wp2_with fail
  rw [show ((a : Int) == (z : Int)) = false from by simpa using ne1]
  clear ne1
  go_loopw [10] (fun i wr => ∃ (j : Nat) (oo' : DataW Value) (wrn : Value), i0 + j ≤ i1 ∧ i = .int .i64 ((i0 + j : Nat) : Int) ∧ Hid (LoG w g O no i0 j fv L fixed oo' wrn wr)) (fun i _ => i1 - (intOf i).toNat)
  case atStart => exact ⟨0, _, _, by have := HLe.out; omega, by rw [HQ.out]; rfl, HSt⟩
  case round =>
    obtain ⟨j, oj, wrn, hk, rfl, hJ⟩ := hrel
    obtain ⟨k, hke⟩ : ∃ k, k = i0 + j := ⟨_, rfl⟩
    have HKe := Lib.hid hke
    rw [← hke] at hk ⊢
    clear hke
    have h0 : (0 : Int) ≤ (k : Int) := by omega
    have hkb : (k : Int) ≤ 1000 := by have := HLe.out; omega
    by_cases hlt : k < i1
    case neg =>
      have hle : (i1 : Int) ≤ (k : Int) := by omega
      go_wp2_with fail
      refine (HSe.out wr).mono ?_
      rintro e w1 ⟨rfl, rfl⟩
      go_wp2_with fail
      have e : i1 - i0 = j := by have := HKe.out; omega
      exact bodyPost_end (results_none rfl _ _ _) rfl ⟨rfl, _, _, by rw [e]; exact hJ.out⟩
    have hlt' : (k : Int) < (i1 : Int) := by omega
    have HKb := Lib.hid (show k ≤ 1000 by omega)
    have HOs := Lib.hid (show O < wr.heap.size from hJ.out.olds.lt)
    have HOn := Lib.hid (HS.out.on.grow hJ.out.grow (by rintro (e | e); exact HS.out.apart.2.1 e; exact HA.out.1 e.symm))
    have hlr : d < wr.heap.size := HOn.out.lt
    have hgr : g < wr.heap.size := (Array.getElem?_eq_some_iff.1 hJ.out.file).1
    obtain ⟨-, -, -, -, c4, -, -, -, -, -⟩ := HOn.out.cells
    have HJ1 := Lib.hid (hJ.out.same ((Grow.refl _ wr).alloc (.cells #[.int .i64 0, .int .i64 (k : Int)] 92)).drew)
    have hno' := hJ.out.rel.no k (by omega) (by unfold keptF; rw [if_neg (by have := HKe.out; omega)])
    have hrun := run_look_ok_any (P := Try.prog) (wr.alloc (.cells #[.int .i64 0, .int .i64 (k : Int)] 92)).drew (t := 60) keySp Try.underlying60 (.slice none 0 0) (.slice none 0 0) (zeroB _) HJ1.out.olds (keyOf_sp (i := k) (by omega)) hno'.2 hno'.1
    unfold spotV at hrun
    have e4 : (wr.alloc (.cells #[.int .i64 0, .int .i64 (k : Int)] 92)).cell? ⟨d, 4, none⟩ = some (.map (some O)) := (World.cell?_alloc_lt wr _ _ hlr).trans c4
    have s0 : (wr.alloc (.cells #[.int .i64 0, .int .i64 (k : Int)] 92)).cell? ⟨wr.heap.size, 0, none⟩ = some (.int .i64 0) := (World.cell?_alloc_new wr _ _ 0).trans rfl
    have s1 : (wr.alloc (.cells #[.int .i64 0, .int .i64 (k : Int)] 92)).cell? ⟨wr.heap.size, 1, none⟩ = some (.int .i64 k) := (World.cell?_alloc_new wr _ _ 1).trans rfl
    clear hno'
    go_wp2_with fail
    refine (HSe.out wr).mono ?_
    rintro e w1 ⟨rfl, rfl⟩
    go_wp2_with fail
    go_region_held3 (fun W => W.cell? ⟨d, 4, none⟩ = some (.map (some O)) ∧ W.cell? ⟨wr.heap.size, 0, none⟩ = some (.int .i64 0) ∧ W.cell? ⟨wr.heap.size, 1, none⟩ = some (.int .i64 k)) (exact ⟨e4, s0, s1⟩) (fail)
    have HOn1 := Lib.hid (HOn.out.alloc (.cells #[.int .i64 0, .int .i64 (k : Int)] 92)).drew
    have E4 := Lib.hid (show (wr.alloc (.cells #[.int .i64 0, .int .i64 (k : Int)] 92)).drew.cell? ⟨d, 4, none⟩ = some (.map (some O)) ∧ (wr.alloc (.cells #[.int .i64 0, .int .i64 (k : Int)] 92)).drew.cell? ⟨wr.heap.size, 0, none⟩ = some (.int .i64 0) ∧ (wr.alloc (.cells #[.int .i64 0, .int .i64 (k : Int)] 92)).drew.cell? ⟨wr.heap.size, 1, none⟩ = some (.int .i64 k) from ⟨e4, s0, s1⟩)
    have hsz : wr.heap.size < (wr.alloc (.cells #[.int .i64 0, .int .i64 (k : Int)] 92)).drew.heap.size := by simp
    clear hrun e4 s0 s1 c4 hJ
    generalize (wr.alloc (.cells #[.int .i64 0, .int .i64 (k : Int)] 92)).drew = W1 at *
    generalize wr.heap.size = at_ at *
    obtain ⟨b0, -, -⟩ := HJ1.out.file.cells
    obtain ⟨e4, s0, s1⟩ := E4.out
    have HOw := Lib.hid (show O < w.heap.size from HS.out.olds.lt)
    have HOa := Lib.hid (show O < at_ ∧ at_ < W1.heap.size ∧ g < W1.heap.size ∧ d < W1.heap.size from ⟨HOs.out, hsz, by omega, by omega⟩)
    have HFw := Lib.hid (show OwnF nF W1.drew fv L from HF.out.grow (HJ1.out.grow.drew) (fun b hb => by rintro (e | e); exact (HFd.out b hb).1 e; exact (HFd.out b hb).2 e))
    obtain ⟨cv, hcut, hread⟩ := cut_any k HFw.out HLl.out (by omega)
    have HCut := Lib.hid hcut
    have HCl := Lib.hid (cloneB_any W1.drew cv (sec L k) hread (by have := sec_len L k; omega))
    have HUp := Lib.hid (fun (w2 : World) (v2 : Value) (hv : OwnF W1.drew.heap.size w2 v2 (sec L k)) (hg : Grow (fun _ => False) W1.drew w2) =>
      (show ∃ w3, (Instr.mapUpdate 60 (.map (some O)) (.agg #[.int .i64 0, .int .i64 (k : Int)]) v2).run Try.prog w2 = .ok () w3 ∧ LoGm w g O no i0 j fv L fixed (oj.put (spotK 0 (k : Nat)) (.held v2)) wrn w3 ∧ w2.grownBy w3 (some O) from by
        have e := HKe.out
        subst e
        exact log_upd HJ1.out hv hg (by have := HNo.out; unfold maxLen; omega) (by omega) HA.out.2 HOw.out))
    have hdO : some d ≠ some O := by have := HS.out.apart.2.1; simpa using this
    have hgO : some g ≠ some O := by have := HA.out.2; simpa using this
    have haO : some at_ ≠ some O := by have := HOa.out.1; simp; omega
    clear hread hcut hlr hgr hsz
    go_wp2_with fail
    go_region_held3 (fun W => W.cell? ⟨d, 4, none⟩ = some (.map (some O)) ∧ W.cell? ⟨g, 0, none⟩ = some fv ∧ W.cell? ⟨at_, 0, none⟩ = some (.int .i64 0) ∧ W.cell? ⟨at_, 1, none⟩ = some (.int .i64 k)) (first | exact ⟨e4, b0, s0, s1⟩ | exact S2.out | exact S3.out) ((first
      | (go_at_call 42; refine HCut.out.mono ?_; rintro e w' ⟨rfl, rfl⟩)
      | (go_at_call 38; refine HCl.out.mono ?_; rintro e w2 ⟨v2, rfl, hv2, hg2⟩; obtain ⟨w3, hrun3, hM3, hgr3⟩ := HUp.out w2 v2 hv2 hg2; have S2 := Lib.hid (And.intro ((World.cell?_of_block (a := ⟨d, 4, none⟩) (hg2.block d HOa.out.2.2.2 (fun e => e))).trans e4) (And.intro ((World.cell?_of_block (a := ⟨g, 0, none⟩) (hg2.block g HOa.out.2.2.1 (fun e => e))).trans b0) (And.intro ((World.cell?_of_block (a := ⟨at_, 0, none⟩) (hg2.block at_ HOa.out.2.1 (fun e => e))).trans s0) ((World.cell?_of_block (a := ⟨at_, 1, none⟩) (hg2.block at_ HOa.out.2.1 (fun e => e))).trans s1)))); have S3 := Lib.hid (And.intro (hgr3.cell S2.out.1 hdO) (And.intro (hgr3.cell S2.out.2.1 hgO) (And.intro (hgr3.cell S2.out.2.2.1 haO) (hgr3.cell S2.out.2.2.2 haO)))); have HM3 := Lib.hid hM3; clear hM3 hgr3 hv2 hg2)))
    have hl3 : g < w3.heap.size := (Array.getElem?_eq_some_iff.1 HM3.out.file).1
    obtain ⟨-, -, b2⟩ := HM3.out.file.cells
    obtain ⟨ii, hi, hz0, hz1, hz2⟩ := info_parts infoInt
    have HKj := Lib.hid (show j + 1 ≤ 2000 from by have := HKe.out; omega)
    have o1 : j + 1 ≤ maxLen := by have := HKj.out; unfold maxLen; omega
    have o2 : (j + 1) * 8 ≤ 140737488355328 := by have := HKj.out; omega
    have o3 : w.heap.size ≤ (w3.alloc (.cells #[.int .i64 (k : Int)] 3)).heap.size := by have := HM3.out.grow.size; simp; omega
    clear hrun3 b0 e4 s0 s1 E4 HJ1 S2 S3 HCut HCl HUp HOn1 HFw
    go_wp2_with (at_builtin; refine wpList_append_lies _ rfl (.tmp 54) (.tmp 56) 67 rfl w.heap.size 3 ii (.int .i64 0) 1 8 Try.underlying67 hi hz0 hz1 hz2 rfl (by decide) _ _ _ rfl (HM3.out.own.alloc _) ⟨w3.heap.size, 0, none⟩ 1 1 [.int .i64 (k : Int)] rfl rfl (lit_cells w3 _ _) (one_cells rfl) (by decide) o1 o2 o3 (w3.heap.size + 1) (by simp) ?_; intro g5 cap5 w5 how5 hgr5 hloc5 hlt5; clear hloc5 hlt5; obtain ⟨hF5, hEnd5⟩ := log_end HM3.out (by rw [← HKe.out]; exact how5) hgr5 HGl.out HA.out.2 HOw.out (log_ne HM3.out); have HEnd := Lib.hid hEnd5; obtain ⟨-, -, b25⟩ := hF5.cells; have f25 := frozen_of_row w5 g 2 _ _ hF5; clear how5 hgr5 hF5 hEnd5)
    go_roundw
    case rel => exact ⟨j + 1, _, _, by have := HKe.out; omega, by have := HKe.out; subst this; go_num, HEnd⟩
    case measure => have := HKe.out; simp [intOf]; omega
end Go.Proofs.Ytnmeehhjfcciiaa
