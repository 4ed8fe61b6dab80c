/-
  Disk.Sync: what is loose of a file is fixed.
  Disk.Size; Disk.Read of a whole file.
-/
import Derived.Test.YtdjhfcopnhcljaaGreatDoorW39
namespace Go.Proofs.YtdjhfcopnhcljaaGreatDoor
section
open Go Go.RowKit Go.Maps Go.WideMaps

theorem OwnF.shp {n : Nat} {w : World} {v : Value} {l : List UInt8} (h : OwnF n w v l) : ∃ p c, v = .slice p l.length c := by
  rcases h.form with ⟨rfl, rfl⟩ | ⟨b, c, rfl, -⟩
  · exact ⟨none, 0, rfl⟩
  · exact ⟨_, c, rfl⟩
/-- Behind so many rounds: so many sectors are loose no more. -/
structure FxR (w : World) (g O no i0 j k n1 : Nat) (fv wrn : Value) (fixed : Int) (L : List UInt8) (oo : DataW Value) (wr : World) : Prop where
  olds : MapAt wr Tryz.prog 225 O no oo
  rel : Olds wr n1 oo (keptF L (i0 + k) (j - k))
  file : FileAt wr g fv fixed wrn
  grow : Grow (fun b => b = O) w wr
theorem keptF_drop (L : List UInt8) (i0 j k : Nat) (h : k < j) : (fun i => if i = i0 + k then none else keptF L (i0 + k) (j - k) i) = keptF L (i0 + (k + 1)) (j - (k + 1)) := by
  funext i
  unfold keptF
  by_cases e : i = i0 + k
  · rw [if_pos e, if_neg (by omega)]
  · rw [if_neg e]
    by_cases h2 : i0 + k ≤ i ∧ i < i0 + k + (j - k)
    · rw [if_pos h2, if_pos (by omega)]
    · rw [if_neg h2, if_neg (by omega)]
theorem ints_at {w : World} {nw : Nat} {wrn : Value} {i0 j : Nat} (h : w.ownsRow nw 3 1 wrn j (ints i0 j)) : ∃ p c, wrn = .slice p j c ∧ (0 < j → ∃ gw, p = some ⟨gw, 0, none⟩ ∧ gw < w.heap.size ∧ nw ≤ gw ∧ ∀ k, k < j → w.cell? ⟨gw, k, none⟩ = some (.int .i64 ((i0 + k : Nat) : Int))) := by
  have hc := fun g (hg : wrn.ownBlock = some g) => World.ownsRow.cells h (g := g) hg
  rcases h.2 with ⟨rfl, h0⟩ | ⟨g, cap, cur, rfl, hb, hg, -, -, -, -⟩
  · exact ⟨none, 0, by rw [h0], fun hj => by omega⟩
  · refine ⟨_, cap, rfl, fun _ => ⟨g, rfl, (Array.getElem?_eq_some_iff.1 hg).1, hb, fun k hk => ?_⟩⟩
    have e := hc g (by simp [Value.ownBlock]) k (.int .i64 ((i0 + k : Nat) : Int)) (by simp [ints, hk])
    have a : (⟨g, 0, none⟩ : Addr).add k = ⟨g, k, none⟩ := by unfold Addr.add; split <;> simp_all
    rwa [a] at e
set_option maxRecDepth 100000 in
set_option maxHeartbeats 2000000 in
theorem fix_any {n0 n1 nF : Nat} {w : World} {d F O D X g : Nat} {room next fixed : Int} {nf no nd nx m i0 j : Nat} {ff oo dd xx : DataW Value} {chg fv wrn : Value} {xs : List Value} {L L0 : List UInt8}
    (h : DkS n0 w d F O D X room next nf no nd nx m ff oo dd xx chg xs) (hO : Olds w n1 oo (keptF L0 i0 j)) (hg : FileAt w g fv fixed wrn) (hf : OwnF nF w fv L) (hwr : w.ownsRow n1 3 1 wrn j (ints i0 j)) (ap : g ≠ d ∧ g ≠ O) (hn1 : O < n1 ∧ g < n1) (hd : d ≠ O) (hj : j ≤ 16000) :
    Calls Tryz.prog 126 #[.pointer (some ⟨d, 0, none⟩), .int .i64 0, .pointer (some ⟨g, 0, none⟩)] w fun e w' => e = .returned (.tuple #[]) ∧ ∃ oo', MapAt w' Tryz.prog 225 O no oo' ∧ Olds w' n1 oo' (fun _ => none) ∧ FileAt w' g fv (L.length : Int) (.slice none 0 0) ∧ Grow (fun b => b = O ∨ b = g) w w' := by
  have HS := Lib.hid h
  have HO := Lib.hid hO
  have HFb := Lib.hid hf
  have HW := Lib.hid hwr
  have HA := Lib.hid ap
  have HN := Lib.hid (And.intro hn1 (And.intro hd hj))
  have HSt := Lib.hid (show FxR w g O no i0 j 0 n1 fv wrn fixed L0 oo w from ⟨h.olds, by simpa using hO, hg, Grow.refl _ _⟩)
  have hgl : g < w.heap.size := (Array.getElem?_eq_some_iff.1 hg).1
  obtain ⟨-, -, b2⟩ := hg.cells
  obtain ⟨wp, wc, rfl, hwc⟩ := ints_at hwr
  have HWc := Lib.hid hwc
  clear h hO hg hf hwr ap hn1 hd hwc
  go_enter Tryz.func126, Tryz.ntmps126
  go_wp2_with fail
  go_loopw [13] (fun i wr => ∃ (k : Nat) (oj : DataW Value), k ≤ j ∧ i = .int .i64 (k : Int) ∧ Hid (FxR w g O no i0 j k n1 fv (.slice wp j wc) fixed L0 oj wr)) (fun i _ => j - (intOf i).toNat)
  case atStart => exact ⟨0, _, Nat.zero_le _, rfl, HSt⟩
  case round =>
    obtain ⟨k, oj, hk, rfl, hJ⟩ := hrel
    by_cases hlt : k < j
    case neg =>
      obtain rfl : k = j := by omega
      obtain ⟨b0, b1, b2⟩ := hJ.out.file.cells
      have f1 := frozen_of_row wr g 1 _ _ hJ.out.file
      have f2 := frozen_of_row wr g 2 _ _ hJ.out.file
      have hgl' : g < wr.heap.size := (Array.getElem?_eq_some_iff.1 hJ.out.file).1
      obtain ⟨fp, fc, rfl⟩ := OwnF.shp HFb.out
      go_wp2_with fail
      have gs : Grow (fun b => b = g) wr ((wr.setCell ⟨g, 2, none⟩ (.slice none 0 0)).setCell ⟨g, 1, none⟩ (.int .i64 (L.length : Int))) := ((Grow.refl (fun b => b = g) wr).setCell ⟨g, 2, none⟩ _ (fun _ => rfl)).setCell ⟨g, 1, none⟩ _ (fun _ => rfl)
      have hff : FileAt ((wr.setCell ⟨g, 2, none⟩ (.slice none 0 0)).setCell ⟨g, 1, none⟩ (.int .i64 (L.length : Int))) g (.slice fp L.length fc) (L.length : Int) (.slice none 0 0) := by
        have e1 := Go.heap_setCell_same wr g 2 _ _ (.slice none 0 0) hJ.out.file
        have e2 := Go.heap_setCell_same _ g 1 _ _ (.int .i64 (L.length : Int)) e1
        exact e2.trans (by simp)
      have hol : Olds ((wr.setCell ⟨g, 2, none⟩ (.slice none 0 0)).setCell ⟨g, 1, none⟩ (.int .i64 (L.length : Int))) n1 oj (fun _ => none) := by
        have e := hJ.out.rel
        rw [Nat.sub_self, keptF_zero] at e
        exact e.grow gs (fun x hx e => by have := HN.out.1.2; omega)
      exact bodyPost_end (results_none rfl _ _ _) rfl ⟨rfl, _, hJ.out.olds.grow gs (fun e => HA.out.2 e.symm), hol, hff, (hJ.out.grow.mono (fun _ _ e => .inl e)).trans (gs.mono (fun _ _ e => .inr e))⟩
    have hlt' : (k : Int) < (j : Int) := by omega
    have h0 : (0 : Int) ≤ (k : Int) := by omega
    obtain ⟨gw, rfl, hgw, hgwn, hcw⟩ := HWc.out (by omega)
    have hck : wr.cell? ⟨gw, k, none⟩ = some (.int .i64 ((i0 + k : Nat) : Int)) := (World.cell?_of_block (a := ⟨gw, k, none⟩) (hJ.out.grow.block gw hgw (fun e => by have := HN.out.1.1; omega))).trans (hcw k hlt)
    have HOn := Lib.hid (HS.out.on.grow hJ.out.grow HN.out.2.1)
    have hlr : d < wr.heap.size := HOn.out.lt
    obtain ⟨-, -, -, -, c4, -, -, -, -, -⟩ := HOn.out.cells
    have hlw : gw < wr.heap.size := Nat.lt_of_lt_of_le hgw hJ.out.grow.size
    have HIk := Lib.hid (hJ.out.rel.yes (i0 + k) (sec L0 (i0 + k)) (by unfold keptF; rw [if_pos (by omega)])).1
    have HKy := Lib.hid (keyOf_sp (i := i0 + k) HIk.out)
    unfold spotV at HKy
    go_wp2_with (at_delete; refine wpList_delete_own _ rfl _ _ 127 225 rfl 24 keySp Tryz.underlying127 heldE O no oj rfl hJ.out.olds _ _ rfl HKy.out ?_; intro w5 hown5 hturn5)
    have g5 : Grow (fun b => b = O) wr w5 := Grow.of_grown hturn5.grown (fun k e _ => (Option.some.inj e).symm)
    have HEnd := Lib.hid (show FxR w g O no i0 j (k + 1) n1 fv (.slice (some ⟨gw, 0, none⟩) j wc) fixed L0 (oj.del (spotK 0 (i0 + k : Nat))) w5 from
      ⟨hown5, by
        rw [← keptF_drop L0 i0 j k hlt]
        exact ((hJ.out.rel.grow g5 (fun x hx e => by have := HN.out.1.1; omega)).del HIk.out), hJ.out.file.grow g5 HA.out.2, hJ.out.grow.trans g5⟩)
    refine ⟨⟨k + 1, _, by omega, by go_num, HEnd⟩, ?_⟩
    simp only [intOf]
    omega
theorem wrs_mid {n0 : Nat} {w w3 : World} {d F O D X g : Nat} {room next : Int} {nf no no' nd nx m : Nat} {ff oo oo' dd xx : DataW Value} {chg : Value} {xs : List Value}
    (h : DkS n0 w d F O D X room next nf no nd nx m ff oo dd xx chg xs) (hm : MapAt w3 Tryz.prog 225 O no' oo') (hg : Grow (fun b => b = O ∨ b = g) w w3) (ap : g ≠ d ∧ g ≠ F ∧ g ≠ O ∧ g ≠ D ∧ g ≠ X ∧ chg.ownBlock ≠ some g) : DkS n0 w3 d F O D X room next nf no' nd nx m ff oo' dd xx chg xs := by
  obtain ⟨a1, a2, a3, a4, a5, a6, a7, a8, a9, a10⟩ := h.apart
  refine ⟨h.on.grow hg ?_, h.files.grow hg ?_, hm, h.dir.grow hg ?_, h.fixed.grow hg ?_, own_grow h.own hg ?_, h.apart, h.chgs, h.low⟩
  · rintro (e | e); exact a2 e; exact ap.1 e.symm
  · rintro (e | e); exact a5 e; exact ap.2.1 e.symm
  · rintro (e | e); exact a8 e.symm; exact ap.2.2.2.1 e.symm
  · rintro (e | e); exact a9 e.symm; exact ap.2.2.2.2.1 e.symm
  · intro k hk
    rintro (rfl | rfl)
    · exact (h.chgs _ hk).2.2.1 rfl
    · exact ap.2.2.2.2.2 hk
set_option maxRecDepth 100000 in
set_option maxHeartbeats 2000000 in
theorem sync_any {n0 n1 nF : Nat} {w : World} {d F O D X g : Nat} {room next fixed : Int} {nf no nd nx m i0 j : Nat} {oo xx : DataW Value} {chg fv wrn : Value} {xs : List Value} {L L0 : List UInt8} {s : ByteArray}
    (h : DkS n0 w d F O D X room next nf no nd nx m (oneM (.int .i64 0) (.pointer (some ⟨g, 0, none⟩))) oo (oneM (.string s.data.toList) (.int .i64 0)) xx chg xs) (hs : s.size ≤ 64) (hO : Olds w n1 oo (keptF L0 i0 j)) (hg : FileAt w g fv fixed wrn) (hf : OwnF nF w fv L) (hwr : w.ownsRow n1 3 1 wrn j (ints i0 j)) (ap : g ≠ d ∧ g ≠ F ∧ g ≠ O ∧ g ≠ D ∧ g ≠ X ∧ chg.ownBlock ≠ some g) (hn1 : O < n1 ∧ g < n1) (hj : j ≤ 16000) :
    Calls Tryz.prog 71 #[.pointer (some ⟨d, 0, none⟩), .string s] w fun e w' => e = .returned (.int .i64 0) ∧ ∃ oo', DkS n0 w' d F O D X room next nf no nd nx m (oneM (.int .i64 0) (.pointer (some ⟨g, 0, none⟩))) oo' (oneM (.string s.data.toList) (.int .i64 0)) xx chg xs ∧ Olds w' n1 oo' (fun _ => none) ∧ FileAt w' g fv (L.length : Int) (.slice none 0 0) ∧ Grow (fun b => b = O ∨ b = g) w w' := by
  have HR := Lib.hid (ready_ok h.on)
  have HF := Lib.hid (find_any s 0 (.pointer (some ⟨g, 0, none⟩)) h (by unfold maxLen; omega) (by decide) (oneM_at _ (sym_str _)) (by rw [oneM_has]; exact sym_str _) rfl)
  have HFx := Lib.hid (fun (w1 : World) (hg1 : Grow (fun _ => False) w w1) => fix_any (h.same hg1) (hO.same hg1) (hg.grow hg1 (fun e => e)) (hf.grow hg1 (fun _ _ e => e)) (own_grow hwr hg1 (fun _ _ e => e)) ⟨ap.1, ap.2.2.1⟩ hn1 h.apart.2.1 hj)
  have HS := Lib.hid h
  have HA := Lib.hid ap
  clear h hs hO hg hf hwr ap hn1 hj
  go_enter Tryz.func71, Tryz.ntmps71
  go_wp2_with fail
  refine HR.out.mono ?_
  rintro e w1 ⟨rfl, rfl⟩
  go_wp2_with fail
  refine HF.out.mono ?_
  rintro e w1 ⟨rfl, hg1⟩
  have HFx1 := Lib.hid (HFx.out w1 hg1)
  have G1 := Lib.hid hg1
  clear hg1 HF HR HFx
  go_wp2_with fail
  refine HFx1.out.mono ?_
  rintro e w2 ⟨rfl, oo', h1, h2, h3, h4⟩
  have HE := Lib.hid (And.intro (wrs_mid (HS.out.same G1.out) h1 h4 HA.out) (And.intro h2 (And.intro h3 ((G1.out.mono (fun _ _ e => e.elim)).trans h4))))
  clear h1 h2 h3 h4 HFx1
  go_wp2_with fail
  refine (done_ok HE.out.1.on).mono ?_
  rintro e w3 ⟨rfl, rfl⟩
  go_wp2_with fail
  go_ret
  exact ⟨rfl, _, HE.out⟩
end
section
open Go Go.RowKit Go.Maps Go.WideMaps

set_option maxRecDepth 100000 in
theorem size_any {n0 nF : Nat} {w : World} {d F O D X g : Nat} {room next fixed : Int} {nf no nd nx m : Nat} {oo xx : DataW Value} {chg fv wrn : Value} {xs : List Value} {s : ByteArray} {L : List UInt8}
    (h : DkS n0 w d F O D X room next nf no nd nx m (oneM (.int .i64 0) (.pointer (some ⟨g, 0, none⟩))) oo (oneM (.string s.data.toList) (.int .i64 0)) xx chg xs) (hs : s.size ≤ 64) (hg : FileAt w g fv fixed wrn) (hf : OwnF nF w fv L) :
    Calls Tryz.prog 77 #[.pointer (some ⟨d, 0, none⟩), .string s] w fun e w' => e = .returned (.tuple #[.int .i64 (L.length : Int), .int .i64 0]) ∧ Grow (fun _ => False) w w' := by
  have HM := Lib.hid (made_yes h.on)
  have HF := Lib.hid (find_any s 0 (.pointer (some ⟨g, 0, none⟩)) h (by unfold maxLen; omega) (by decide) (oneM_at _ (sym_str _)) (by rw [oneM_has]; exact sym_str _) rfl)
  have HFi := Lib.hid hg
  obtain ⟨fp, fc, rfl⟩ := hf.shp
  clear h hs hg hf
  go_enter Tryz.func77, Tryz.ntmps77
  go_wp2_with fail
  refine HM.out.mono ?_
  rintro e w1 ⟨rfl, rfl⟩
  go_wp2_with fail
  refine HF.out.mono ?_
  rintro e w1 ⟨rfl, hg1⟩
  have HG1 := Lib.hid hg1
  obtain ⟨b0, -, -⟩ := (HFi.out.grow hg1 (fun e => e)).cells
  have hlg : g < w1.heap.size := (Array.getElem?_eq_some_iff.1 (HFi.out.grow hg1 (fun e => e))).1
  clear hg1 HM HF
  go_wp2_with fail
  go_ret2
  exact ⟨rfl, HG1.out⟩
theorem OwnF.full {n : Nat} {w : World} {v : Value} {l : List UInt8} (h : OwnF n w v l) : (l = [] ∧ v = .slice none 0 0) ∨ ∃ b c, v = .slice (some ⟨b, 0, none⟩) l.length c ∧ l.length ≤ c ∧ c ≤ 9223372036854775807 ∧ RdIn w.heap.size w (.slice (some ⟨b, 0, none⟩) l.length c) l := by
  have hr := h.read
  rcases h.form with h0 | ⟨b, c, rfl, -, -, h4, h5, -⟩
  · exact .inl h0
  · exact .inr ⟨b, c, rfl, h4, by unfold maxLen at h5; omega, hr⟩
set_option maxRecDepth 100000 in
set_option maxHeartbeats 2000000 in
theorem read_full {n0 nF : Nat} {w : World} {d F O D X g : Nat} {room next fixed : Int} {nf no nd nx m : Nat} {oo xx : DataW Value} {chg fv wrn : Value} {xs : List Value} {s : ByteArray} {L : List UInt8}
    (h : DkS n0 w d F O D X room next nf no nd nx m (oneM (.int .i64 0) (.pointer (some ⟨g, 0, none⟩))) oo (oneM (.string s.data.toList) (.int .i64 0)) xx chg xs) (hs : s.size ≤ 64) (hg : FileAt w g fv fixed wrn) (hf : OwnF nF w fv L) (hL : L.length ≤ 500000) :
    Calls Tryz.prog 78 #[.pointer (some ⟨d, 0, none⟩), .string s, .int .i64 0, .int .i64 (L.length : Int)] w fun e w' => ∃ v, e = .returned (.tuple #[v, .int .i64 0]) ∧ OwnF w.heap.size w' v L ∧ Grow (fun _ => False) w w' := by
  have HM := Lib.hid (made_yes h.on)
  have HF := Lib.hid (find_any s 0 (.pointer (some ⟨g, 0, none⟩)) h (by unfold maxLen; omega) (by decide) (oneM_at _ (sym_str _)) (by rw [oneM_has]; exact sym_str _) rfl)
  have HFi := Lib.hid hg
  have HFb := Lib.hid hf
  have HL := Lib.hid hL
  have z1 : (0 : Int) ≤ (L.length : Int) := by omega
  have z2 : (L.length : Int) ≤ 500000 := by omega
  clear h hs hg hf hL
  go_enter Tryz.func78, Tryz.ntmps78
  go_wp2_with fail
  refine HM.out.mono ?_
  rintro e w1 ⟨rfl, rfl⟩
  go_wp2_with fail
  refine HF.out.mono ?_
  rintro e w1 ⟨rfl, hg1⟩
  have HG1 := Lib.hid hg1
  obtain ⟨b0, -, -⟩ := (HFi.out.grow hg1 (fun e => e)).cells
  have hlg : g < w1.heap.size := (Array.getElem?_eq_some_iff.1 (HFi.out.grow hg1 (fun e => e))).1
  have HF1 := Lib.hid (HFb.out.grow hg1 (fun _ _ e => e))
  clear hg1 HM HF
  rcases HF1.out.full with ⟨hL0, hv⟩ | ⟨b, c, hv, hc1, hc2, hrd⟩
  · subst hL0 hv
    have HCl := Lib.hid (cloneB_any w1 (.slice none 0 0) [] (.inl ⟨rfl, .inl rfl⟩) (by decide))
    go_wp2_with fail
    refine HCl.out.mono ?_
    rintro e w2 ⟨v, rfl, how, hg2⟩
    have HEnd := Lib.hid (And.intro (how.base HG1.out.size) (HG1.out.trans hg2))
    clear how hg2
    go_wp2_with fail
    go_ret2
    exact ⟨v, rfl, HEnd.out.1, HEnd.out.2⟩
  · subst hv
    have HCl := Lib.hid (cloneB_any w1 _ L hrd (by have := HL.out; omega))
    have i1 : (L.length : Int) ≤ (c : Int) := by omega
    have i2 : (c : Int) ≤ 9223372036854775807 := by omega
    clear hrd
    go_wp2_with fail
    refine HCl.out.mono ?_
    rintro e w2 ⟨v, rfl, how, hg2⟩
    have HEnd := Lib.hid (And.intro (how.base HG1.out.size) (HG1.out.trans hg2))
    clear how hg2
    go_wp2_with fail
    go_ret2
    exact ⟨v, rfl, HEnd.out.1, HEnd.out.2⟩
end
end Go.Proofs.YtdjhfcopnhcljaaGreatDoor
