/-
  Contract of sort.Search at a predicate that rises.
  Disk.Read of a part of a file.
  An open run's page, read from its file.
-/
import Derived.Test.YtdjhfcopnhcljaaGreatDoorW42
import Derived.Laws.Bits64
import Derived.Test.YtdjhfcopnhcljaaGreatDoorW44
namespace Go.Proofs.YtdjhfcopnhcljaaGreatDoor
section
open Go Go.RowKit

set_option maxRecDepth 100000 in
set_option maxHeartbeats 2000000 in
theorem search_any (n k : Nat) (caps : Array Value) (p : Nat → Bool) (w : World) (hn : n ≤ 100000) (eg : ∀ args w, (callFunc k args).run Tryz.prog w = .ok (.enter k args) w) (hp : ∀ h j, h ≤ j → j < n → p h = true → p j = true)
    (hf : ∀ W h, h < n → Below w.heap.size w W → Calls Tryz.prog k (#[.int .i64 (h : Int)] ++ caps) W fun e w' => e = .returned (.bool (p h)) ∧ Below W.heap.size W w') :
    Calls Tryz.prog 85 #[.int .i64 (n : Int), .func (.func k) #[] caps] w fun e w' => ∃ i, i ≤ n ∧ e = .returned (.int .i64 (i : Int)) ∧ (∀ j, j < i → p j = false) ∧ (∀ j, i ≤ j → j < n → p j = true) ∧ Below w.heap.size w w' := by
  have HF := Lib.hid hf
  have HP := Lib.hid hp
  have hri : ∀ args w, (callFunc k args).run Tryz.prog w = .ok (.enter k args) w := eg
  clear hf hp
  go_enter Tryz.func85, Tryz.ntmps85
  go_wp2_with fail
  go_loopw [5, 6] (fun x y wr => ∃ i j : Nat, i ≤ j ∧ j ≤ n ∧ x = .int .i64 (i : Int) ∧ y = .int .i64 (j : Int) ∧ Hid ((∀ q, q < i → p q = false) ∧ (∀ q, j ≤ q → q < n → p q = true) ∧ Below w.heap.size w wr)) (fun x y _ => (intOf y).toNat - (intOf x).toNat)
  case atStart => exact ⟨0, n, Nat.zero_le _, Nat.le_refl _, rfl, rfl, Lib.hid ⟨fun q h => absurd h (Nat.not_lt_zero q), fun q h h' => by omega, Below.refl _ _⟩⟩
  case round =>
    obtain ⟨i, j, hij, hjn, rfl, rfl, HJ⟩ := hrel
    by_cases hlt : i < j
    · have hlt' : (i : Int) < (j : Int) := by omega
      have h0 : (0 : Int) ≤ (i : Int) := by omega
      have h1 : (j : Int) ≤ 100000 := by omega
      go_wp2_with fail
      obtain ⟨h, hh⟩ : ∃ h : Nat, h = (i + j) / 2 := ⟨_, rfl⟩
      have hh' : ((i : Int) + (j : Int)) / 2 = (h : Int) := by omega
      rw [hh']
      have HH := Lib.hid (show i ≤ h ∧ h < j by omega)
      have h2 : (h : Int) ≤ 100000 := by omega
      have h3 : (0 : Int) ≤ (h : Int) := by omega
      clear hh hh'
      refine (HF.out wr h (by have := HH.out; omega) HJ.out.2.2).mono ?_
      rintro e w1 ⟨rfl, hb⟩
      have HB := Lib.hid (HJ.out.2.2.trans (hb.mono HJ.out.2.2.size))
      clear hb
      cases hph : p h
      · go_wp2_with fail
        go_roundw
        case rel =>
          refine ⟨h + 1, j, by have := HH.out; omega, hjn, by simp, rfl, Lib.hid ⟨fun q hq => ?_, HJ.out.2.1, HB.out⟩⟩
          cases hpq : p q
          · rfl
          · have := HP.out q h (by omega) (by have := HH.out; omega) hpq
            rw [hph] at this
            cases this
        case measure => have := HH.out; simp [intOf]; omega
      · go_wp2_with fail
        go_roundw
        case rel => exact ⟨i, h, HH.out.1, by have := HH.out; omega, rfl, rfl, Lib.hid ⟨HJ.out.1, fun q hq hn => HP.out h q hq hn hph, HB.out⟩⟩
        case measure => have := HH.out; simp [intOf]; omega
    · obtain rfl : i = j := by omega
      go_wp2_with fail
      go_ret
      exact ⟨i, hjn, rfl, HJ.out.1, HJ.out.2.1, HJ.out.2.2⟩
end
section
open Go Go.RowKit Go.Maps Go.WideMaps

theorem RdIn.part {n : Nat} {w : World} {b off c N : Nat} {l : List UInt8} (h : RdIn n w (.slice (some ⟨b, off, none⟩) l.length c) l) (z : Nat) (hz : z + N ≤ l.length) (hN : 0 < N) : RdIn n w (.slice (some ⟨b, off + z, none⟩) N (c - z)) ((l.drop z).take N) := by
  have hl : ((l.drop z).take N).length = N := by rw [List.length_take, List.length_drop]; omega
  rcases h with ⟨rfl, -⟩ | ⟨b', off', cap', e, hb, hc⟩
  · simp at hz; omega
  · injection e with e1 _ e3
    injection e1 with e1
    injection e1 with e1 e2 _
    subst e1 e2
    refine .inr ⟨b, off + z, c - z, by rw [hl], hb, fun j hj => ?_⟩
    have := hc (z + j) (by rw [hl] at hj; omega)
    rw [List.getElem_take, List.getElem_drop, Nat.add_assoc]
    exact this
set_option maxRecDepth 100000 in
set_option maxHeartbeats 2000000 in
theorem read_mid {n0 nF : Nat} {w : World} {d F O D X g : Nat} {room next fixed : Int} {nf no nd nx m : Nat} {oo xx : DataW Value} {chg fv wrn : Value} {xs : List Value} {s : ByteArray} {L : List UInt8}
    (h : DkS n0 w d F O D X room next nf no nd nx m (oneM (.int .i64 0) (.pointer (some ⟨g, 0, none⟩))) oo (oneM (.string s.data.toList) (.int .i64 0)) xx chg xs) (hs : s.size ≤ 64) (hg : FileAt w g fv fixed wrn) (hf : OwnF nF w fv L) (z N : Nat) (hz : z + N ≤ L.length) (hN : 0 < N) (hL : N ≤ 1000000) :
    Calls Tryz.prog 78 #[.pointer (some ⟨d, 0, none⟩), .string s, .int .i64 (z : Int), .int .i64 (N : Int)] w fun e w' => ∃ v, e = .returned (.tuple #[v, .int .i64 0]) ∧ OwnF w.heap.size w' v ((L.drop z).take N) ∧ Grow (fun _ => False) w w' := by
  have HM := Lib.hid (made_yes h.on)
  have HF := Lib.hid (find_any s 0 (.pointer (some ⟨g, 0, none⟩)) h (by unfold maxLen; omega) (by decide) (oneM_at _ (sym_str _)) (by rw [oneM_has]; exact sym_str _) rfl)
  have HFi := Lib.hid hg
  have HFb := Lib.hid hf
  have hlN : ((L.drop z).take N).length = N := by rw [List.length_take, List.length_drop]; omega
  have HLn := Lib.hid hlN
  have z1 : (0 : Int) ≤ (L.length : Int) := by omega
  have z3 : (0 : Int) ≤ (z : Int) := by omega
  have z4 : (0 : Int) ≤ (N : Int) := by omega
  have z5 : (z : Int) + (N : Int) ≤ (L.length : Int) := by omega
  have HZ := Lib.hid (And.intro hz (And.intro hN hL))
  clear h hs hg hf hL hz hlN hN
  go_enter Tryz.func78, Tryz.ntmps78
  go_wp2_with fail
  refine HM.out.mono ?_
  rintro e w1 ⟨rfl, rfl⟩
  go_wp2_with fail
  refine HF.out.mono ?_
  rintro e w1 ⟨rfl, hg1⟩
  have HG1 := Lib.hid hg1
  obtain ⟨b0, -, -⟩ := (HFi.out.grow hg1 (fun e => e)).cells
  have hlg : g < w1.heap.size := (Array.getElem?_eq_some_iff.1 (HFi.out.grow hg1 (fun e => e))).1
  have HF1 := Lib.hid (HFb.out.grow hg1 (fun _ _ e => e))
  clear hg1 HM HF
  rcases HF1.out.full with ⟨hL0, hv⟩ | ⟨b, c, hv, hc1, hc2, hrd⟩
  · exfalso
    have := HZ.out
    rw [hL0] at this
    simp at this
    omega
  · subst hv
    have HCl := Lib.hid (cloneB_any w1 (.slice (some ⟨b, z, none⟩) N (c - z)) ((L.drop z).take N) (by have := hrd.part z HZ.out.1 HZ.out.2.1; rwa [Nat.zero_add] at this) (by rw [HLn.out]; exact HZ.out.2.2))
    have i1 : (L.length : Int) ≤ (c : Int) := by omega
    have i2 : (c : Int) ≤ 9223372036854775807 := by omega
    have i3 : ¬ c = z := by have := HZ.out; omega
    have i4 : (z : Int) + (N : Int) - (z : Int) = (N : Int) := by omega
    have i5 : (z : Int) + (N : Int) ≤ (c : Int) := by omega
    clear hrd
    go_wp2_with fail
    refine HCl.out.mono ?_
    rintro e w2 ⟨v, rfl, how, hg2⟩
    have HEnd := Lib.hid (And.intro (how.base HG1.out.size) (HG1.out.trans hg2))
    clear how hg2
    go_wp2_with fail
    go_ret2
    exact ⟨v, rfl, HEnd.out.1, HEnd.out.2⟩
theorem flread_mid {Y : Nat → Prop} {w : World} {d : Nat} {s : ByteArray} {L : List UInt8} (h : FlAt w d s L Y) (hs : s.size ≤ 64) (z N : Nat) (hz : z + N ≤ L.length) (hN : 0 < N) (hL : N ≤ 1000000) :
    Calls Tryz.prog 78 #[.pointer (some ⟨d, 0, none⟩), .string s, .int .i64 (z : Int), .int .i64 (N : Int)] w fun e w' => ∃ v, e = .returned (.tuple #[v, .int .i64 0]) ∧ OwnF w.heap.size w' v ((L.drop z).take N) ∧ Grow (fun _ => False) w w' := by
  obtain ⟨n0, nF, F, O, D, X, g, room, next, nf, no, nd, nx, m, fixed, oo, xx, chg, fv, wrn, xs, h1, h2, h3, h4⟩ := h
  exact read_mid h1 hs h2 h3 z N hz hN hL
end
section
open Go Go.RowKit

theorem IsRun.mid {A P B : List Ct} (h : IsRun (A ++ P ++ B)) : IsRun P := by
  have key : ∀ j (hj : j < P.length), (A ++ P ++ B)[A.length + j]'(by simp; omega) = P[j] := fun j hj => by
    rw [List.getElem_append_left (by simp; omega), List.getElem_append_right (by omega)]
    simp
  refine ⟨fun j hj _ => ?_, fun j hj hj' => ?_⟩
  · have := h.1 (A.length + j) (by simp; omega) (by simp; omega)
    rwa [key j hj] at this
  · have := h.2 (A.length + j) (by simp; omega) (by simp; omega)
    rw [key j (by omega)] at this
    simp only [Nat.add_assoc] at this
    rwa [key (j + 1) hj'] at this
theorem page_cut {E : List Ct} {i : Nat} (hi : i < (pagesL E).length) : E = ((pagesL E).take i).flatten ++ (pagesL E)[i] ++ ((pagesL E).drop (i + 1)).flatten := by
  have h1 : pagesL E = (pagesL E).take i ++ (pagesL E)[i] :: (pagesL E).drop (i + 1) := by rw [← List.drop_eq_getElem_cons hi, List.take_append_drop]
  have h2 := congrArg List.flatten h1
  rw [pagesL_flat, List.flatten_append, List.flatten_cons] at h2
  rw [List.append_assoc]
  exact h2
theorem page_run {E : List Ct} {i : Nat} (hi : i < (pagesL E).length) (h : IsRun E) : IsRun (pagesL E)[i] := by
  rw [page_cut hi] at h
  exact h.mid
theorem page_kin {E : List Ct} {i : Nat} (hi : i < (pagesL E).length) (h : Kin E) : Kin (pagesL E)[i] := fun c hc => h c (page_mem (List.getElem_mem hi) c hc)
theorem page_len {E : List Ct} {i : Nat} (hi : i < (pagesL E).length) : (pagesL E)[i].length ≤ E.length := by
  have := congrArg List.length (page_cut hi)
  rw [List.length_append, List.length_append] at this
  omega
theorem runL_cut {E : List Ct} {i : Nat} (hi : i < (pagesL E).length) : ∃ r, runL E = ((pagesL E).take i).flatMap pageL ++ (pageL (pagesL E)[i] ++ r) := by
  have h1 : pagesL E = (pagesL E).take i ++ (pagesL E)[i] :: (pagesL E).drop (i + 1) := by rw [← List.drop_eq_getElem_cons hi, List.take_append_drop]
  have h2 := congrArg (List.flatMap pageL) h1
  rw [List.flatMap_append, List.flatMap_cons] at h2
  refine ⟨((pagesL E).drop (i + 1)).flatMap pageL ++ (indexL E ++ tailL E), ?_⟩
  unfold runL
  rw [h2]
  simp only [List.append_assoc]
theorem runL_page {E : List Ct} {i : Nat} (hi : i < (pagesL E).length) : (((runL E).drop (((pagesL E).take i).flatMap pageL).length).take (pageL (pagesL E)[i]).length) = pageL (pagesL E)[i] ∧ (((pagesL E).take i).flatMap pageL).length + (pageL (pagesL E)[i]).length ≤ (runL E).length := by
  obtain ⟨r, h⟩ := runL_cut hi
  rw [h]
  refine ⟨?_, by simp only [List.length_append]; omega⟩
  rw [List.drop_left, List.take_left]
theorem pageL_pos (P : List Ct) : 0 < (pageL P).length := by
  unfold pageL
  rw [sealL_len]
  omega
end
end Go.Proofs.YtdjhfcopnhcljaaGreatDoor
