/-
  Plain facts on the pages of a run: their first tuples rise; where they lie.
  run's reader: num, counted, key, span.
  run's reader: span, at what the index tells of a page.
-/
import Derived.Test.YtdjhfcopnhcljaaGreatDoorW08
import Derived.Test.YtdjhfcopnhcljaaGreatDoorW09
import Derived.Test.YtdjhfcopnhcljaaGreatDoorW23
import Derived.Test.YtdjhfcopnhcljaaGreatDoorW25
namespace Go.Proofs.YtdjhfcopnhcljaaGreatDoor
section
open Go Go.RowKit

theorem run_rises {E : List Ct} (h : IsRun E) : ∀ i k (hi : i < E.length) (hk : k < E.length), i < k → cmpT E[i].1 E[k].1 < 0 := by
  intro i k hi hk hlt
  obtain ⟨m, rfl⟩ : ∃ m, k = i + 1 + m := ⟨k - (i + 1), by omega⟩
  induction m with
  | zero => exact h.2 i hk hk
  | succ m ih =>
    have h1 := ih (by omega) (by omega)
    have h2 := h.2 (i + 1 + m) (by omega) (by omega)
    exact cmpT_trans_lt _ _ _ h1 (Int.le_of_lt h2)
theorem run_pairs {E : List Ct} (h : IsRun E) : E.Pairwise fun a b => cmpT a.1 b.1 < 0 := List.pairwise_iff_getElem.2 (run_rises h)
theorem page_ne {E : List Ct} {j : Nat} (h : j < (pagesL E).length) : (pagesL E)[j] ≠ [] := pgRest_ne E [] _ (List.getElem_mem h)
theorem page_mem {E : List Ct} {P : List Ct} (h : P ∈ pagesL E) : ∀ c ∈ P, c ∈ E := fun c hc => by
  have : c ∈ (pagesL E).flatten := List.mem_flatten.2 ⟨P, h, hc⟩
  rwa [pagesL_flat] at this
theorem head_mem {P : List Ct} (h : P ≠ []) : ∃ c ∈ P, c.1 = headT P := by
  obtain ⟨c, r, rfl⟩ := List.exists_cons_of_ne_nil h
  exact ⟨c, List.mem_cons_self .., rfl⟩
theorem heads_rise {E : List Ct} (h : IsRun E) : ∀ i k (hi : i < (pagesL E).length) (hk : k < (pagesL E).length), i < k → cmpT (headT (pagesL E)[i]) (headT (pagesL E)[k]) < 0 := by
  intro i k hi hk hlt
  have h1 := run_pairs h
  rw [← pagesL_flat E] at h1
  have h2 := List.pairwise_iff_getElem.1 (List.pairwise_flatten.1 h1).2 i k hi hk hlt
  obtain ⟨a, ha, ea⟩ := head_mem (page_ne hi)
  obtain ⟨b, hb, eb⟩ := head_mem (page_ne hk)
  rw [← ea, ← eb]
  exact h2 a ha b hb
/-- Where pages lie, the first of them at z. -/
def spL (z : Nat) : List (List Ct) → List Sp
  | [] => []
  | P :: r => (z, (pageL P).length, headT P) :: spL (z + (pageL P).length) r
theorem spL_len (z : Nat) (L : List (List Ct)) : (spL z L).length = L.length := by
  induction L generalizing z with
  | nil => rfl
  | cons P r ih => simp only [spL, List.length_cons, ih]
theorem spL_snoc (z : Nat) (L : List (List Ct)) (P : List Ct) : spL z (L ++ [P]) = spL z L ++ [(z + (L.flatMap pageL).length, (pageL P).length, headT P)] := by
  induction L generalizing z with
  | nil => simp [spL]
  | cons x r ih => simp only [List.cons_append, spL, ih, List.flatMap_cons, List.length_append, Nat.add_assoc]
theorem spL_at {L : List (List Ct)} : ∀ (z : Nat) {j : Nat} (hj : j < L.length), (spL z L)[j]'(by rw [spL_len]; exact hj) = (z + ((L.take j).flatMap pageL).length, (pageL L[j]).length, headT L[j]) := by
  induction L with
  | nil => intro z j hj; cases hj
  | cons x r ih =>
    intro z j hj
    cases j with
    | zero => simp [spL]
    | succ j =>
      have := ih (z + (pageL x).length) (j := j) (by simpa using hj)
      simp only [spL, List.getElem_cons_succ, List.take_succ_cons, List.flatMap_cons, List.length_append]
      rw [this, Nat.add_assoc]
end
section
open Go Go.RowKit

set_option maxRecDepth 100000 in
theorem rdnum_any (n₀ R : Nat) (l : List UInt8) (w : World) (h : RdB n₀ w R l) :
    Calls Tryz.prog 112 #[.pointer (some ⟨R, 0, none⟩)] w (TkEnd n₀ R (numP l 0 0) (fun x _ v => v = .int .u64 (x : Nat)) w) := by
  have HT := Lib.hid (takeN_any n₀ R l w h)
  clear h
  go_enter Tryz.func112, Tryz.ntmps112
  go_wp2_with fail
  refine HT.out.mono ?_
  rintro e w1 ⟨⟨x, r, v, ho, rfl, rfl, hr⟩ | ⟨ho, rfl⟩, hk⟩
  · have HO := Lib.hid (And.intro ho (And.intro hr hk))
    clear ho hr hk HT
    go_wp2_with fail
    go_ret
    exact ⟨.inl ⟨x, r, _, HO.out.1, rfl, rfl, HO.out.2.1⟩, HO.out.2.2⟩
  · have HO := Lib.hid (And.intro ho hk)
    clear ho hk HT
    go_wp2_with fail
    exact ⟨rfl, .inr ⟨HO.out.1, rfl⟩, HO.out.2⟩
/-- A tuple whose key stands as a byte string. -/
def keyQ (l : List UInt8) : Option (List V3 × List UInt8) := (textM (l.length : Int) l).bind fun p => (keysP p.1.length p.1 []).map fun T => (T, p.2)
set_option maxRecDepth 100000 in
set_option maxHeartbeats 1000000 in
theorem rdkey_any (n₀ R : Nat) (l : List UInt8) (w : World) (h : RdB n₀ w R l) :
    Calls Tryz.prog 150 #[.pointer (some ⟨R, 0, none⟩)] w (TkEnd n₀ R (keyQ l) (fun T W v => OwnR w.heap.size W v T) w) := by
  have HT := Lib.hid (takeX_any n₀ R l w h)
  have HLt := Lib.hid h.lt
  have HRn := Lib.hid h.1
  clear h
  go_enter Tryz.func150, Tryz.ntmps150
  go_wp2_with fail
  refine HT.out.mono ?_
  rintro e w1 ⟨⟨x, r, v, ho, rfl, hv, hr⟩ | ⟨ho, rfl⟩, hk⟩
  · have HFk := Lib.hid (fromKey_any v x w1 hv.arg)
    obtain ⟨pv, cv, rfl⟩ := hv.in_.shape
    have HR := Lib.hid hr
    have HK := Lib.hid hk
    have HQ := Lib.hid (show keyQ l = (keysP x.length x []).map fun T => (T, r) by unfold keyQ; rw [ho]; rfl)
    obtain ⟨nx, hnx⟩ : ∃ n, n = x.length := ⟨_, rfl⟩
    rw [← hnx] at HFk HQ ⊢
    clear hv hr hk ho HT hnx
    go_wp2_with fail
    refine HFk.out.mono ?_
    rintro e w2 ⟨hb, ⟨T, u, ho, rfl, hu⟩ | ⟨ho, rfl⟩⟩
    · have HR2 := Lib.hid (HR.out.below hb)
      have HK2 := Lib.hid (HK.out.trans (OnlyR.fromB hb))
      have HQ2 := Lib.hid (show keyQ l = some (T, r) by rw [HQ.out, ho]; rfl)
      have HU := Lib.hid (show OwnR w.heap.size w2 u T from ⟨hu.1, by
        rcases hu.2 with h | ⟨g, cap, cur, e, hB, rest⟩
        · exact .inl h
        · exact .inr ⟨g, cap, cur, e, Nat.le_trans HK.out.size hB, rest⟩⟩)
      obtain ⟨pu, cu, rfl⟩ : ∃ p c, u = .slice p T.length c := by
        rcases hu.2 with ⟨rfl, h0⟩ | ⟨g, cap, cur, rfl, -⟩
        · exact ⟨none, 0, by rw [show T.length = 0 from h0]⟩
        · exact ⟨_, cap, rfl⟩
      obtain ⟨tl, htl⟩ : ∃ n, n = T.length := ⟨_, rfl⟩
      rw [← htl] at HU ⊢
      clear ho hu hb HFk HQ htl
      go_wp2_with fail
      refine (intact_ok _).mono ?_
      rintro e w3 ⟨⟨z, rfl⟩, rfl⟩
      go_wp2_with fail
      go_ret
      exact ⟨.inl ⟨T, r, _, HQ2.out, rfl, HU.out, HR2.out⟩, HK2.out⟩
    · have HK2 := Lib.hid (HK.out.trans (OnlyR.fromB hb))
      have HQ2 := Lib.hid (show keyQ l = none by rw [HQ.out, ho]; rfl)
      clear ho hb HFk HQ
      go_wp2_with fail
      refine (intact_bad _).mono ?_
      rintro e w3 ⟨rfl, rfl⟩
      go_wp2_with fail
      exact ⟨rfl, .inr ⟨HQ2.out, rfl⟩, HK2.out⟩
  · have HO := Lib.hid (And.intro (show keyQ l = none by unfold keyQ; rw [ho]; rfl) hk)
    clear ho hk HT
    go_wp2_with fail
    exact ⟨rfl, .inr ⟨HO.out.1, rfl⟩, HO.out.2⟩
theorem keyQ_back {T : List V3} (r : List UInt8) (hT : OkT T) (hI : AllI T) : keyQ (textL (keyT T) ++ r) = some (T, r) := by
  have hk := keyT_short hT
  unfold keyQ
  rw [textM_of (by omega), textQ_back (keyT T) r (by rw [List.length_append]; unfold textL; rw [List.length_append]; omega) (by omega)]
  simp only [Option.bind_some, keysP_back (may_ok.2 hT) hI, Option.map_some]
end
section
open Go Go.RowKit

theorem cells3 {W : World} {b : Nat} {x y z : Value} {t : TypeId} (h : W.heap[b]? = some (.cells #[x, y, z] t (0, 0))) :
    (W.cell? ⟨b, 0, none⟩ = some x ∧ W.cell? ⟨b, 1, none⟩ = some y ∧ W.cell? ⟨b, 2, none⟩ = some z) ∧ W.frozen? ⟨b, 0, none⟩ = false ∧ W.frozen? ⟨b, 1, none⟩ = false ∧ W.frozen? ⟨b, 2, none⟩ = false :=
  ⟨⟨(cell_of_row _ b 0 _ _ (0, 0) h).trans rfl, (cell_of_row _ b 1 _ _ (0, 0) h).trans rfl, (cell_of_row _ b 2 _ _ (0, 0) h).trans rfl⟩, frozen_of_row _ b 0 _ _ h, frozen_of_row _ b 1 _ _ h, frozen_of_row _ b 2 _ _ h⟩
theorem turned_set3 (W : World) (b : Nat) (x y z : Value) : Turned (fun k => k = b) W (((W.setCell ⟨b, 0, none⟩ x).setCell ⟨b, 1, none⟩ y).setCell ⟨b, 2, none⟩ z) := by
  have h2 : Turned (fun k => k = b) ((W.setCell ⟨b, 0, none⟩ x).setCell ⟨b, 1, none⟩ y) (((W.setCell ⟨b, 0, none⟩ x).setCell ⟨b, 1, none⟩ y).setCell ⟨b, 2, none⟩ z) := ⟨rfl, rfl, rfl, by simp, fun k _ hk => heap_setCell_other _ ⟨b, 2, none⟩ k z hk⟩
  exact (turned_set2 W b x y).trans h2 (fun k _ e => e)
theorem ownR_off {Y : Nat → Prop} {B : Nat} {w w' : World} {v : Value} {T : List V3} (h : OwnR B w v T) (ht : Turned Y w w') (hn : ∀ k, v.ownBlock = some k → ¬ Y k) : OwnR B w' v T := ownsRow_off h ht hn
theorem ownR_lt {B : Nat} {w : World} {v : Value} {T : List V3} (h : OwnR B w v T) : ∀ k, v.ownBlock = some k → B ≤ k ∧ k < w.heap.size := World.ownsRow.lt h
set_option maxRecDepth 100000 in
set_option maxHeartbeats 2000000 in
theorem span_ok (n₀ R at_ en : Nat) (P : List Ct) (r : List UInt8) (w : World) (h : RdB n₀ w R (spanL P ++ r)) (hok : OkT (headT P) ∧ AllI (headT P)) (hsz : at_ + (pageL P).length ≤ en) (hen : en ≤ 10000000000) :
    Calls Tryz.prog 113 #[.pointer (some ⟨R, 0, none⟩), .int .i64 (at_ : Int), .int .i64 (en : Int)] w fun e w' => ∃ u, e = .returned (.agg #[.int .i64 (at_ : Int), .int .i64 ((pageL P).length : Int), u]) ∧ OwnR (w.heap.size + 1) w' u (headT P) ∧ RdB n₀ w' R r ∧ OnlyR R w w' := by
  obtain ⟨W0, hW0⟩ : ∃ W0, W0 = w.alloc (.cells #[.int .i64 0, .int .i64 0, .slice none 0 0] 110) := ⟨_, rfl⟩
  have hb0 : Below w.heap.size w W0 := by rw [hW0]; exact below_new w _
  have hs0 : W0.heap.size = w.heap.size + 1 := by rw [hW0]; simp
  have hr0 : W0.heap[w.heap.size]? = some (.cells #[.int .i64 0, .int .i64 0, .slice none 0 0] 110 (0, 0)) := by rw [hW0]; exact World.alloc_heap_new w _
  have HLt := Lib.hid h.lt
  have HRn := Lib.hid h.1
  obtain ⟨S, hS⟩ : ∃ S, S = (pageL P).length := ⟨_, rfl⟩
  rw [← hS] at hsz ⊢
  obtain ⟨K, hK⟩ : ∃ K, K = textL (keyT (headT P)) ++ r := ⟨_, rfl⟩
  have hl : spanL P ++ r = numL S ++ K := by unfold spanL; rw [hK, hS, List.append_assoc]
  have hkq : keyQ K = some (headT P, r) := by rw [hK]; exact keyQ_back r hok.1 hok.2
  have hnum := rdnum_any n₀ R _ W0 (h.below hb0)
  rw [hl, numP_back K (show S < 18446744073709551616 by omega)] at hnum
  have HNum := Lib.hid hnum
  have HKq := Lib.hid hkq
  have HB0 := Lib.hid hb0
  have HR0 := Lib.hid hr0
  have HS0 := Lib.hid hs0
  have k1 : (at_ : Int) + (S : Int) ≤ (en : Int) := by omega
  have k2 : (0 : Int) ≤ (S : Int) := by omega
  have k3 : (0 : Int) ≤ (at_ : Int) := by omega
  have k4 : (en : Int) ≤ 10000000000 := by omega
  have k5 : IntKind.u64.wrap ((en : Int) - (at_ : Int)) = (en : Int) - (at_ : Int) := by rw [IntKind.wrap_u64]; omega
  have k6 : IntKind.i64.wrap (S : Int) = (S : Int) := by rw [IntKind.wrap_i64]; omega
  have k7 : (S : Int) ≤ (en : Int) - (at_ : Int) := by omega
  clear h hb0 hs0 hr0 hok hsz hen hS hK hl hkq hnum
  go_enter Tryz.func113, Tryz.ntmps113
  go_wp2_with fail
  rw [← hW0]
  clear hW0
  refine HNum.out.mono ?_
  rintro e w1 ⟨⟨x, r1, v, ho, rfl, rfl, hr⟩ | ⟨ho, -⟩, hk⟩
  · injection ho with ho
    injection ho with h1 h2
    subst h1 h2
    have HR := Lib.hid hr
    have HK := Lib.hid hk
    clear hr hk HNum
    go_wp2_with fail
    refine (intact_ok _).mono ?_
    rintro e w2 ⟨⟨z, rfl⟩, rfl⟩
    go_wp2_with fail
    refine (rdkey_any n₀ R _ _ HR.out).mono ?_
    rintro e w2 ⟨⟨T, r2, v, ho, rfl, hv, hr⟩ | ⟨ho, -⟩, hk⟩
    · rw [HKq.out] at ho
      injection ho with ho
      injection ho with h1 h2
      subst h1 h2
      have hres := (hk.block w.heap.size (Nat.lt_of_lt_of_le (by have := HS0.out; omega) HK.out.size) (fun e => by have := HLt.out; have e : w.heap.size = R := e; omega)).trans ((HK.out.block w.heap.size (by have := HS0.out; omega) (fun e => by have := HLt.out; have e : w.heap.size = R := e; omega)).trans HR0.out)
      obtain ⟨⟨r0, r1, r2'⟩, g0, g1, g2⟩ := cells3 hres
      obtain ⟨pu, cu, rfl⟩ : ∃ p c, v = .slice p (headT P).length c := by
        rcases hv.2 with ⟨rfl, h0⟩ | ⟨g, cap, cur, rfl, -⟩
        · exact ⟨none, 0, by rw [show (headT P).length = 0 from h0]⟩
        · exact ⟨_, cap, rfl⟩
      have HEnd : Hid (∀ W, W = ((w2.setCell ⟨w.heap.size, 0, none⟩ (.int .i64 (at_ : Int))).setCell ⟨w.heap.size, 1, none⟩ (.int .i64 (S : Int))).setCell ⟨w.heap.size, 2, none⟩ (.slice pu (headT P).length cu) → OwnR (w.heap.size + 1) W (.slice pu (headT P).length cu) (headT P) ∧ RdB n₀ W R r ∧ OnlyR R w W) := Lib.hid (by
        rintro W rfl
        have ht := turned_set3 w2 w.heap.size (.int .i64 (at_ : Int)) (.int .i64 (S : Int)) (.slice pu (headT P).length cu)
        have h1 := HLt.out
        have h2 := HRn.out
        have h3 := HS0.out
        have h4 := HK.out.size
        refine ⟨ownR_off ⟨hv.1, ?_⟩ ht (fun k hk' e => ?_), hr.other ht (by omega) (by omega), ?_⟩
        · rcases hv.2 with h | ⟨g, cap, cur, e, hB, rest⟩
          · exact .inl h
          · exact .inr ⟨g, cap, cur, e, by omega, rest⟩
        · have := (ownR_lt hv k hk').1
          have e : k = w.heap.size := e
          omega
        · have t0 : OnlyR R w W0 := OnlyR.fromB HB0.out
          exact Turned.trans (Turned.trans (Turned.trans t0 HK.out (fun k _ e => e)) hk (fun k _ e => e)) ht (fun k hk' e => by have e : k = w.heap.size := e; omega))
      obtain ⟨tl, htl⟩ : ∃ n, n = (headT P).length := ⟨_, rfl⟩
      rw [← htl] at HEnd ⊢
      clear hv hr hk hres htl
      go_wp2_with fail
      exact bodyPost_ret (v := .agg #[.int .i64 (at_ : Int), .int .i64 (S : Int), .slice pu tl cu]) (by simp [results, Tryz.results113, go_sem, r0, r1, r2']) rfl ⟨_, rfl, HEnd.out _ rfl⟩
    · rw [HKq.out] at ho
      cases ho
  · cases ho
end
end Go.Proofs.YtdjhfcopnhcljaaGreatDoor
