/-
  The entries of a page's bytes.
  Contract of sort.Search at a predicate that rises.
  Disk.Read of a part of a file.
-/
import Derived.Test.YtdjhfcopnhcljaaGreatDoorW24
import Derived.Test.YtdjhfcopnhcljaaGreatDoorW44
import Derived.Test.YtdjhfcopnhcljaaGreatDoorW43
import Derived.Laws.Bits64
namespace Go.Proofs.YtdjhfcopnhcljaaGreatDoor
section
open Go Go.RowKit

/-- What the loop keeps behind k entries. -/
def EtJ (w : World) (R Bx : Nat) (P : List Ct) (x y u : Value) (k : Nat) (l : Value) (W : World) : Prop :=
  ∃ Rr, OwnCt Bx W l Rr ∧ Rr.map (·.1) = P.take k ∧ RdB R W R ((P.drop k).flatMap cntL) ∧ Below w.heap.size w W ∧ W.heap[w.heap.size]? = some (.cells #[x, y, u] 110 (0, 0)) ∧ OwnR 0 W u (headT P) ∧ Bx ≤ W.heap.size
theorem drop_cnt {P : List Ct} {k : Nat} (hk : k < P.length) : (P.drop k).flatMap cntL = cntL P[k] ++ (P.drop (k + 1)).flatMap cntL := by rw [List.drop_eq_getElem_cons hk, List.flatMap_cons]
theorem takeC_snoc {L : List Ct} {k : Nat} (hk : k < L.length) : L.take (k + 1) = L.take k ++ [L[k]] := by rw [List.take_succ_eq_append_getElem hk]
theorem OwnCt.weak {B B' : Nat} {w : World} {v : Value} {R : List (Ct × Value)} (h : OwnCt B w v R) (hB : B' ≤ B) : OwnCt B' w v R := by
  refine ⟨⟨h.1.1, ?_⟩, h.2⟩
  rcases h.1.2 with h | ⟨g, cap, cur, e, h1, rest⟩
  · exact .inl h
  · exact .inr ⟨g, cap, cur, e, Nat.le_trans hB h1, rest⟩
theorem OwnCt.head {B : Nat} {w : World} {p : Option Addr} {n c : Nat} {x : Ct × Value} {r : List (Ct × Value)} (h : OwnCt B w (.slice p n c) (x :: r)) : ∃ g pg cg, p = some ⟨g, 0, none⟩ ∧ g < w.heap.size ∧ w.cell? ⟨g, 0, none⟩ = some (.slice pg x.1.1.length cg) ∧ OwnR 0 w (.slice pg x.1.1.length cg) x.1.1 := by
  have hx := (h.2 x (List.mem_cons_self ..)).1
  obtain ⟨pg, cg, hu⟩ : ∃ p c, x.2 = .slice p x.1.1.length c := by
    rcases hx.2 with ⟨e, h0⟩ | ⟨g, cap, cur, e, -⟩
    · exact ⟨none, 0, by rw [e, show x.1.1.length = 0 from h0]⟩
    · exact ⟨_, cap, e⟩
  rcases h.1.2 with ⟨-, h0⟩ | ⟨g, cap, cur, e, hB, hg, hc, hm, hsz, hcur⟩
  · simp at h0
  · injection e with e1 _ _
    subst e1
    refine ⟨g, pg, cg, rfl, (Array.getElem?_eq_some_iff.1 hg).1, ?_, by rw [← hu]; exact hx⟩
    rw [cell_of_row w g 0 cur _ (0, 0) hg, ← hu]
    have h1 : (ctV (x :: r))[0]? = some x.2 := rfl
    rw [← hcur, List.getElem?_take] at h1
    split at h1
    · simpa using h1
    · cases h1
/-- Behind the append of an entry. -/
theorem EtJ.next {w w5 w6 : World} {R Bx k : Nat} {P : List Ct} {x y u v u5 v6 : Value} {q : Ct} {o : Obj} {Rr : List (Ct × Value)} (hown : OwnCt Bx w5 v Rr) (hm : Rr.map (·.1) = P.take k) (hsn : P.take (k + 1) = P.take k ++ [q]) (hrd : RdB R w5 R ((P.drop (k + 1)).flatMap cntL)) (hbw : Below w.heap.size w w5)
    (hsp : w5.heap[w.heap.size]? = some (.cells #[x, y, u] 110 (0, 0))) (hou : OwnR 0 w5 u (headT P)) (hsz : Bx ≤ w5.heap.size) (hRB : w.heap.size < R ∧ R < Bx) (h6 : OwnCt Bx w6 v6 (Rr ++ [(q, u5)])) (hg : (w5.alloc o).grownBy w6 v.ownBlock) : EtJ w R Bx P x y u (k + 1) v6 w6 := by
  have hbn := below_new w5 o
  have t1 : Turned (fun k => v.ownBlock = some k) (w5.alloc o) w6 := Turned.of_grown hg
  have hlow : ∀ k, v.ownBlock = some k → Bx ≤ k := fun k e => (World.ownsRow.lt hown.1 k e).1
  have tt : Turned (fun k => v.ownBlock = some k) w5 w6 := (Turned.fromB (Y := fun k => v.ownBlock = some k) hbn).trans t1 (fun k _ e => e)
  refine ⟨_, h6, ?_, hrd.off tt (fun k e => ?_), hbw.trans (tt.below hbw.size (fun k e => ?_)), (tt.block _ (Array.getElem?_eq_some_iff.1 hsp).1 (fun e => ?_)).trans hsp, ownR_off hou tt (fun k hk e => ?_), Nat.le_trans hsz tt.size⟩
  · rw [List.map_append, hm, hsn, List.map_cons, List.map_nil]
  · have := hlow k e; omega
  · have := hlow k e; omega
  · have := hlow _ e; omega
  · obtain ⟨-, cur, hc⟩ := ownsRow_block hou k hk
    obtain ⟨-, cur', hc'⟩ := ownsRow_block hown.1 k e
    rw [hc] at hc'
    injection hc' with hc'
    injection hc' with _ hc' _
    exact absurd hc' (by decide)
set_option maxRecDepth 100000 in
set_option maxHeartbeats 8000000 in
theorem entries_ok (a S : Int) (u : Value) (ad : Addr) (cap : Nat) (P : List Ct) (w : World) (hb : ByC w.heap.size w (.slice (some ad) (pageL P).length cap) (pageL P)) (hu : OwnR 0 w u (headT P)) (hP : P ≠ []) (hR : IsRun P) (hK : Kin P) (hl : P.length ≤ 1000) (hN : (pageL P).length ≤ 100000000) (G : Glob w) :
    Calls Tryz.prog 52 #[.agg #[.int .i64 a, .int .i64 S, u], .slice (some ad) (pageL P).length cap] w fun e w' => ∃ v Rr, e = .returned v ∧ OwnCt w.heap.size w' v Rr ∧ Rr.map (·.1) = P ∧ Below w.heap.size w w' := by
  obtain ⟨pu, cu, rfl⟩ : ∃ p c, u = .slice p (headT P).length c := by
    rcases hu.2 with ⟨rfl, h0⟩ | ⟨g, cap, cur, rfl, -⟩
    · exact ⟨none, 0, by rw [show (headT P).length = 0 from h0]⟩
    · exact ⟨_, cap, rfl⟩
  obtain ⟨hl8, hh8⟩ : ∃ n, n = (headT P).length := ⟨_, rfl⟩
  rw [← hh8] at hu ⊢
  obtain ⟨C, hC⟩ : ∃ C, C = numL P.length ++ P.flatMap cntL := ⟨_, rfl⟩
  have hpg : pageL P = sealL C := by unfold pageL; rw [hC]
  obtain ⟨W0, hW0⟩ : ∃ W0, W0 = w.alloc (.cells #[.int .i64 a, .int .i64 S, .slice pu hl8 cu] 110) := ⟨_, rfl⟩
  have hb0 : Below w.heap.size w W0 := by rw [hW0]; exact below_new w _
  have hs0 : W0.heap.size = w.heap.size + 1 := by rw [hW0]; simp
  have hr0 : W0.heap[w.heap.size]? = some (.cells #[.int .i64 a, .int .i64 S, .slice pu hl8 cu] 110 (0, 0)) := by rw [hW0]; exact World.alloc_heap_new w _
  have HOp := Lib.hid (opened_ok (.slice (some ad) (pageL P).length cap) (pageL P) C W0 ⟨(hb.1.below hb0).mono hb0.size, hb.2⟩ (by omega) (G.below hb0) (by rw [hpg]; exact openE_seal C))
  have HB0 := Lib.hid hb0
  have HR0 := Lib.hid hr0
  have HS0 := Lib.hid hs0
  have HU0 := Lib.hid (hu.below hb0)
  have HP := Lib.hid (And.intro hP (And.intro hR (And.intro hK (And.intro hl hN))))
  have HH8 := Lib.hid hh8
  have HC := Lib.hid hC
  obtain ⟨N, hNN⟩ : ∃ N, N = (pageL P).length := ⟨_, rfl⟩
  rw [← hNN] at HOp ⊢
  clear hb0 hr0 hs0 hu hP hR hK hN hh8 hC hpg hb G hNN
  go_enter Tryz.func52, Tryz.ntmps52
  go_wp2_with fail
  rw [← hW0]
  clear hW0
  refine HOp.out.mono ?_
  rintro e w1 ⟨v1, rfl, ho1, hb1⟩
  obtain ⟨q1, d1, rfl⟩ := ho1.in_.shape
  obtain ⟨W3, hW3⟩ : ∃ W3, W3 = w1.alloc (.cells #[.slice q1 C.length d1] 184) := ⟨_, rfl⟩
  have hb3 : Below w1.heap.size w1 W3 := by rw [hW3]; exact below_new w1 _
  have hs3 : W3.heap.size = w1.heap.size + 1 := by rw [hW3]; simp
  have HRd := Lib.hid (show RdB w1.heap.size W3 w1.heap.size C by
    obtain ⟨-, p', c', e, h1, h2⟩ := ho1.byC
    obtain ⟨-, -, e3⟩ := Value.slice.inj e
    subst e3
    exact ⟨Nat.le_refl _, q1, d1, by rw [hW3]; exact World.alloc_heap_new w1 _, h1, h2, ho1.in_.below hb3⟩)
  have hb13 : Below W0.heap.size W0 W3 := hb1.trans (hb3.mono hb1.size)
  have HB3 := Lib.hid (HB0.out.trans (hb13.mono HB0.out.size))
  have HR3 := Lib.hid ((hb13.block w.heap.size (by have := HS0.out; omega)).trans HR0.out)
  have HU3 := Lib.hid (HU0.out.below hb13)
  have HSb := Lib.hid (show w.heap.size < w1.heap.size by have := HS0.out; have := hb1.size; omega)
  have HS3 := Lib.hid hs3
  obtain ⟨il, hil⟩ : ∃ il, il = C.length := ⟨_, rfl⟩
  rw [← hil] at hW3 ⊢
  clear ho1 hb1 hb3 hs3 hb13 hil HOp
  go_wp2_with fail
  rw [← hW3]
  clear hW3
  generalize w1.heap.size = R at *
  have hnum := rdnum_any R R _ W3 HRd.out
  rw [HC.out, numP_back (P.flatMap cntL) (show P.length < 18446744073709551616 by omega)] at hnum
  refine hnum.mono ?_
  rintro e w4 ⟨⟨x, r1, v, ho, rfl, rfl, hr⟩ | ⟨ho, -⟩, hk⟩
  rotate_left
  · cases ho
  injection ho with ho
  injection ho with h1 h2
  subst h1 h2
  have HR4 := Lib.hid hr
  have HK4 := Lib.hid hk
  have hfar : ∀ k, (Value.slice pu hl8 cu).ownBlock = some k → k ≠ R := fun k e e' => by
    obtain ⟨-, cur, hc⟩ := ownsRow_block HU3.out k e
    obtain ⟨-, p', c', h1, -⟩ := HRd.out
    rw [e', h1] at hc
    injection hc with hc
    injection hc with _ hc _
    exact absurd hc (by decide)
  have HU4 := Lib.hid (ownR_off HU3.out hk (fun k e e' => hfar k e e'))
  have HR4' := Lib.hid ((hk.block w.heap.size (Array.getElem?_eq_some_iff.1 HR3.out).1 (fun e => by have e : w.heap.size = R := e; have := HSb.out; omega)).trans HR3.out)
  clear hr hk hnum hfar
  have hb34 : Below w.heap.size w w4 := HB3.out.trans (HK4.out.below HB3.out.size (by have := HSb.out; omega))
  have HJ0 := Lib.hid (show EtJ w R w4.heap.size P (.int .i64 a) (.int .i64 S) (.slice pu hl8 cu) 0 (.slice none 0 0) w4 from ⟨[], OwnCt.nil _ _, by simp, by rw [List.drop_zero]; exact HR4.out, hb34, HR4'.out, HU4.out, Nat.le_refl _⟩)
  have HRB := Lib.hid (show w.heap.size < R ∧ R < w4.heap.size from ⟨HSb.out, HR4.out.lt⟩)
  clear hb34
  go_wp2_with fail
  generalize w4.heap.size = Bx at *
  obtain ⟨pl, hpl⟩ : ∃ n, n = P.length := ⟨_, rfl⟩
  rw [← hpl] at hl ⊢
  have HPl := Lib.hid hpl
  clear hpl
  go_loopw [6, 13] (fun l i wr => ∃ k : Nat, k ≤ pl ∧ i = .int .u64 k ∧ (∃ p c, l = .slice p k c) ∧ Hid (EtJ w R Bx P (.int .i64 a) (.int .i64 S) (.slice pu hl8 cu) k l wr)) (fun _ i _ => pl - (intOf i).toNat)
  case atStart => exact ⟨0, Nat.zero_le _, rfl, ⟨_, _, rfl⟩, HJ0⟩
  case round =>
    obtain ⟨k, hk, rfl, ⟨p, c, rfl⟩, HJ⟩ := hrel
    by_cases hlt : k < pl
    · have hlt' : (k : Int) < (pl : Int) := by omega
      have hk63 : (k : Int) + 1 ≤ 1001 := by omega
      have hk0 : (0 : Int) ≤ (k : Int) := by omega
      obtain ⟨Rr, hown, hm, hrd, hbw, hsp, hou, hsz⟩ := HJ.out
      have hkP : k < P.length := by rw [← HPl.out]; exact hlt
      rw [drop_cnt hkP] at hrd
      have hok := Kin.ok HP.out.2.2.1 HP.out.2.1 P[k] (List.getElem_mem hkP)
      have hsn := takeC_snoc hkP
      obtain ⟨q, hq⟩ : ∃ q, q = P[k] := ⟨_, rfl⟩
      rw [← hq] at hrd hok hsn
      have hcnt := rdcnt_any R R _ wr hrd (Nat.le_of_lt hrd.lt)
      rw [show cntL q = tupL q.1 ++ intL q.2 from rfl, cntQ_back _ (may_ok.2 hok.1) hok.2.1 hok.2.2] at hcnt
      have HCnt := Lib.hid hcnt
      have HOwn := Lib.hid hown
      have HM := Lib.hid hm
      have HRd' := Lib.hid hrd
      have HBw := Lib.hid hbw
      have HSp := Lib.hid hsp
      have HOu := Lib.hid hou
      have HSz := Lib.hid hsz
      have HSn := Lib.hid hsn
      clear hown hm hrd hbw hsp hou hsz hok hsn hq hcnt hkP HJ
      go_wp2_with fail
      refine HCnt.out.mono ?_
      rintro e w5 ⟨⟨x, r1, v, ho, rfl, ⟨u5, rfl, hu5, h8⟩, hr⟩ | ⟨ho, -⟩, hk5⟩
      rotate_left
      · cases ho
      injection ho with ho
      injection ho with h1 h2
      subst h1 h2
      have hRl : Rr.length = k := by
        have := congrArg List.length HM.out
        rw [List.length_map, List.length_take, ← HPl.out] at this
        omega
      obtain ⟨p5, c5, rfl⟩ : ∃ p c, u5 = .slice p q.1.length c := by
        rcases hu5.2 with ⟨rfl, h0⟩ | ⟨g, cap, cur, rfl, -⟩
        · exact ⟨none, 0, by rw [show q.1.length = 0 from h0]⟩
        · exact ⟨_, cap, rfl⟩
      obtain ⟨tl, htl⟩ : ∃ tl, tl = q.1.length := ⟨_, rfl⟩
      obtain ⟨qn, hqn⟩ : ∃ x, x = q.2 := ⟨_, rfl⟩
      rw [← htl] at hu5
      simp only [← htl, ← hqn]
      obtain ⟨o5, ho5⟩ : ∃ o, o = Obj.cells #[.slice p5 tl c5, .int .i64 qn] 66 := ⟨_, rfl⟩
      obtain ⟨-, pr, cr, hrb, -⟩ := HRd'.out
      have hown5 : OwnCt Bx w5 (.slice p k c) Rr := HOwn.out.other hk5 hrb (fun cur e => by injection e with _ e _; exact absurd e (by decide)) (fun cur e => by injection e with _ e _; exact absurd e (by decide))
      have hou5 : OwnR 0 w5 (.slice pu hl8 cu) (headT P) := ownR_off HOu.out hk5 (fun j hj e => by
        obtain ⟨-, cur, hc⟩ := ownsRow_block HOu.out j hj
        rw [show j = R from e, hrb] at hc
        injection hc with hc
        injection hc with _ hc _
        exact absurd hc (by decide))
      have hRB := HRB.out
      have hsp5 := (hk5.block w.heap.size (Array.getElem?_eq_some_iff.1 HSp.out).1 (fun e => by have e : w.heap.size = R := e; omega)).trans HSp.out
      have hbw5 := HBw.out.trans (OnlyR.below hk5 HBw.out.size (by omega))
      have hsz5 := Nat.le_trans HSz.out hk5.size
      have hbn := below_new w5 o5
      have HNext := Lib.hid (fun v6 w6 (h6 : OwnCt Bx w6 v6 (Rr ++ [(q, .slice p5 tl c5)])) (hg : (w5.alloc o5).grownBy w6 (Value.slice p k c).ownBlock) => EtJ.next hown5 HM.out HSn.out hr hbw5 hsp5 hou5 hsz5 hRB h6 hg)
      have HAo := Lib.hid (And.intro (hown5.below hbn) (And.intro (hu5.below hbn) (And.intro (show q.1.length ≤ 9 from Nat.le_trans h8 (by decide)) (And.intro (show Rr.length ≤ 1000000 by omega) (show Bx ≤ (w5.alloc o5).heap.size by rw [World.size_alloc]; omega)))))
      have HY := Lib.hid (show (w5.alloc o5).cell? ((⟨w5.heap.size, 0, none⟩ : Addr).add 0) = some (.slice p5 tl c5) ∧ (w5.alloc o5).cell? ((⟨w5.heap.size, 0, none⟩ : Addr).add 1) = some (.int .i64 q.2) by
        rw [ho5, hqn]
        exact (cells2R (World.alloc_heap_new w5 (.cells #[.slice p5 tl c5, .int .i64 q.2] 66))).1)
      have HRl := Lib.hid hRl
      clear hown5 hou5 hRB hsp5 hbw5 hsz5 hbn hr hu5 h8 hk5 hrb hRl HCnt htl hqn
      go_wp2_with (at_builtin; rw [← ho5]; refine wpList_appCt rfl (.tmp 15) (.tmp 18) rfl Bx (.slice p k c) Rr q (.slice p5 tl c5) ⟨w5.heap.size, 0, none⟩ rfl rfl HAo.out.1 HAo.out.2.1 HAo.out.2.2.1 HAo.out.2.2.2.1 HAo.out.2.2.2.2 HY.out.1 HY.out.2 ?_; intro v6 w6 ho6 hg6 hv6; have HJ6 := Lib.hid (HNext.out v6 w6 ho6 hg6); obtain ⟨q6, d6, e6⟩ := ho6.shape; rw [List.length_append, HRl.out] at e6; subst e6; clear ho6 hg6 hv6)
      go_roundw
      case rel => exact ⟨k + 1, hlt, by simp, ⟨_, _, rfl⟩, HJ6⟩
      case measure => simp [intOf]; omega
    · have hkp : k = pl := by omega
      subst hkp
      obtain ⟨Rr, hown, hm, hrd, hbw, hsp, hou, hsz⟩ := HJ.out
      rw [HPl.out, List.take_length] at hm
      rw [HPl.out, List.drop_length, List.flatMap_nil] at hrd
      obtain ⟨-, p9, cap9, hr9, -⟩ := hrd
      have c9 : wr.cell? ⟨R, 0, none⟩ = some (.slice p9 ([] : List UInt8).length cap9) := (cell_of_row _ R 0 _ _ (0, 0) hr9).trans rfl
      simp only [List.length_nil] at c9
      have hin := hown.in_
      rw [hm] at hin
      have HChk := Lib.hid (check_any _ P wr hin (by have := HP.out.2.2.2.1; omega))
      have hpos : 0 < k := by rw [HPl.out]; exact List.length_pos_iff.2 HP.out.1
      have hpos' : (0 : Int) < (k : Int) := by omega
      have HOwn := Lib.hid hown
      have HM := Lib.hid hm
      have HBw := Lib.hid hbw
      have HSp := Lib.hid hsp
      have HOu := Lib.hid hou
      have HSz := Lib.hid hsz
      clear hown hm hbw hsp hou hsz hin hr9 HJ hk
      go_wp2_with fail
      refine HChk.out.mono ?_
      rintro e w7 ⟨⟨-, rfl⟩ | ⟨hno, -⟩, hb7⟩
      rotate_left
      · exact absurd HP.out.2.1 hno
      have HB7 := Lib.hid hb7
      clear hb7 HChk
      go_wp2_with fail
      refine (intact_ok _).mono ?_
      rintro e w8 ⟨⟨zz, rfl⟩, rfl⟩
      have hown7 := HOwn.out.below HB7.out
      obtain ⟨x, r, rfl⟩ : ∃ x r, Rr = x :: r := by
        cases Rr with
        | nil => exact absurd HM.out.symm (by simpa using HP.out.1)
        | cons x r => exact ⟨x, r, rfl⟩
      have hhd : headT P = x.1.1 := by rw [← HM.out]; rfl
      obtain ⟨g, pg, cg, rfl, hgl, cg0, hgo⟩ := hown7.head
      have h88 : x.1.1.length ≤ 9 := (hown7.2 x (List.mem_cons_self ..)).2
      have hou7 := HOu.out.below HB7.out
      rw [hhd] at hou7
      obtain ⟨xl, hxl⟩ : ∃ n, n = x.1.1.length := ⟨_, rfl⟩
      have HPT := Lib.hid (show TupS (fun k => k < w7.heap.size) w7 (.slice pg x.1.1.length cg) x.1.1 from (hgo.in_ (by omega)).wide)
      have HXT := Lib.hid (show TupS (fun k => k < w7.heap.size) w7 (.slice pu hl8 cu) x.1.1 from (hou7.in_ (by omega)).wide)
      rw [← hxl] at HPT cg0
      have hs7 := (HB7.out.block w.heap.size (Array.getElem?_eq_some_iff.1 HSp.out).1).trans HSp.out
      have HS := Lib.hid (show w7.cell? ⟨g, 0, none⟩ = some (.slice pg xl cg) ∧ w7.cell? ⟨w.heap.size, 2, none⟩ = some (.slice pu hl8 cu) from ⟨cg0, (cells3 hs7).1.2.2⟩)
      have HLt := Lib.hid (show g < w7.heap.size ∧ w.heap.size < w7.heap.size from ⟨hgl, (Array.getElem?_eq_some_iff.1 hs7).1⟩)
      obtain ⟨T, hT⟩ : ∃ T, T = x.1.1 := ⟨_, rfl⟩
      rw [← hT] at HPT HXT
      have hzc : cmpT T T = 0 := cmpT_self T
      have HZc := Lib.hid hzc
      have HEn := Lib.hid (show ∀ W, Below w7.heap.size w7 W → ∃ v Rr, Ending.returned (.slice (some ⟨g, 0, none⟩) k c) = .returned v ∧ OwnCt w.heap.size W v Rr ∧ Rr.map (·.1) = P ∧ Below w.heap.size w W from fun W hW =>
        ⟨_, _, rfl, (hown7.below hW).weak (by have := HRB.out; omega), HM.out, HBw.out.trans ((HB7.out.mono HBw.out.size).trans (hW.mono (Nat.le_trans HBw.out.size HB7.out.size)))⟩)
      clear hown7 hhd hgl cg0 hgo h88 hou7 hxl hs7 hT hzc c9
      go_wp2_with fail
      go_region_held3 (fun X => X.cell? ⟨g, 0, none⟩ = some (.slice pg xl cg) ∧ X.cell? ⟨w.heap.size, 2, none⟩ = some (.slice pu hl8 cu)) (first | exact HS4.out | exact HS.out)
        (first | (go_at_call 53; refine (intact_ok _).mono ?_; rintro e w6 ⟨⟨zz, rfl⟩, rfl⟩) | (go_at_call 45; refine (tcompareS_any _ _ T T _ ?_ ?_).mono ?_; exact HPT.out; exact HXT.out; rintro e w4 ⟨rfl, hg4⟩; have hb4 := (Below.refl w7.heap.size w7).drew.trans hg4.below; rw [HZc.out]; have HB4 := Lib.hid hb4; have HS4 := Lib.hid (And.intro ((hb4.cell (p := ⟨g, 0, none⟩) HLt.out.1).trans HS.out.1) ((hb4.cell (p := ⟨w.heap.size, 2, none⟩) HLt.out.2).trans HS.out.2)); clear hb4 hg4))
      go_wp2_with fail
      go_ret
      exact HEn.out _ HB4.out
end
section
open Go Go.RowKit

set_option maxRecDepth 100000 in
set_option maxHeartbeats 2000000 in
theorem search_any (n k : Nat) (caps : Array Value) (p : Nat → Bool) (w : World) (hn : n ≤ 100000) (eg : ∀ args w, (callFunc k args).run Tryz.prog w = .ok (.enter k args) w) (hp : ∀ h j, h ≤ j → j < n → p h = true → p j = true)
    (hf : ∀ W h, h < n → Below w.heap.size w W → Calls Tryz.prog k (#[.int .i64 (h : Int)] ++ caps) W fun e w' => e = .returned (.bool (p h)) ∧ Below W.heap.size W w') :
    Calls Tryz.prog 85 #[.int .i64 (n : Int), .func (.func k) #[] caps] w fun e w' => ∃ i, i ≤ n ∧ e = .returned (.int .i64 (i : Int)) ∧ (∀ j, j < i → p j = false) ∧ (∀ j, i ≤ j → j < n → p j = true) ∧ Below w.heap.size w w' := by
  have HF := Lib.hid hf
  have HP := Lib.hid hp
  have hri : ∀ args w, (callFunc k args).run Tryz.prog w = .ok (.enter k args) w := eg
  clear hf hp
  go_enter Tryz.func85, Tryz.ntmps85
  go_wp2_with fail
  go_loopw [5, 6] (fun x y wr => ∃ i j : Nat, i ≤ j ∧ j ≤ n ∧ x = .int .i64 (i : Int) ∧ y = .int .i64 (j : Int) ∧ Hid ((∀ q, q < i → p q = false) ∧ (∀ q, j ≤ q → q < n → p q = true) ∧ Below w.heap.size w wr)) (fun x y _ => (intOf y).toNat - (intOf x).toNat)
  case atStart => exact ⟨0, n, Nat.zero_le _, Nat.le_refl _, rfl, rfl, Lib.hid ⟨fun q h => absurd h (Nat.not_lt_zero q), fun q h h' => by omega, Below.refl _ _⟩⟩
  case round =>
    obtain ⟨i, j, hij, hjn, rfl, rfl, HJ⟩ := hrel
    by_cases hlt : i < j
    · have hlt' : (i : Int) < (j : Int) := by omega
      have h0 : (0 : Int) ≤ (i : Int) := by omega
      have h1 : (j : Int) ≤ 100000 := by omega
      go_wp2_with fail
      obtain ⟨h, hh⟩ : ∃ h : Nat, h = (i + j) / 2 := ⟨_, rfl⟩
      have hh' : ((i : Int) + (j : Int)) / 2 = (h : Int) := by omega
      rw [hh']
      have HH := Lib.hid (show i ≤ h ∧ h < j by omega)
      have h2 : (h : Int) ≤ 100000 := by omega
      have h3 : (0 : Int) ≤ (h : Int) := by omega
      clear hh hh'
      refine (HF.out wr h (by have := HH.out; omega) HJ.out.2.2).mono ?_
      rintro e w1 ⟨rfl, hb⟩
      have HB := Lib.hid (HJ.out.2.2.trans (hb.mono HJ.out.2.2.size))
      clear hb
      cases hph : p h
      · go_wp2_with fail
        go_roundw
        case rel =>
          refine ⟨h + 1, j, by have := HH.out; omega, hjn, by simp, rfl, Lib.hid ⟨fun q hq => ?_, HJ.out.2.1, HB.out⟩⟩
          cases hpq : p q
          · rfl
          · have := HP.out q h (by omega) (by have := HH.out; omega) hpq
            rw [hph] at this
            cases this
        case measure => have := HH.out; simp [intOf]; omega
      · go_wp2_with fail
        go_roundw
        case rel => exact ⟨i, h, HH.out.1, by have := HH.out; omega, rfl, rfl, Lib.hid ⟨HJ.out.1, fun q hq hn => HP.out h q hq hn hph, HB.out⟩⟩
        case measure => have := HH.out; simp [intOf]; omega
    · obtain rfl : i = j := by omega
      go_wp2_with fail
      go_ret
      exact ⟨i, hjn, rfl, HJ.out.1, HJ.out.2.1, HJ.out.2.2⟩
end
section
open Go Go.RowKit Go.Maps Go.WideMaps

theorem RdIn.part {n : Nat} {w : World} {b off c N : Nat} {l : List UInt8} (h : RdIn n w (.slice (some ⟨b, off, none⟩) l.length c) l) (z : Nat) (hz : z + N ≤ l.length) (hN : 0 < N) : RdIn n w (.slice (some ⟨b, off + z, none⟩) N (c - z)) ((l.drop z).take N) := by
  have hl : ((l.drop z).take N).length = N := by rw [List.length_take, List.length_drop]; omega
  rcases h with ⟨rfl, -⟩ | ⟨b', off', cap', e, hb, hc⟩
  · simp at hz; omega
  · injection e with e1 _ e3
    injection e1 with e1
    injection e1 with e1 e2 _
    subst e1 e2
    refine .inr ⟨b, off + z, c - z, by rw [hl], hb, fun j hj => ?_⟩
    have := hc (z + j) (by rw [hl] at hj; omega)
    rw [List.getElem_take, List.getElem_drop, Nat.add_assoc]
    exact this
set_option maxRecDepth 100000 in
set_option maxHeartbeats 2000000 in
theorem read_mid {n0 nF : Nat} {w : World} {d F O D X g : Nat} {room next fixed : Int} {nf no nd nx m : Nat} {oo xx : DataW Value} {chg fv wrn : Value} {xs : List Value} {s : ByteArray} {L : List UInt8}
    (h : DkS n0 w d F O D X room next nf no nd nx m (oneM (.int .i64 0) (.pointer (some ⟨g, 0, none⟩))) oo (oneM (.string s.data.toList) (.int .i64 0)) xx chg xs) (hs : s.size ≤ 64) (hg : FileAt w g fv fixed wrn) (hf : OwnF nF w fv L) (z N : Nat) (hz : z + N ≤ L.length) (hN : 0 < N) (hL : N ≤ 1000000) :
    Calls Tryz.prog 78 #[.pointer (some ⟨d, 0, none⟩), .string s, .int .i64 (z : Int), .int .i64 (N : Int)] w fun e w' => ∃ v, e = .returned (.tuple #[v, .int .i64 0]) ∧ OwnF w.heap.size w' v ((L.drop z).take N) ∧ Grow (fun _ => False) w w' := by
  have HM := Lib.hid (made_yes h.on)
  have HF := Lib.hid (find_any s 0 (.pointer (some ⟨g, 0, none⟩)) h (by unfold maxLen; omega) (by decide) (oneM_at _ (sym_str _)) (by rw [oneM_has]; exact sym_str _) rfl)
  have HFi := Lib.hid hg
  have HFb := Lib.hid hf
  have hlN : ((L.drop z).take N).length = N := by rw [List.length_take, List.length_drop]; omega
  have HLn := Lib.hid hlN
  have z1 : (0 : Int) ≤ (L.length : Int) := by omega
  have z3 : (0 : Int) ≤ (z : Int) := by omega
  have z4 : (0 : Int) ≤ (N : Int) := by omega
  have z5 : (z : Int) + (N : Int) ≤ (L.length : Int) := by omega
  have HZ := Lib.hid (And.intro hz (And.intro hN hL))
  clear h hs hg hf hL hz hlN hN
  go_enter Tryz.func78, Tryz.ntmps78
  go_wp2_with fail
  refine HM.out.mono ?_
  rintro e w1 ⟨rfl, rfl⟩
  go_wp2_with fail
  refine HF.out.mono ?_
  rintro e w1 ⟨rfl, hg1⟩
  have HG1 := Lib.hid hg1
  obtain ⟨b0, -, -⟩ := (HFi.out.grow hg1 (fun e => e)).cells
  have hlg : g < w1.heap.size := (Array.getElem?_eq_some_iff.1 (HFi.out.grow hg1 (fun e => e))).1
  have HF1 := Lib.hid (HFb.out.grow hg1 (fun _ _ e => e))
  clear hg1 HM HF
  rcases HF1.out.full with ⟨hL0, hv⟩ | ⟨b, c, hv, hc1, hc2, hrd⟩
  · exfalso
    have := HZ.out
    rw [hL0] at this
    simp at this
    omega
  · subst hv
    have HCl := Lib.hid (cloneB_any w1 (.slice (some ⟨b, z, none⟩) N (c - z)) ((L.drop z).take N) (by have := hrd.part z HZ.out.1 HZ.out.2.1; rwa [Nat.zero_add] at this) (by rw [HLn.out]; exact HZ.out.2.2))
    have i1 : (L.length : Int) ≤ (c : Int) := by omega
    have i2 : (c : Int) ≤ 9223372036854775807 := by omega
    have i3 : ¬ c = z := by have := HZ.out; omega
    have i4 : (z : Int) + (N : Int) - (z : Int) = (N : Int) := by omega
    have i5 : (z : Int) + (N : Int) ≤ (c : Int) := by omega
    clear hrd
    go_wp2_with fail
    refine HCl.out.mono ?_
    rintro e w2 ⟨v, rfl, how, hg2⟩
    have HEnd := Lib.hid (And.intro (how.base HG1.out.size) (HG1.out.trans hg2))
    clear how hg2
    go_wp2_with fail
    go_ret2
    exact ⟨v, rfl, HEnd.out.1, HEnd.out.2⟩
theorem flread_mid {Y : Nat → Prop} {w : World} {d : Nat} {s : ByteArray} {L : List UInt8} (h : FlAt w d s L Y) (hs : s.size ≤ 64) (z N : Nat) (hz : z + N ≤ L.length) (hN : 0 < N) (hL : N ≤ 1000000) :
    Calls Tryz.prog 78 #[.pointer (some ⟨d, 0, none⟩), .string s, .int .i64 (z : Int), .int .i64 (N : Int)] w fun e w' => ∃ v, e = .returned (.tuple #[v, .int .i64 0]) ∧ OwnF w.heap.size w' v ((L.drop z).take N) ∧ Grow (fun _ => False) w w' := by
  obtain ⟨n0, nF, F, O, D, X, g, room, next, nf, no, nd, nx, m, fixed, oo, xx, chg, fv, wrn, xs, h1, h2, h3, h4⟩ := h
  exact read_mid h1 hs h2 h3 z N hz hN hL
end
end Go.Proofs.YtdjhfcopnhcljaaGreatDoor
