/-
  Contract of run.indexOf at the bytes of a run.
-/
import Derived.Test.YtdjhfcopnhcljaaGreatDoorW26
import Derived.Test.YtdjhfcopnhcljaaGreatDoorW27
import Derived.Test.YtdjhfcopnhcljaaGreatDoorW28
import Derived.Deep.RegionHeld3
namespace Go.Proofs.YtdjhfcopnhcljaaGreatDoor
section
open Go Go.RowKit

/-- What the loop of indexOf keeps behind k pages. -/
def IxJ (w : World) (R Bx ents : Nat) (L : List (List Ct)) (k : Nat) (W : World) : Prop :=
  ∃ sv Rr, W.heap[Bx]? = some (.cells #[sv, .int .i64 (ents : Nat)] 82 (0, 0)) ∧ OwnSp Bx W sv Rr ∧ Rr.map (·.1) = spL 0 (L.take k) ∧ RdB R W R ((L.drop k).flatMap spanL) ∧ Below w.heap.size w W
theorem len_left (x y : List UInt8) : x.length ≤ (x ++ y).length := by rw [List.length_append]; omega
theorem sums_le {L : List (List Ct)} {k : Nat} (hk : k < L.length) : ((L.take k).flatMap pageL).length + (pageL L[k]).length ≤ (L.flatMap pageL).length := by
  have h : L = L.take k ++ L[k] :: L.drop (k + 1) := by rw [← List.drop_eq_getElem_cons hk, List.take_append_drop]
  have : (L.flatMap pageL).length = ((L.take k ++ L[k] :: L.drop (k + 1)).flatMap pageL).length := by rw [← h]
  rw [this, List.flatMap_append, List.flatMap_cons, List.length_append, List.length_append]
  omega
theorem take_snoc {L : List (List Ct)} {k : Nat} (hk : k < L.length) : L.take (k + 1) = L.take k ++ [L[k]] := by rw [List.take_succ_eq_append_getElem hk]
theorem drop_spans {L : List (List Ct)} {k : Nat} (hk : k < L.length) : (L.drop k).flatMap spanL = spanL L[k] ++ (L.drop (k + 1)).flatMap spanL := by rw [List.drop_eq_getElem_cons hk, List.flatMap_cons]
theorem RdB.off {Y : Nat → Prop} {n₀ : Nat} {w w' : World} {R : Nat} {l : List UInt8} (h : RdB n₀ w R l) (ht : Turned Y w w') (hY : ∀ k, Y k → k ≠ R ∧ n₀ ≤ k) : RdB n₀ w' R l := by
  have hlt := h.lt
  obtain ⟨hR, p, cap, h1, h2, h3, h4⟩ := h
  refine ⟨hR, p, cap, (ht.block R hlt (fun e => (hY _ e).1 rfl)).trans h1, h2, h3, ?_⟩
  rcases h4 with h4 | ⟨a, c, e, h4⟩
  · exact .inl h4
  · exact .inr ⟨a, c, e, fun j hj => ⟨(h4 j hj).1, (World.cell?_of_block (a := a.add j) (by
      rw [add_block]
      exact ht.block a.block (by have := (h4 j hj).1; omega) (fun e => by have h5 := (h4 j hj).1; have h6 := (hY _ e).2; omega))).trans (h4 j hj).2⟩⟩
/-- Behind the append of a span and its store. -/
theorem IxJ.next {w W3 w5 : World} {R Bx ents k z S : Nat} {L : List (List Ct)} {Pg : List Ct} {sv v5 u : Value} {Rr : List (Sp × Value)} {o : Obj} (hk : k < L.length) (hPg : Pg = L[k]) (hz : z = ((L.take k).flatMap pageL).length) (hS : S = (pageL Pg).length)
    (hX : W3.heap[Bx]? = some (.cells #[sv, .int .i64 (ents : Nat)] 82 (0, 0))) (hSp : OwnSp Bx W3 sv Rr) (hm : Rr.map (·.1) = spL 0 (L.take k)) (hRd : RdB R W3 R ((L.drop (k + 1)).flatMap spanL)) (hBb : Below w.heap.size w W3) (hRB : w.heap.size < R ∧ R < Bx)
    (h5 : OwnSp Bx w5 v5 (Rr ++ [((z, S, headT Pg), u)])) (hg : (W3.alloc o).grownBy w5 sv.ownBlock) :
    (w5.cell? ⟨Bx, 0, none⟩ = some sv ∧ w5.frozen? ⟨Bx, 0, none⟩ = false) ∧ IxJ w R Bx ents L (k + 1) (w5.setCell ⟨Bx, 0, none⟩ v5) ∧ Turned (fun k => k = Bx ∨ sv.ownBlock = some k) W3 (w5.setCell ⟨Bx, 0, none⟩ v5) := by
  have hxl := (Array.getElem?_eq_some_iff.1 hX).1
  have hbn := below_new W3 o
  have hX' := (hbn.block _ hxl).trans hX
  have hne : sv.ownBlock ≠ some Bx := fun e => by
    obtain ⟨-, cur, hc⟩ := ownsRow_block hSp.1 Bx e
    rw [hX] at hc
    injection hc with hc
    injection hc with _ hc _
    exact absurd hc (by decide)
  have t1 : Turned (fun k => sv.ownBlock = some k) (W3.alloc o) w5 := Turned.of_grown hg
  have hX5 := (t1.block Bx (by simp; omega) hne).trans hX'
  have t2 := turned_setCell w5 Bx v5
  have tt : Turned (fun k => k = Bx ∨ sv.ownBlock = some k) W3 (w5.setCell ⟨Bx, 0, none⟩ v5) := ((Turned.fromB (Y := fun k => k = Bx ∨ sv.ownBlock = some k) hbn).trans t1 (fun k _ e => .inr e)).trans t2 (fun k _ e => .inl e)
  have hlow : ∀ k, sv.ownBlock = some k → Bx ≤ k := fun k e => (World.ownsRow.lt hSp.1 k e).1
  refine ⟨⟨(cell_of_row _ Bx 0 _ _ (0, 0) hX5).trans rfl, frozen_of_row _ Bx 0 _ _ hX5⟩, ⟨v5, _, heap_setCell_same w5 Bx 0 #[sv, .int .i64 (ents : Nat)] _ v5 hX5, h5.other t2 hX5 (fun cur e => by injection e with _ e _; exact absurd e (by decide)) (fun cur e => by injection e with _ e _; exact absurd e (by decide)), ?_, hRd.off tt (fun k e => ?_), hBb.trans (tt.below hBb.size (fun k e => ?_))⟩, tt⟩
  · rw [List.map_append, hm, List.map_cons, List.map_nil, take_snoc hk, spL_snoc, Nat.zero_add, ← hPg, ← hz, ← hS]
  · rcases e with rfl | e
    · omega
    · have := hlow k e; omega
  · rcases e with rfl | e
    · omega
    · have := hlow k e; omega
theorem cells2 {W : World} {b : Nat} {x y : Value} {t : TypeId} (h : W.heap[b]? = some (.cells #[x, y] t (0, 0))) :
    (W.cell? ⟨b, 0, none⟩ = some x ∧ W.cell? ⟨b, 1, none⟩ = some y) ∧ W.frozen? ⟨b, 0, none⟩ = false ∧ W.frozen? ⟨b, 1, none⟩ = false :=
  ⟨⟨(cell_of_row _ b 0 _ _ (0, 0) h).trans rfl, (cell_of_row _ b 1 _ _ (0, 0) h).trans rfl⟩, frozen_of_row _ b 0 _ _ h, frozen_of_row _ b 1 _ _ h⟩
theorem OwnSp.shape {B : Nat} {w : World} {v : Value} {Rr : List (Sp × Value)} (h : OwnSp B w v Rr) : ∃ p c, v = .slice p Rr.length c ∧ Rr.length ≤ c ∧ c ≤ maxLen ∧ (0 < Rr.length → ∃ g, p = some ⟨g, 0, none⟩ ∧ g < w.heap.size ∧ ∀ j (hj : j < Rr.length), w.cell? ⟨g, j * 3, none⟩ = some (.int .i64 (Rr[j].1.1 : Nat)) ∧ w.cell? ⟨g, j * 3 + 1, none⟩ = some (.int .i64 (Rr[j].1.2.1 : Nat)) ∧ w.cell? ⟨g, j * 3 + 2, none⟩ = some Rr[j].2) := by
  rcases h.1.2 with ⟨rfl, h0⟩ | ⟨g, cap, cur, rfl, hB, hg, hc, hm, hsz, hcur⟩
  · have h0 : Rr.length = 0 := h0
    exact ⟨none, 0, by rw [h0], by omega, by decide, fun h => by omega⟩
  · refine ⟨_, cap, rfl, hc, hm, fun _ => ⟨g, rfl, (Array.getElem?_eq_some_iff.1 hg).1, fun j hj => ?_⟩⟩
    obtain ⟨h1, h2, h3⟩ := spV_at hj
    have key : ∀ o x, (spV Rr)[o]? = some x → w.cell? ⟨g, o, none⟩ = some x := fun o x hx => by
      rw [← hcur, List.getElem?_take] at hx
      split at hx
      · rw [cell_of_row w g o cur _ (0, 0) hg]
        simpa using hx
      · cases hx
    exact ⟨key _ _ h1, key _ _ h2, key _ _ h3⟩
theorem OwnSp.weak {B B' : Nat} {w : World} {v : Value} {R : List (Sp × Value)} (h : OwnSp B w v R) (hB : B' ≤ B) : OwnSp B' w v R := by
  refine ⟨⟨h.1.1, ?_⟩, h.2⟩
  rcases h.1.2 with h | ⟨g, cap, cur, e, h1, rest⟩
  · exact .inl h
  · exact .inr ⟨g, cap, cur, e, Nat.le_trans hB h1, rest⟩
set_option maxRecDepth 100000 in
set_option maxHeartbeats 8000000 in
theorem indexOf_ok (ad : Addr) (cap : Nat) (E : List Ct) (w : World) (h : ByC w.heap.size w (.slice (some ad) (runL E).length cap) (runL E)) (hE : E.length ≤ 1000) (hR : IsRun E) (hK : Kin E) (hN : (runL E).length ≤ 100000000) (G : Glob w) :
    Calls Tryz.prog 51 #[.slice (some ad) (runL E).length cap] w fun e w' => ∃ sv Rr, e = .returned (.agg #[sv, .int .i64 (E.length : Nat)]) ∧ OwnSp w.heap.size w' sv Rr ∧ Rr.map (·.1) = spL 0 (pagesL E) ∧ Below w.heap.size w w' := by
  obtain ⟨L, hL⟩ : ∃ L, L = pagesL E := ⟨_, rfl⟩
  obtain ⟨C, hC⟩ : ∃ C, C = L.flatMap pageL := ⟨_, rfl⟩
  obtain ⟨SP, hSP⟩ : ∃ SP, SP = L.flatMap spanL := ⟨_, rfl⟩
  obtain ⟨IX, hIX⟩ : ∃ IX, IX = numL L.length ++ (numL E.length ++ SP) := ⟨_, rfl⟩
  obtain ⟨T, hT⟩ : ∃ T, T = le4 (sealL IX).length := ⟨_, rfl⟩
  have hrun : runL E = (C ++ sealL IX) ++ sealL T := by
    have e1 : indexL E = sealL IX := by unfold indexL; rw [hIX, hSP, hL, List.append_assoc]
    unfold runL tailL
    rw [e1, hT, hC, hL]
  rw [hrun] at h hN ⊢
  have hLl : L.length ≤ 1000 := by rw [hL]; have := pgRest_len E []; unfold pagesL; simp at this; omega
  have hIXl : (sealL IX).length ≤ 100000000 := by rw [List.length_append, List.length_append] at hN; omega
  have hT4 : T.length = 4 := by rw [hT]; rfl
  have HT4 := Lib.hid hT4
  have hsT : (8 : Nat) = (sealL T).length := by rw [sealL_len, hT4]
  obtain ⟨W0, hW0⟩ : ∃ W0, W0 = w.alloc (.cells #[.slice none 0 0, .int .i64 0] 82) := ⟨_, rfl⟩
  have hb0 : Below w.heap.size w W0 := by rw [hW0]; exact below_new w _
  have hs0 : W0.heap.size = w.heap.size + 1 := by rw [hW0]; simp
  have hr0 : W0.heap[w.heap.size]? = some (.cells #[.slice none 0 0, .int .i64 0] 82 (0, 0)) := by rw [hW0]; exact World.alloc_heap_new w _
  have HCut := Lib.hid (cut_ok ad cap (C ++ sealL IX) T 8 W0 ⟨(h.1.below hb0).mono (by omega), h.2⟩ hsT (by omega) (G.below hb0))
  have HH := Lib.hid h
  have HG := Lib.hid (show ∀ W, Below w.heap.size w W → Glob W from fun W hb => G.below hb)
  have HB0 := Lib.hid hb0
  have HR0 := Lib.hid hr0
  have HS0 := Lib.hid hs0
  have HL := Lib.hid hL
  have HC := Lib.hid hC
  have HSP := Lib.hid hSP
  have HIX := Lib.hid hIX
  have HTe := Lib.hid hT
  have HRn := Lib.hid (And.intro hR hK)
  have HN := Lib.hid (And.intro hN hIXl)
  have HLl := Lib.hid hLl
  obtain ⟨N, hNN⟩ : ∃ N, N = ((C ++ sealL IX) ++ sealL T).length := ⟨_, rfl⟩
  rw [← hNN] at HCut ⊢
  have HNN := Lib.hid hNN
  clear hb0 hr0 hs0 hL hC hSP hIX hT hR hK hN hIXl hsT hT4 hLl h hrun G hNN
  go_enter Tryz.func51, Tryz.ntmps51
  go_wp2_with fail
  rw [← hW0]
  clear hW0
  refine HCut.out.mono ?_
  rintro e w1 ⟨u1, rfl, ho1, hb1⟩
  obtain ⟨q1, d1, rfl⟩ := ho1.in_.shape
  obtain ⟨N1, hN1⟩ : ∃ N1, N1 = (C ++ sealL IX).length := ⟨_, rfl⟩
  obtain ⟨A, hA⟩ : ∃ A, A = (sealL IX).length := ⟨_, rfl⟩
  have hsz := sizeOf_any (.slice q1 T.length d1) T w1 ho1.in_ HT4.out
  have hdec : decN T = A := by rw [HTe.out, decN_le4 _ (by have := HN.out.2; omega), hA]
  rw [hdec] at hsz
  have HSz := Lib.hid hsz
  have HB1 := Lib.hid (HB0.out.trans (hb1.mono (by have := HS0.out; omega)))
  have HR1 := Lib.hid ((hb1.block w.heap.size (by have := HS0.out; omega)).trans HR0.out)
  have hby := BytIn.ctake HH.out.1 (C ++ sealL IX).length (len_left _ _)
  rw [List.take_left' rfl] at hby
  have hcap : (C ++ sealL IX).length ≤ cap ∧ cap ≤ maxLen := by
    obtain ⟨-, p', c', e, h1, h2⟩ := HH.out
    obtain ⟨-, e2, e3⟩ := Value.slice.inj e
    subst e3
    rw [List.length_append] at h1
    exact ⟨by omega, h2⟩
  have HBy := Lib.hid hby
  have HCap := Lib.hid hcap
  have HCut2 := Lib.hid (cut_ok ad cap C IX A w1 ⟨(hby.below HB1.out).mono HB1.out.size, some ad, cap, rfl, hcap.1, hcap.2⟩ hA (by have := HN.out.1; rw [List.length_append] at this; omega) (HG.out _ HB1.out))
  rw [← hN1] at HCut2 ⊢
  have HA := Lib.hid hA
  have HN1 := Lib.hid hN1
  obtain ⟨tl, htl⟩ : ∃ tl, tl = T.length := ⟨_, rfl⟩
  rw [← htl] at HSz ⊢
  clear ho1 hb1 hsz hby hcap hA hN1 htl HCut
  go_wp2_with fail
  refine HSz.out.mono ?_
  rintro e w2 ⟨rfl, rfl⟩
  go_wp2_with fail
  refine HCut2.out.mono ?_
  rintro e w2 ⟨u2, rfl, ho2, hb2⟩
  obtain ⟨q2, d2, rfl⟩ := ho2.in_.shape
  obtain ⟨W3, hW3⟩ : ∃ W3, W3 = w2.alloc (.cells #[.slice q2 IX.length d2] 184) := ⟨_, rfl⟩
  have hb3 : Below w2.heap.size w2 W3 := by rw [hW3]; exact below_new w2 _
  have HRd := Lib.hid (show RdB w2.heap.size W3 w2.heap.size IX by
    obtain ⟨-, p', c', e, h1, h2⟩ := ho2.byC
    obtain ⟨-, -, e3⟩ := Value.slice.inj e
    subst e3
    exact ⟨Nat.le_refl _, q2, d2, by rw [hW3]; exact World.alloc_heap_new w2 _, h1, h2, ho2.in_.below hb3⟩)
  have HB3 := Lib.hid (HB1.out.trans ((hb2.trans (hb3.mono hb2.size)).mono HB1.out.size))
  have hlt1 : w.heap.size < w1.heap.size := (Array.getElem?_eq_some_iff.1 HR1.out).1
  have HR3 := Lib.hid ((hb3.block w.heap.size (Nat.lt_of_lt_of_le hlt1 hb2.size)).trans ((hb2.block w.heap.size hlt1).trans HR1.out))
  have HSb := Lib.hid (Nat.lt_of_lt_of_le hlt1 hb2.size)
  obtain ⟨il, hil⟩ : ∃ il, il = IX.length := ⟨_, rfl⟩
  rw [← hil] at hW3 ⊢
  clear ho2 hb2 hb3 hlt1 hil HCut2 HSz
  go_wp2_with fail
  rw [← hW3]
  clear hW3
  generalize w2.heap.size = R at *
  have hnum := rdnum_any R R _ W3 HRd.out
  rw [HIX.out, numP_back (numL E.length ++ SP) (show L.length < 18446744073709551616 by have := HLl.out; omega)] at hnum
  refine hnum.mono ?_
  rintro e w4 ⟨⟨x, r1, v, ho, rfl, rfl, hr⟩ | ⟨ho, -⟩, hk⟩
  rotate_left
  · cases ho
  injection ho with ho
  injection ho with h1 h2
  subst h1 h2
  have hnum2 := rdnum_any R R _ w4 hr
  rw [numP_back SP (show E.length < 18446744073709551616 by omega)] at hnum2
  have HNum2 := Lib.hid hnum2
  have HK4 := Lib.hid hk
  clear hr hk hnum hnum2
  go_wp2_with fail
  refine HNum2.out.mono ?_
  rintro e w5 ⟨⟨x, r1, v, ho, rfl, rfl, hr⟩ | ⟨ho, -⟩, hk⟩
  rotate_left
  · cases ho
  injection ho with ho
  injection ho with h1 h2
  subst h1 h2
  have HK5 := Lib.hid (HK4.out.trans hk)
  have HR5 := Lib.hid hr
  have e9 : (E.length : Int) ≤ 9223372036854775807 := by omega
  have e10 : IntKind.i64.wrap (E.length : Int) = (E.length : Int) := by rw [IntKind.wrap_i64]; omega
  clear hr hk HNum2
  go_wp2_with fail
  refine (intact_ok _).mono ?_
  rintro e w6 ⟨⟨z, rfl⟩, rfl⟩
  obtain ⟨W6, hW6⟩ : ∃ W6, W6 = w5.alloc (.cells #[.slice none 0 0, .int .i64 (E.length : Nat)] 82) := ⟨_, rfl⟩
  have hb6 : Below w5.heap.size w5 W6 := by rw [hW6]; exact below_new w5 _
  have hx6 : W6.heap[w5.heap.size]? = some (.cells #[.slice none 0 0, .int .i64 (E.length : Nat)] 82 (0, 0)) := by rw [hW6]; exact World.alloc_heap_new w5 _
  have hRlt : R < w5.heap.size := HR5.out.lt
  have hB6 : Below w.heap.size w W6 := HB3.out.trans ((HK5.out.below (n := w.heap.size) HB3.out.size (by have := HSb.out; omega)).trans (hb6.mono (Nat.le_trans HB3.out.size HK5.out.size)))
  have hr6 := (hb6.block w.heap.size (Nat.lt_of_lt_of_le (Array.getElem?_eq_some_iff.1 HR3.out).1 HK5.out.size)).trans ((HK5.out.block w.heap.size (Array.getElem?_eq_some_iff.1 HR3.out).1 (fun e => by have := HSb.out; have e : w.heap.size = R := e; omega)).trans HR3.out)
  have HJ0 := Lib.hid (show IxJ w R w5.heap.size E.length L 0 W6 from ⟨.slice none 0 0, [], hx6, OwnSp.nil _ _, by simp [spL], by rw [List.drop_zero, ← HSP.out]; exact HR5.out.below hb6, hB6⟩)
  have HR6 := Lib.hid hr6
  have HRB := Lib.hid (show w.heap.size < R ∧ R < w5.heap.size from ⟨HSb.out, hRlt⟩)
  clear hb6 hx6 hRlt hB6 hr6
  go_wp2_with fail
  rw [← hW6]
  clear hW6
  generalize w5.heap.size = Bx at *
  obtain ⟨Cl, hCl⟩ : ∃ Cl, Cl = C.length := ⟨_, rfl⟩
  rw [← hCl]
  have HCl := Lib.hid hCl
  clear hCl
  have hRv : W6.heap[w.heap.size]? = some (.cells #[.slice none 0 0, .int .i64 0] 82 (0, 0)) := HR6.out
  clear hRv
  have HOkE := Lib.hid (Kin.ok HRn.out.2 HRn.out.1)
  go_loopw [9, 38] (fun at_ i wr => ∃ k : Nat, k ≤ L.length ∧ at_ = .int .i64 ((((L.take k).flatMap pageL).length : Nat) : Int) ∧ i = .int .u64 k ∧ Hid (IxJ w R Bx E.length L k wr ∧ wr.heap[w.heap.size]? = some (.cells #[.slice none 0 0, .int .i64 0] 82 (0, 0)))) (fun _ i _ => L.length - (intOf i).toNat)
  case atStart => exact ⟨0, Nat.zero_le _, by simp, rfl, Lib.hid ⟨HJ0.out, HR6.out⟩⟩
  case round =>
    obtain ⟨k, hk, rfl, rfl, HJ⟩ := hrel
    obtain ⟨z, hz⟩ : ∃ z, z = ((L.take k).flatMap pageL).length := ⟨_, rfl⟩
    rw [← hz]
    have HZ := Lib.hid hz
    clear hz
    by_cases hlt : k < L.length
    · have hlt' : (k : Int) < (L.length : Int) := by omega
      have hk63 : (k : Int) + 1 ≤ 1001 := by have := HLl.out; omega
      have hk0 : (0 : Int) ≤ (k : Int) := by omega
      have HSum := Lib.hid (sums_le hlt)
      have HPm := Lib.hid (show ∀ c ∈ L[k], OkC c from fun c hc => HOkE.out c (page_mem (P := L[k]) (by rw [← HL.out]; exact List.getElem_mem hlt) c hc))
      have HPn := Lib.hid (show L[k] ≠ [] by
        have h1 : k < (pagesL E).length := by rw [← HL.out]; exact hlt
        have := page_ne h1
        simpa only [← HL.out] using this)
      obtain ⟨Pg, hPg⟩ : ∃ Pg, Pg = L[k] := ⟨_, rfl⟩
      rw [← hPg] at HSum HPm HPn
      have HPg := Lib.hid hPg
      have hCl9 : Cl ≤ 100000000 := by rw [HCl.out]; have := HN.out.1; rw [List.length_append, List.length_append] at this; omega
      obtain ⟨S, hS⟩ : ∃ S, S = (pageL Pg).length := ⟨_, rfl⟩
      have hzS : z + S ≤ Cl := by rw [HZ.out, hS, HCl.out, HC.out]; exact HSum.out
      obtain ⟨⟨sv, Rr, hX, hSp, hm, hRd, hBb⟩, hres⟩ := HJ.out
      rw [drop_spans hlt, ← hPg] at hRd
      have HSpan := Lib.hid (span_ok R R z Cl Pg ((L.drop (k + 1)).flatMap spanL) wr hRd (head_ok HPm.out HPn.out) (by rw [← hS]; exact hzS) (by omega))
      rw [← hS] at HSpan
      have HX := Lib.hid hX
      have HSp := Lib.hid hSp
      have HM := Lib.hid hm
      have HBb := Lib.hid hBb
      have HRes := Lib.hid hres
      have HSe := Lib.hid hS
      have HRdR := Lib.hid hRd
      have z1 : (z : Int) + (S : Int) ≤ 100000000 := by omega
      have z2 : (0 : Int) ≤ (z : Int) := by omega
      have z3 : (0 : Int) ≤ (S : Int) := by omega
      clear hPg hS hX hSp hm hRd hBb hres HJ
      go_wp2_with fail
      refine HSpan.out.mono ?_
      rintro e w1 ⟨u, rfl, hu, hRd1, hk1⟩
      obtain ⟨pu, cu, rfl⟩ : ∃ p c, u = .slice p (headT Pg).length c := by
        rcases hu.2 with ⟨rfl, h0⟩ | ⟨g, cap, cur, rfl, -⟩
        · exact ⟨none, 0, by rw [show (headT Pg).length = 0 from h0]⟩
        · exact ⟨_, cap, rfl⟩
      obtain ⟨W2, hW2⟩ : ∃ W2, W2 = w1.alloc (.cells #[.int .i64 (z : Int), .int .i64 (S : Int), .slice pu (headT Pg).length cu] 110) := ⟨_, rfl⟩
      have hbn : Below w1.heap.size w1 W2 := by rw [hW2]; exact below_new w1 _
      have hBs : W2.heap[w1.heap.size]? = some (.cells #[.int .i64 (z : Int), .int .i64 (S : Int), .slice pu (headT Pg).length cu] 110 (0, 0)) := by rw [hW2]; exact World.alloc_heap_new w1 _
      have hRB := HRB.out
      have hX2 := (hbn.block _ (Nat.lt_of_lt_of_le (Array.getElem?_eq_some_iff.1 HX.out).1 hk1.size)).trans ((hk1.block Bx (Array.getElem?_eq_some_iff.1 HX.out).1 (fun e => by have e : Bx = R := e; omega)).trans HX.out)
      have hres2 := (hbn.block _ (Nat.lt_of_lt_of_le (Array.getElem?_eq_some_iff.1 HRes.out).1 hk1.size)).trans ((hk1.block w.heap.size (Array.getElem?_eq_some_iff.1 HRes.out).1 (fun e => by have e : w.heap.size = R := e; omega)).trans HRes.out)
      have hSp2 : OwnSp Bx W2 sv Rr := by
        obtain ⟨-, p', c', h1, -⟩ := HRdR.out
        exact (HSp.out.other hk1 h1 (fun cur e => by injection e with _ e _; exact absurd e (by decide)) (fun cur e => by injection e with _ e _; exact absurd e (by decide))).below hbn
      have hRd2 := hRd1.below hbn
      have hBb2 : Below w.heap.size w W2 := HBb.out.trans ((OnlyR.below hk1 HBb.out.size (by omega)).trans (hbn.mono (Nat.le_trans HBb.out.size hk1.size)))
      have hU2 : OwnR 0 W2 (.slice pu (headT Pg).length cu) (headT Pg) := ⟨hu.1, by
        rcases (hu.below hbn).2 with h | ⟨g, cap, cur, e, hB, rest⟩
        · exact .inl h
        · exact .inr ⟨g, cap, cur, e, Nat.zero_le _, rest⟩⟩
      have hRl : Rr.length = k := by
        have := congrArg List.length HM.out
        rw [List.length_map, spL_len, List.length_take] at this
        omega
      obtain ⟨sp, sc, rfl, hsc, hsm, hsg⟩ := hSp2.shape
      have HSp2 := Lib.hid hSp2
      have HX2 := Lib.hid hX2
      have HRes2 := Lib.hid hres2
      have HRd2 := Lib.hid hRd2
      have HBb2 := Lib.hid hBb2
      have HU2 := Lib.hid hU2
      have HBs2 := Lib.hid hBs
      have HRl := Lib.hid hRl
      have HSg := Lib.hid (And.intro hsc hsg)
      have HXl := HX
      have HKs := Lib.hid hk1.size
      have HSlt := Lib.hid (fun q (e : (Value.slice sp k sc).ownBlock = some q) => Nat.lt_of_lt_of_le (World.ownsRow.lt HSp.out.1 q (by rw [hRl]; exact e)).2 hk1.size)
      obtain ⟨hl8, hh8⟩ : ∃ n, n = (headT Pg).length := ⟨_, rfl⟩
      rw [hRl] at hX2
      rw [← hh8] at hW2 hBs ⊢
      have HH8 := Lib.hid hh8
      have c1 := (cells2 hX2).1.1
      have f1 := (cells2 hX2).2.1
      obtain ⟨⟨b0, b1, b2⟩, -⟩ := cells3 hBs
      clear hu hRd1 hk1 hbn hBs hRB hX2 hres2 hSp2 hRd2 hBb2 hU2 hRl hh8 hsc hsm hsg HSpan HX HSp HRes HRdR HBb
      have HBxl := Lib.hid (show Bx < w1.heap.size from Nat.lt_of_lt_of_le (Array.getElem?_eq_some_iff.1 HXl.out).1 HKs.out)
      have hx0 : (w1.alloc (.cells #[.int .i64 (z : Int), .int .i64 (S : Int), .slice pu hl8 cu] 110)).cell? ⟨Bx, 0, none⟩ = some (.slice sp k sc) := by rw [← hW2]; exact c1
      have hb0 : (w1.alloc (.cells #[.int .i64 (z : Int), .int .i64 (S : Int), .slice pu hl8 cu] 110)).cell? ⟨w1.heap.size, 0, none⟩ = some (.int .i64 (z : Int)) := by rw [← hW2]; exact b0
      have hb1 : (w1.alloc (.cells #[.int .i64 (z : Int), .int .i64 (S : Int), .slice pu hl8 cu] 110)).cell? ⟨w1.heap.size, 1, none⟩ = some (.int .i64 (S : Int)) := by rw [← hW2]; exact b1
      have hb2 : (w1.alloc (.cells #[.int .i64 (z : Int), .int .i64 (S : Int), .slice pu hl8 cu] 110)).cell? ⟨w1.heap.size, 2, none⟩ = some (.slice pu hl8 cu) := by rw [← hW2]; exact b2
      have HW2 := Lib.hid hW2
      have HXN := HX2
      have HSpN := Lib.hid (show OwnSp Bx W2 (.slice sp k sc) Rr by have := HSp2.out; rwa [HRl.out] at this)
      have HRdN := HRd2
      have HBbN := HBb2
      have HResN := HRes2
      have HUN := Lib.hid (show OwnR 0 W2 (.slice pu hl8 cu) (headT Pg) by have := HU2.out; rwa [← HH8.out] at this)
      have HBsN := Lib.hid (show W2.heap[w1.heap.size]? = some (.cells #[.int .i64 (z : Int), .int .i64 (S : Int), .slice pu hl8 cu] 110 (0, 0)) by have := HBs2.out; rwa [← HH8.out] at this)
      rw [HRl.out] at HXN
      clear c1 f1 b0 b1 b2
      by_cases hk00 : k = 0
      · subst hk00
        have HAo := Lib.hid (show OwnSp Bx (W2.alloc (.cells #[.int .i64 (z : Int), .int .i64 (S : Int), .slice pu hl8 cu] 110)) (.slice sp 0 sc) Rr ∧ OwnR 0 (W2.alloc (.cells #[.int .i64 (z : Int), .int .i64 (S : Int), .slice pu hl8 cu] 110)) (.slice pu hl8 cu) (headT Pg) by
          have h2 := HUN.out
          have h3 := below_new W2 (.cells #[.int .i64 (z : Int), .int .i64 (S : Int), .slice pu hl8 cu] 110)
          exact ⟨HSpN.out.below h3, h2.below h3⟩)
        have HN8 := Lib.hid (show (headT Pg).length ≤ 8 ∧ Rr.length ≤ 1000000 ∧ Bx ≤ (W2.alloc (.cells #[.int .i64 (z : Int), .int .i64 (S : Int), .slice pu hl8 cu] 110)).heap.size from ⟨(head_ok HPm.out HPn.out).1.1, by have h1 := HRl.out; have h2 := HLl.out; omega, by have := (Array.getElem?_eq_some_iff.1 HXN.out).1; rw [World.size_alloc]; omega⟩)
        have HY := Lib.hid (show (W2.alloc (.cells #[.int .i64 (z : Int), .int .i64 (S : Int), .slice pu hl8 cu] 110)).cell? ((⟨w1.heap.size + 1, 0, none⟩ : Addr).add 0) = some (.int .i64 (z : Int)) ∧ (W2.alloc (.cells #[.int .i64 (z : Int), .int .i64 (S : Int), .slice pu hl8 cu] 110)).cell? ((⟨w1.heap.size + 1, 0, none⟩ : Addr).add 1) = some (.int .i64 (S : Int)) ∧ (W2.alloc (.cells #[.int .i64 (z : Int), .int .i64 (S : Int), .slice pu hl8 cu] 110)).cell? ((⟨w1.heap.size + 1, 0, none⟩ : Addr).add 2) = some (.slice pu hl8 cu) by
          have h := (cells3 (World.alloc_heap_new W2 (.cells #[.int .i64 (z : Int), .int .i64 (S : Int), .slice pu hl8 cu] 110))).1
          rw [show W2.heap.size = w1.heap.size + 1 by rw [HW2.out]; simp] at h
          exact ⟨h.1, h.2.1, h.2.2⟩)
        have HFar := Lib.hid (show ¬ (w.heap.size = Bx ∨ (Value.slice sp 0 sc).ownBlock = some w.heap.size) ∧ ¬ (w1.heap.size = Bx ∨ (Value.slice sp 0 sc).ownBlock = some w1.heap.size) by
          have h1 := HRB.out
          refine ⟨?_, ?_⟩
          · rintro (e | e)
            · omega
            · have := (World.ownsRow.lt HSpN.out.1 _ e).1; omega
          · rintro (e | e)
            · have := HBxl.out; omega
            · have := HSlt.out _ e; omega)
        go_wp2_with (at_builtin; rw [← HW2.out]; refine wpList_appSp rfl (.tmp 63) (.tmp 65) rfl Bx (.slice sp 0 sc) Rr (z, S, headT Pg) (.slice pu hl8 cu) ⟨w1.heap.size + 1, 0, none⟩ rfl rfl HAo.out.1 HAo.out.2 HN8.out.1 HN8.out.2.1 HN8.out.2.2 HY.out.1 HY.out.2.1 HY.out.2.2 ?_; intro v5 w5 ho5 hg5 hv5; obtain ⟨⟨c5, f5⟩, j5, t5⟩ := IxJ.next hlt HPg.out HZ.out HSe.out HXN.out HSpN.out HM.out HRdN.out HBbN.out HRB.out ho5 hg5; obtain ⟨q5, d5, e5, -⟩ := ho5.shape; obtain ⟨N5, hN5⟩ : ∃ N5, N5 = (Rr ++ [((z, S, headT Pg), Value.slice pu hl8 cu)]).length := ⟨_, rfl⟩; rw [← hN5] at e5; subst e5; have HJ5 := Lib.hid j5; have HR5' := Lib.hid ((t5.block w.heap.size (Array.getElem?_eq_some_iff.1 HResN.out).1 HFar.out.1).trans HResN.out); have b5 := (cells3 ((t5.block w1.heap.size (Array.getElem?_eq_some_iff.1 HBsN.out).1 HFar.out.2).trans HBsN.out)).1.2.1; clear ho5 hg5 hv5 j5 t5 hN5)
        go_roundw
        case rel =>
          refine ⟨0 + 1, hlt, ?_, by simp, Lib.hid ⟨HJ5.out, HR5'.out⟩⟩
          rw [take_snoc hlt, flat_snoc, List.length_append, ← HZ.out, ← HPg.out, ← HSe.out]
          simp
        case measure => simp [intOf]; omega
      · obtain ⟨m, hm⟩ : ∃ m, k = m + 1 := ⟨k - 1, by omega⟩
        have hmR : m < Rr.length := by have := HRl.out; omega
        obtain ⟨g, rfl, hgl, hcs⟩ := HSg.out.2 (by omega)
        obtain ⟨-, -, hp2⟩ := hcs m hmR
        have hmL : m < L.length := by omega
        have hpr : Rr[m].1.2.2 = headT L[m] := by
          have h1 : (Rr.map (·.1))[m]'(by simpa using hmR) = (spL 0 (L.take k))[m]'(by rw [spL_len, List.length_take]; omega) := by simp only [HM.out]
          rw [List.getElem_map, spL_at 0 (by rw [List.length_take]; omega), List.getElem_take] at h1
          rw [h1]
        have hprev := HSpN.out.2 _ (List.getElem_mem hmR)
        rw [hpr] at hprev
        have hless : cmpT (headT L[m]) (headT Pg) < 0 := by
          have h1 := heads_rise HRn.out.1 m k (by rw [← HL.out]; exact hmL) (by rw [← HL.out]; exact hlt) (by omega)
          simp only [← HL.out] at h1
          rw [HPg.out]
          exact h1
        generalize Rr[m].2 = pv at hp2 hprev
        generalize headT L[m] = PT at hprev hless
        obtain ⟨pp, cp, rfl⟩ : ∃ p c, pv = .slice p PT.length c := by
          rcases hprev.1.2 with ⟨rfl, h0⟩ | ⟨g, cap, cur, rfl, -⟩
          · exact ⟨none, 0, by rw [show PT.length = 0 from h0]⟩
          · exact ⟨_, cap, rfl⟩
        obtain ⟨zc, hzc⟩ : ∃ zc, zc = cmpT PT (headT Pg) := ⟨_, rfl⟩
        rw [← hzc] at hless
        have HZc := Lib.hid hzc
        have HPT := Lib.hid (show TupS (fun k => k < W2.heap.size) W2 (.slice pp PT.length cp) PT from (hprev.1.in_ (by omega)).wide)
        have HXT := Lib.hid (show TupS (fun k => k < W2.heap.size) W2 (.slice pu hl8 cu) (headT Pg) from (HUN.out.in_ (by have := (head_ok HPm.out HPn.out).1.1; omega)).wide)
        obtain ⟨pl, hpl⟩ : ∃ n, n = PT.length := ⟨_, rfl⟩
        rw [← hpl] at HPT hp2
        have HS := Lib.hid (show W2.cell? ⟨Bx, 0, none⟩ = some (.slice (some ⟨g, 0, none⟩) k sc) ∧ W2.cell? ⟨g, m * 3 + 2, none⟩ = some (.slice pp pl cp) ∧ W2.cell? ⟨w1.heap.size, 2, none⟩ = some (.slice pu hl8 cu) from ⟨(cells2 HXN.out).1.1, hp2, (cells3 HBsN.out).1.2.2⟩)
        have HLt := Lib.hid (show Bx < W2.heap.size ∧ g < W2.heap.size ∧ w1.heap.size < W2.heap.size from ⟨(Array.getElem?_eq_some_iff.1 HXN.out).1, hgl, (Array.getElem?_eq_some_iff.1 HBsN.out).1⟩)
        have hw : IntKind.i64.wrap ((k : Int) - 1) = (m : Int) := by rw [IntKind.wrap_i64]; omega
        have hk1 : (0 : Int) < (k : Int) := by omega
        have hkn : 0 < k := by omega
        have hm1 : (m : Int) < (k : Int) := by omega
        have hm0 : (0 : Int) ≤ (m : Int) := by omega
        have HMk := Lib.hid hm
        have HPX := Lib.hid (show TupS (fun k => k < (w1.alloc (.cells #[.int .i64 (z : Int), .int .i64 (S : Int), .slice pu hl8 cu] 110)).heap.size) (w1.alloc (.cells #[.int .i64 (z : Int), .int .i64 (S : Int), .slice pu hl8 cu] 110)) (.slice pp pl cp) PT from by have h := HPT.out; rw [HW2.out] at h; exact h)
        have HXX := Lib.hid (show TupS (fun k => k < (w1.alloc (.cells #[.int .i64 (z : Int), .int .i64 (S : Int), .slice pu hl8 cu] 110)).heap.size) (w1.alloc (.cells #[.int .i64 (z : Int), .int .i64 (S : Int), .slice pu hl8 cu] 110)) (.slice pu hl8 cu) (headT Pg) from by have h := HXT.out; rw [HW2.out] at h; exact h)
        have HSX := Lib.hid (show (w1.alloc (.cells #[.int .i64 (z : Int), .int .i64 (S : Int), .slice pu hl8 cu] 110)).cell? ⟨Bx, 0, none⟩ = some (.slice (some ⟨g, 0, none⟩) k sc) ∧ (w1.alloc (.cells #[.int .i64 (z : Int), .int .i64 (S : Int), .slice pu hl8 cu] 110)).cell? ⟨g, m * 3 + 2, none⟩ = some (.slice pp pl cp) ∧ (w1.alloc (.cells #[.int .i64 (z : Int), .int .i64 (S : Int), .slice pu hl8 cu] 110)).cell? ⟨w1.heap.size, 2, none⟩ = some (.slice pu hl8 cu) from by have h := HS.out; rw [HW2.out] at h; exact h)
        clear hm hmR hgl hcs hp2 hmL hpr hprev hzc hpl hk00
        go_wp2_with fail
        go_region_held3 (fun X => X.cell? ⟨Bx, 0, none⟩ = some (.slice (some ⟨g, 0, none⟩) k sc) ∧ X.cell? ⟨g, m * 3 + 2, none⟩ = some (.slice pp pl cp) ∧ X.cell? ⟨w1.heap.size, 2, none⟩ = some (.slice pu hl8 cu)) (first | exact HS4.out | exact HSX.out)
          (first | (go_at_call 53; refine (intact_ok _).mono ?_; rintro e w6 ⟨⟨zz, rfl⟩, rfl⟩) | (go_at_call 45; refine (tcompareS_any _ _ PT (headT Pg) _ ?_ ?_).mono ?_; exact HPX.out; exact HXX.out; rintro e w4 ⟨rfl, hg4⟩; have hb4 : Below W2.heap.size W2 w4 := (by have h := (Below.refl (w1.alloc (.cells #[.int .i64 (z : Int), .int .i64 (S : Int), .slice pu hl8 cu] 110)).heap.size (w1.alloc (.cells #[.int .i64 (z : Int), .int .i64 (S : Int), .slice pu hl8 cu] 110))).drew.trans hg4.below; rw [← HW2.out] at h; exact h); rw [← HZc.out]; have HB4 := Lib.hid hb4; have HS4 := Lib.hid (And.intro ((hb4.cell (p := ⟨Bx, 0, none⟩) HLt.out.1).trans HS.out.1) (And.intro ((hb4.cell (p := ⟨g, m * 3 + 2, none⟩) HLt.out.2.1).trans HS.out.2.1) ((hb4.cell (p := ⟨w1.heap.size, 2, none⟩) HLt.out.2.2).trans HS.out.2.2))); clear hb4 hg4))
        have HX4 := Lib.hid ((HB4.out.block Bx HLt.out.1).trans HXN.out)
        have HSp4 := Lib.hid (HSpN.out.below HB4.out)
        have HRd4 := Lib.hid (HRdN.out.below HB4.out)
        have HBb4 := Lib.hid (HBbN.out.trans (HB4.out.mono HBbN.out.size))
        have HRes4 := Lib.hid ((HB4.out.block w.heap.size (Array.getElem?_eq_some_iff.1 HResN.out).1).trans HResN.out)
        have HU4 := Lib.hid (HUN.out.below HB4.out)
        have HBs4 := Lib.hid ((HB4.out.block w1.heap.size HLt.out.2.2).trans HBsN.out)
        clear HX2 HSp2 HRd2 HBb2 HRes2 HU2 HBs2 HXN HSpN HRdN HBbN HResN HUN HBsN hx0 hb0 hb1 hb2
        have HXN := HX4
        have HSpN := HSp4
        have HRdN := HRd4
        have HBbN := HBb4
        have HResN := HRes4
        have HUN := HU4
        have HBsN := HBs4
        have hx0 := HS4.out.1
        have hb0 := (cells3 HBsN.out).1.1
        have hb1 := (cells3 HBsN.out).1.2.1
        have hb2 := (cells3 HBsN.out).1.2.2
        have HAo := Lib.hid (show OwnSp Bx (w4.alloc (.cells #[.int .i64 (z : Int), .int .i64 (S : Int), .slice pu hl8 cu] 110)) (.slice (some ⟨g, 0, none⟩) k sc) Rr ∧ OwnR 0 (w4.alloc (.cells #[.int .i64 (z : Int), .int .i64 (S : Int), .slice pu hl8 cu] 110)) (.slice pu hl8 cu) (headT Pg) by
          have h2 := HUN.out
          have h3 := below_new w4 (.cells #[.int .i64 (z : Int), .int .i64 (S : Int), .slice pu hl8 cu] 110)
          exact ⟨HSpN.out.below h3, h2.below h3⟩)
        have HN8 := Lib.hid (show (headT Pg).length ≤ 8 ∧ Rr.length ≤ 1000000 ∧ Bx ≤ (w4.alloc (.cells #[.int .i64 (z : Int), .int .i64 (S : Int), .slice pu hl8 cu] 110)).heap.size from ⟨(head_ok HPm.out HPn.out).1.1, by have h1 := HRl.out; have h2 := HLl.out; omega, by have := (Array.getElem?_eq_some_iff.1 HXN.out).1; rw [World.size_alloc]; omega⟩)
        have HY := Lib.hid (show (w4.alloc (.cells #[.int .i64 (z : Int), .int .i64 (S : Int), .slice pu hl8 cu] 110)).cell? ((⟨w4.heap.size, 0, none⟩ : Addr).add 0) = some (.int .i64 (z : Int)) ∧ (w4.alloc (.cells #[.int .i64 (z : Int), .int .i64 (S : Int), .slice pu hl8 cu] 110)).cell? ((⟨w4.heap.size, 0, none⟩ : Addr).add 1) = some (.int .i64 (S : Int)) ∧ (w4.alloc (.cells #[.int .i64 (z : Int), .int .i64 (S : Int), .slice pu hl8 cu] 110)).cell? ((⟨w4.heap.size, 0, none⟩ : Addr).add 2) = some (.slice pu hl8 cu) by
          have h := (cells3 (World.alloc_heap_new w4 (.cells #[.int .i64 (z : Int), .int .i64 (S : Int), .slice pu hl8 cu] 110))).1
          skip
          exact ⟨h.1, h.2.1, h.2.2⟩)
        have HFar := Lib.hid (show ¬ (w.heap.size = Bx ∨ (Value.slice (some ⟨g, 0, none⟩) k sc).ownBlock = some w.heap.size) ∧ ¬ (w1.heap.size = Bx ∨ (Value.slice (some ⟨g, 0, none⟩) k sc).ownBlock = some w1.heap.size) by
          have h1 := HRB.out
          refine ⟨?_, ?_⟩
          · rintro (e | e)
            · omega
            · have := (World.ownsRow.lt HSpN.out.1 _ e).1; omega
          · rintro (e | e)
            · have := HBxl.out; omega
            · have := HSlt.out _ e; omega)
        go_wp2_with (at_builtin; refine wpList_appSp rfl (.tmp 63) (.tmp 65) rfl Bx (.slice (some ⟨g, 0, none⟩) k sc) Rr (z, S, headT Pg) (.slice pu hl8 cu) ⟨w4.heap.size, 0, none⟩ rfl rfl HAo.out.1 HAo.out.2 HN8.out.1 HN8.out.2.1 HN8.out.2.2 HY.out.1 HY.out.2.1 HY.out.2.2 ?_; intro v5 w5 ho5 hg5 hv5; obtain ⟨⟨c5, f5⟩, j5, t5⟩ := IxJ.next hlt HPg.out HZ.out HSe.out HXN.out HSpN.out HM.out HRdN.out HBbN.out HRB.out ho5 hg5; obtain ⟨q5, d5, e5, -⟩ := ho5.shape; obtain ⟨N5, hN5⟩ : ∃ N5, N5 = (Rr ++ [((z, S, headT Pg), Value.slice pu hl8 cu)]).length := ⟨_, rfl⟩; rw [← hN5] at e5; subst e5; have HJ5 := Lib.hid j5; have HR5' := Lib.hid ((t5.block w.heap.size (Array.getElem?_eq_some_iff.1 HResN.out).1 HFar.out.1).trans HResN.out); have b5 := (cells3 ((t5.block w1.heap.size (Array.getElem?_eq_some_iff.1 HBsN.out).1 HFar.out.2).trans HBsN.out)).1.2.1; clear ho5 hg5 hv5 j5 t5 hN5)
        go_roundw
        case rel =>
          refine ⟨k + 1, hlt, ?_, by simp, Lib.hid ⟨HJ5.out, HR5'.out⟩⟩
          rw [take_snoc hlt, flat_snoc, List.length_append, ← HZ.out, ← HPg.out, ← HSe.out]
          simp
        case measure => simp [intOf]; omega
    · have hkL : k = L.length := by omega
      subst hkL
      obtain ⟨⟨sv, Rr, hX, hSp, hm, hRd, hBb⟩, hres⟩ := HJ.out
      have hat : z = Cl := by rw [HZ.out, HCl.out, HC.out, List.take_length]
      rw [List.drop_eq_nil_of_le (Nat.le_refl _), List.flatMap_nil] at hRd
      rw [List.take_length, HL.out] at hm
      obtain ⟨sp, sc, rfl, -⟩ := hSp.shape
      have h0 := (cells2 hX).1.1
      have h1 := (cells2 hX).1.2
      have r0 := (cells2 hres).1.1
      have r1 := (cells2 hres).1.2
      have f0 := (cells2 hres).2.1
      have f1 := (cells2 hres).2.2
      obtain ⟨-, p9, cap9, hr9, -⟩ := hRd
      have c9 : wr.cell? ⟨R, 0, none⟩ = some (.slice p9 ([] : List UInt8).length cap9) := (cell_of_row _ R 0 _ _ (0, 0) hr9).trans rfl
      simp only [List.length_nil] at c9
      subst hat
      have hs1 : (wr.setCell ⟨w.heap.size, 0, none⟩ (.slice sp Rr.length sc)).heap[w.heap.size]? = some (.cells #[.slice sp Rr.length sc, .int .i64 0] 82 (0, 0)) := heap_setCell_same wr w.heap.size 0 #[.slice none 0 0, .int .i64 0] _ _ hres
      have g1 := (cells2 hs1).1.2
      have k1 := (cells2 hs1).2.2
      have hs2 : ((wr.setCell ⟨w.heap.size, 0, none⟩ (.slice sp Rr.length sc)).setCell ⟨w.heap.size, 1, none⟩ (.int .i64 (E.length : Int))).heap[w.heap.size]? = some (.cells #[.slice sp Rr.length sc, .int .i64 (E.length : Int)] 82 (0, 0)) := heap_setCell_same _ w.heap.size 1 #[.slice sp Rr.length sc, .int .i64 0] _ _ hs1
      have g2 := (cells2 hs2).1.1
      have g3 := (cells2 hs2).1.2
      go_wp2_with (go_at_call 53; refine (intact_ok _).mono ?_; rintro e w6 ⟨⟨zz, rfl⟩, rfl⟩)
      have ht := turned_set2 wr w.heap.size (.slice sp Rr.length sc) (.int .i64 (E.length : Int))
      have hend : OwnSp w.heap.size ((wr.setCell ⟨w.heap.size, 0, none⟩ (.slice sp Rr.length sc)).setCell ⟨w.heap.size, 1, none⟩ (.int .i64 (E.length : Int))) (.slice sp Rr.length sc) Rr := by
        have h5 := hSp.other ht hres (fun cur e => by injection e with _ e _; exact absurd e (by decide)) (fun cur e => by injection e with _ e _; exact absurd e (by decide))
        exact h5.weak (by have := HRB.out; omega)
      exact bodyPost_ret (v := .agg #[.slice sp Rr.length sc, .int .i64 (E.length : Int)]) (by simp [results, Tryz.results51, go_sem, g2, g3]) rfl ⟨_, Rr, rfl, hend, hm, hBb.trans (ht.below hBb.size (fun k e => by have e : k = w.heap.size := e; omega))⟩
end
end Go.Proofs.YtdjhfcopnhcljaaGreatDoor
