/-
  The law's few: not more entries than are looked at, none too long.
  The document's Is and Check of values and tuples: what they lay is new.
-/
import Derived.Test.YtdjhfcopnhcljaaGreatDoorW24
import Derived.Test.YtdjhfcopnhcljaaGreatDoorW47
import Derived.Shelf.SlSortCmp.QuietGrown
import Derived.BigQuiet
namespace Go.Proofs.YtdjhfcopnhcljaaGreatDoor
section
open Go Go.RowKit

def cutW (x : V3) : V3 := if x.s.size ≤ 300 then x else ⟨x.k, x.n, x.s.extract 0 300⟩
def fewT (T : List V3) : List V3 := (T.take 9).map cutW
def fewC (E : List Ct) : List Ct := (E.take 60).map fun c => (fewT c.1, c.2)
/-- The values of a tuple that an argument brings, however many. -/
def ArgS (w : World) (p : Option Addr) (T : List V3) : Prop := T = [] ∨ ∃ b off, p = some ⟨b, off, none⟩ ∧ b < w.heap.size ∧ CellsAt w b off T
/-- Entries that an argument brings, however long. -/
def EnS (w : World) (v : Value) (E : List Ct) : Prop :=
  ∃ p c, v = .slice p E.length c ∧ E.length ≤ 9223372036854775807 ∧ (E = [] ∨ ∃ b off, p = some ⟨b, off, none⟩ ∧ b < w.heap.size ∧ ∀ j (h : j < E.length), ∃ pu cu, w.cell? ⟨b, off + j * 2, none⟩ = some (.slice pu E[j].1.length cu) ∧ w.cell? ⟨b, off + j * 2 + 1, none⟩ = some (.int .i64 E[j].2) ∧ ArgS w pu E[j].1 ∧ E[j].1.length ≤ cu ∧ cu ≤ maxLen)
theorem OwnR.shp {B : Nat} {w : World} {v : Value} {T : List V3} (h : OwnR B w v T) : ∃ p c, v = .slice p T.length c := by
  rcases h.2 with ⟨rfl, h0⟩ | ⟨g, cap, cur, rfl, -⟩
  · exact ⟨none, 0, by rw [show T.length = 0 from h0]⟩
  · exact ⟨_, cap, rfl⟩
theorem OwnR.zero {B : Nat} {w : World} {v : Value} {T : List V3} (h : OwnR B w v T) : OwnR 0 w v T := by
  refine ⟨h.1, ?_⟩
  rcases h.2 with h | ⟨g, cap, cur, e, h1, rest⟩
  · exact .inl h
  · exact .inr ⟨g, cap, cur, e, Nat.zero_le _, rest⟩
theorem ArgS.below {w w' : World} {p : Option Addr} {T : List V3} (h : ArgS w p T) (hb : Below w.heap.size w w') : ArgS w' p T := by
  rcases h with h | ⟨b, off, rfl, hl, hc⟩
  · exact .inl h
  · exact .inr ⟨b, off, rfl, Nat.lt_of_lt_of_le hl hb.size, hc.below hb hl⟩
theorem ArgS.front {w : World} {pa : Option Addr} {T : List V3} (h : ArgS w pa T) (c k : Nat) (hk : k ≤ T.length) (h9 : k ≤ 9) : TupS (fun k => k < w.heap.size) w (.slice pa k c) (T.take k) := by
  have hl : (T.take k).length = k := by rw [List.length_take]; omega
  refine ⟨_, _, by rw [hl], by omega, ?_⟩
  rcases h with h | ⟨b, off, rfl, hb, hc⟩
  · exact .inl (by rw [h]; exact List.take_nil)
  · refine .inr ⟨b, off, rfl, hb, fun j hj => ?_⟩
    rw [List.getElem_take]
    exact hc j (by rw [hl] at hj; omega)
set_option maxRecDepth 100000 in
set_option maxHeartbeats 8000000 in
theorem rfew_any (v : Value) (E : List Ct) (w : World) (h : EnS w v E) :
    Calls Tryz.prog 9 #[v] w fun e w' => ∃ v' Rr, e = .returned v' ∧ OwnCt w.heap.size w' v' Rr ∧ Rr.map (·.1) = fewC E ∧ Below w.heap.size w w' := by
  obtain ⟨pa, ca, rfl, hE, hd⟩ := h
  have HD := Lib.hid hd
  obtain ⟨n, hn⟩ : ∃ n, n = E.length := ⟨_, rfl⟩
  rw [← hn] at hE ⊢
  have HN := Lib.hid hn
  clear hd hn
  go_enter Tryz.func9, Tryz.ntmps9
  go_wp2_with fail
  go_loopw [3, 4] (fun l i wr => ∃ k : Nat, k ≤ n ∧ k ≤ 60 ∧ i = .int .i64 k ∧ (∃ p c, l = .slice p k c) ∧ Hid (∃ Rr, OwnCt w.heap.size wr l Rr ∧ Rr.map (·.1) = fewC (E.take k) ∧ Below w.heap.size w wr)) (fun _ i _ => n - (intOf i).toNat)
  case atStart => exact ⟨0, Nat.zero_le _, by decide, rfl, ⟨_, _, rfl⟩, Lib.hid ⟨[], OwnCt.nil _ _, by simp [fewC], Below.refl _ _⟩⟩
  case round =>
    obtain ⟨k, hk, hk60, rfl, ⟨p, c, rfl⟩, HJ⟩ := hrel
    have h0 : (0 : Int) ≤ (k : Int) := by omega
    by_cases hlt : k < n
    · have hlt' : (k : Int) < (n : Int) := by omega
      by_cases h60 : k < 60
      · have h60' : (k : Int) < 60 := by omega
        have hkE : k < E.length := by rw [← HN.out]; exact hlt
        obtain ⟨Rr, hown, hm, hbw⟩ := HJ.out
        obtain ⟨b, off, rfl, hb, hr⟩ : ∃ b off, pa = some ⟨b, off, none⟩ ∧ b < w.heap.size ∧ _ := by
          rcases HD.out with h | h
          · rw [h] at hkE; simp at hkE
          · exact h
        obtain ⟨pu, cu, u0, u1, ht, hcu1, hcu2⟩ := hr k hkE
        have hsn : fewC (E.take (k + 1)) = fewC (E.take k) ++ [(fewT E[k].1, E[k].2)] := by
          have t1 : (E.take (k + 1)).take 60 = E.take (k + 1) := List.take_of_length_le (by rw [List.length_take]; omega)
          have t2 : (E.take k).take 60 = E.take k := List.take_of_length_le (by rw [List.length_take]; omega)
          unfold fewC
          rw [t1, t2, List.take_succ_eq_append_getElem hkE, List.map_append]
          rfl
        obtain ⟨q, hq⟩ : ∃ q, q = E[k] := ⟨_, rfl⟩
        rw [← hq] at u0 u1 ht hcu1 hsn
        obtain ⟨T0, qn⟩ := q
        simp only at u0 u1 ht hcu1 hsn
        have x0 := (hbw.cell (p := ⟨b, off + k * 2, none⟩) hb).trans u0
        have x1 := (hbw.cell (p := ⟨b, off + k * 2 + 1, none⟩) hb).trans u1
        have ht := ht.below hbw
        have HOwn := Lib.hid (show (∀ W, Below wr.heap.size wr W → OwnCt w.heap.size W (.slice p k c) Rr ∧ Below w.heap.size w W) ∧ Rr.map (·.1) = fewC (E.take k) ∧ fewC (E.take (k + 1)) = fewC (E.take k) ++ [(fewT T0, qn)] from ⟨fun W hW => ⟨hown.below hW, hbw.trans (hW.mono hbw.size)⟩, hm, hsn⟩)
        obtain ⟨m0, hm0⟩ : ∃ m, m = T0.length := ⟨_, rfl⟩
        rw [← hm0] at x0 hcu1
        unfold maxLen at hcu2
        by_cases h9 : 9 < m0
        · have h9' : (9 : Int) < (m0 : Int) := by omega
          have hc1 : (9 : Int) ≤ (cu : Int) := by omega
          have hc2 : (cu : Int) ≤ 9223372036854775807 := by omega
          have hc3 : (m0 : Int) ≤ (cu : Int) := by omega
          obtain ⟨W5, hW5⟩ : ∃ W, W = wr.alloc (.cells #[.slice pu 9 cu, .int .i64 qn] 66) := ⟨_, rfl⟩
          have hh5 : W5.heap[wr.heap.size]? = some (.cells #[.slice pu 9 cu, .int .i64 qn] 66 (0, 0)) := by rw [hW5]; exact World.alloc_heap_new wr _
          have hb5 : Below wr.heap.size wr W5 := by rw [hW5]; exact below_new wr _
          obtain ⟨T, hT⟩ : ∃ T, T = T0.take 9 := ⟨_, rfl⟩
          have ht : TupS (fun k => k < W5.heap.size) W5 (.slice pu 9 cu) T := by rw [hT]; exact ArgS.front (ht.below hb5) cu 9 (by omega) (by decide)
          obtain ⟨m, hmm⟩ : ∃ m, m = 9 := ⟨_, rfl⟩
          have HM : Hid (m = T.length) := Lib.hid (show m = T.length by rw [hT, List.length_take]; omega)
          have HM9 := Lib.hid (show T.length ≤ 9 by rw [hT, List.length_take]; omega)
          have HTT := Lib.hid (show fewT T0 = T.map cutW by unfold fewT; rw [hT])
          have hs5 : W5.heap.size = wr.heap.size + 1 := by rw [hW5]; simp
          clear hT hm0 u0 u1
          have HB5 := Lib.hid hb5
          have HH5 := Lib.hid hh5
          have HT := Lib.hid ht
          have hl5 := (Array.getElem?_eq_some_iff.1 hh5).1
          obtain ⟨W6, hW6⟩ : ∃ W, W = W5.alloc (.cells #[] 92) := ⟨_, rfl⟩
          have hb6 : Below (wr.heap.size + 1) W5 W6 := by rw [hW6, ← hs5]; exact below_new W5 _
          have HO6 := Lib.hid (show OwnR (wr.heap.size + 1) W6 (.slice (some ⟨wr.heap.size + 1, 0, none⟩) 0 0) [] by rw [hW6, ← hs5]; exact OwnR.empty _ W5 (Nat.le_refl _))
          have HB6 := Lib.hid hb6
          have HS5 := Lib.hid hs5
          clear hb5 hh5 ht hl5 hb6 hs5
          go_wp2_with fail
          rw [← hW5, ← hW6]
          clear hW6
          clear hW5
          generalize wr.heap.size = N at *
          go_loopw [6, 7] (fun l i wr => ∃ j : Nat, j ≤ m ∧ i = .int .i64 j ∧ (∃ p c, l = .slice p j c) ∧ Hid (OwnR (N + 1) wr l ((T.take j).map cutW)) ∧ Hid (Below (N + 1) W5 wr)) (fun _ i _ => m - (intOf i).toNat)
          case atStart => exact ⟨0, Nat.zero_le _, rfl, ⟨_, _, rfl⟩, by rw [List.take_zero]; exact HO6, HB6⟩
          case round =>
            obtain ⟨j, hj, rfl, ⟨p2, c2, rfl⟩, HO, HBj⟩ := hrel
            have c5 := (HBj.out.cell (p := ⟨N, 0, none⟩) (show N < N + 1 by omega)).trans (cells2R HH5.out).1.1
            have j0 : (0 : Int) ≤ (j : Int) := by omega
            by_cases hjm : j < m
            · have hjm' : (j : Int) < (m : Int) := by omega
              have hjT : j < T.length := by rw [← HM.out]; exact hjm
              obtain ⟨bt, ot, ct', hpt, hbt, hct⟩ := HT.out.some hjT
              obtain rfl : pu = some ⟨bt, ot, none⟩ := by injection hpt
              clear hpt
              have hbt1 : bt < N + 1 := by have := HS5.out; omega
              obtain ⟨d0, d1, d2⟩ := hct j hjT
              have d0 := (HBj.out.cell (p := ⟨bt, ot + j * 3, none⟩) hbt1).trans d0
              have d1 := (HBj.out.cell (p := ⟨bt, ot + j * 3 + 1, none⟩) hbt1).trans d1
              have d2 := (HBj.out.cell (p := ⟨bt, ot + j * 3 + 2, none⟩) hbt1).trans d2
              have hsn : (T.take (j + 1)).map cutW = (T.take j).map cutW ++ [cutW T[j]] := by rw [List.take_succ_eq_append_getElem hjT, List.map_append]; rfl
              obtain ⟨x, hx⟩ : ∃ x, x = T[j] := ⟨_, rfl⟩
              rw [← hx] at d0 d1 d2 hsn
              obtain ⟨xk, xn, xs⟩ := x
              simp only at d0 d1 d2
              have HSn := Lib.hid hsn
              have hjl : ((T.take j).map cutW).length ≤ 1000000 := by rw [List.length_map, List.length_take]; have := HM9.out; omega
              have HJl := Lib.hid hjl
              clear hct hx hsn hjl
              have hsz2 := HBj.out.size
              by_cases hbig : xs.size ≤ 300
              · have hbig' : ¬ (300 : Int) < (xs.size : Int) := by omega
                have hcv : cutW ⟨xk, xn, xs⟩ = ⟨xk, xn, xs⟩ := by unfold cutW; rw [if_pos hbig]
                have HCv := Lib.hid hcv
                obtain ⟨W7, hW7⟩ : ∃ W, W = (wr.alloc (.cells #[.int .i64 xk, .int .i64 xn, .string xs] 92)).alloc (.cells #[.int .i64 xk, .int .i64 xn, .string xs] 92) := ⟨_, rfl⟩
                have hb7 : Below wr.heap.size wr W7 := by rw [hW7]; exact (below_new wr _).alloc (by simp) _
                have hin : TupIn W7.heap.size W7 (.slice (some ⟨wr.heap.size + 1, 0, none⟩) 1 1) [⟨xk, xn, xs⟩] := by
                  have := lit_in (wr.alloc (.cells #[.int .i64 xk, .int .i64 xn, .string xs] 92)) ⟨xk, xn, xs⟩
                  simp only [World.size_alloc] at this
                  rw [hW7]
                  simp only [World.size_alloc]
                  exact this
                have HIn := Lib.hid (And.intro hin (And.intro (HO.out.below hb7) (HBj.out.trans (hb7.mono (by have := HS5.out; omega)))))
                clear hcv hin hb7
                go_wp2_with (at_builtin; rw [← hW7]; refine wpList_appT rfl (.tmp 52) (.tmp 54) rfl (N + 1) W7.heap.size W5 (.slice p2 j c2) (.slice (some ⟨wr.heap.size + 1, 0, none⟩) 1 1) ((T.take j).map cutW) [⟨xk, xn, xs⟩] rfl rfl HIn.out.2.1 HIn.out.1 HJl.out HIn.out.2.2 (by have := HS5.out; omega) ?_; intro v8 w8 ho8 hb8; rw [← HCv.out, ← HSn.out] at ho8; obtain ⟨q8, d8, e8⟩ := OwnR.shp ho8; have e8' : ((T.take (j + 1)).map cutW).length = j + 1 := (by rw [List.length_map, List.length_take]; omega); rw [e8'] at e8; subst e8; have HO8 := Lib.hid ho8; have HB8 := Lib.hid hb8; clear ho8 hb8 e8')
                go_roundw
                case rel => exact ⟨j + 1, hjm, by simp, ⟨_, _, rfl⟩, HO8, HB8⟩
                case measure => simp [intOf]; omega
              · have hbig' : (300 : Int) < (xs.size : Int) := by omega
                obtain ⟨ys, hys⟩ : ∃ y, y = xs.extract 0 300 := ⟨_, rfl⟩
                have hcv : cutW ⟨xk, xn, xs⟩ = ⟨xk, xn, ys⟩ := by unfold cutW; rw [if_neg hbig, hys]
                have HCv := Lib.hid hcv
                obtain ⟨W7, hW7⟩ : ∃ W, W = (wr.alloc (.cells #[.int .i64 xk, .int .i64 xn, .string ys] 92)).alloc (.cells #[.int .i64 xk, .int .i64 xn, .string ys] 92) := ⟨_, rfl⟩
                have hb7 : Below wr.heap.size wr W7 := by rw [hW7]; exact (below_new wr _).alloc (by simp) _
                have hin : TupIn W7.heap.size W7 (.slice (some ⟨wr.heap.size + 1, 0, none⟩) 1 1) [⟨xk, xn, ys⟩] := by
                  have := lit_in (wr.alloc (.cells #[.int .i64 xk, .int .i64 xn, .string ys] 92)) ⟨xk, xn, ys⟩
                  simp only [World.size_alloc] at this
                  rw [hW7]
                  simp only [World.size_alloc]
                  exact this
                have HIn := Lib.hid (And.intro hin (And.intro (HO.out.below hb7) (HBj.out.trans (hb7.mono (by have := HS5.out; omega)))))
                clear hcv hin hb7
                go_wp2_with (at_builtin; rw [← hys, ← hW7]; refine wpList_appT rfl (.tmp 52) (.tmp 54) rfl (N + 1) W7.heap.size W5 (.slice p2 j c2) (.slice (some ⟨wr.heap.size + 1, 0, none⟩) 1 1) ((T.take j).map cutW) [⟨xk, xn, ys⟩] rfl rfl HIn.out.2.1 HIn.out.1 HJl.out HIn.out.2.2 (by have := HS5.out; omega) ?_; intro v8 w8 ho8 hb8; rw [← HCv.out, ← HSn.out] at ho8; obtain ⟨q8, d8, e8⟩ := OwnR.shp ho8; have e8' : ((T.take (j + 1)).map cutW).length = j + 1 := (by rw [List.length_map, List.length_take]; omega); rw [e8'] at e8; subst e8; have HO8 := Lib.hid ho8; have HB8 := Lib.hid hb8; clear ho8 hb8 e8')
                go_roundw
                case rel => exact ⟨j + 1, hjm, by simp, ⟨_, _, rfl⟩, HO8, HB8⟩
                case measure => simp [intOf]; omega
            · have hjm2 : j = m := by omega
              have hN : wr.heap[N]? = some (.cells #[.slice pu 9 cu, .int .i64 qn] 66 (0, 0)) := (HBj.out.block N (by omega)).trans HH5.out
              obtain ⟨-, f5, -⟩ := cells2R hN
              have hN2 := heap_setCell_same wr N 0 _ _ (.slice p2 j c2) hN
              obtain ⟨⟨g0, g1⟩, -⟩ := cells2R (x := .slice p2 j c2) (y := .int .i64 qn) hN2
              obtain ⟨o9, ho9⟩ : ∃ o, o = Obj.cells #[.slice p2 j c2, .int .i64 qn] 66 := ⟨_, rfl⟩
              obtain ⟨W8, hW8⟩ : ∃ W, W = wr.setCell ⟨N, 0, none⟩ (.slice p2 j c2) := ⟨_, rfl⟩
              have hs8 : W8.heap.size = wr.heap.size := by rw [hW8]; simp
              have hbn := below_new W8 o9
              have hb58 : Below N W5 W8 := by rw [hW8]; exact (show Below N W5 wr from HBj.out.mono (by omega)).setCell (p := ⟨N, 0, none⟩) (Nat.le_refl _) _
              have hb59 : Below N W5 (W8.alloc o9) := hb58.trans (hbn.mono (by have := HBj.out.size; have := HS5.out; omega))
              obtain ⟨hk1, hk2⟩ := HOwn.out.1 _ (HB5.out.trans hb59)
              have hrow : OwnR 0 (W8.alloc o9) (.slice p2 j c2) (fewT T0) := by
                have h1 := HO.out
                rw [hjm2, HM.out, List.take_length, ← HTT.out, ← HM.out, ← hjm2] at h1
                have h2 : OwnR (N + 1) W8 (.slice p2 j c2) (fewT T0) := by
                  rw [hW8]
                  exact ownR_off h1 (turned_setCell wr N _) (fun q hq e => by have h3 := (ownsRow_block h1 q hq).1; have e : q = N := e; omega)
                exact (h2.below hbn).zero
              have hf9 : (fewT T0).length ≤ 9 := by rw [HTT.out, List.length_map]; exact HM9.out
              have hRl : Rr.length = k := by
                have h1 := congrArg List.length HOwn.out.2.1
                unfold fewC at h1
                rw [List.length_map, List.length_map, List.length_take, List.length_take] at h1
                have := HN.out
                omega
              have hy := (cells2R (World.alloc_heap_new W8 (.cells #[.slice p2 j c2, .int .i64 qn] 66))).1
              rw [← ho9, hs8] at hy
              have HAo := Lib.hid (And.intro hk1 (And.intro hrow (And.intro hf9 (And.intro (show Rr.length ≤ 1000000 by omega) (And.intro hk2.size (And.intro hy.1 hy.2))))))
              have HRl := Lib.hid hRl
              have hlow := fun q (e : (Value.slice p k c).ownBlock = some q) => (World.ownsRow.lt hk1.1 q e).1
              have HEnd := Lib.hid (show ∀ v9 w9, OwnCt w.heap.size w9 v9 (Rr ++ [((fewT T0, qn), .slice p2 j c2)]) → (W8.alloc o9).grownBy w9 (Value.slice p k c).ownBlock → ∃ Rr, OwnCt w.heap.size w9 v9 Rr ∧ Rr.map (·.1) = fewC (E.take (k + 1)) ∧ Below w.heap.size w w9 from fun v9 w9 h9 hg9 =>
                ⟨_, h9, by rw [List.map_append, HOwn.out.2.1, HOwn.out.2.2]; rfl, hk2.trans ((show Turned (fun q => (Value.slice p k c).ownBlock = some q) _ _ from Turned.of_grown hg9).below hk2.size hlow)⟩)
              clear hN hN2 hbn hb58 hb59 hk1 hk2 hrow hf9 hRl hy hlow hs8
              have hz1 : ¬ (j : Int) < (9 : Int) := by omega
              have hz2 : ¬ j < 9 := by omega
              clear hjm2 hjm hj
              go_wp2_with (at_builtin; rw [← hW8, ← ho9]; refine wpList_appCt rfl (.tmp 58) (.tmp 60) rfl w.heap.size (.slice p k c) Rr (fewT T0, qn) (.slice p2 j c2) ⟨wr.heap.size, 0, none⟩ rfl rfl HAo.out.1 HAo.out.2.1 HAo.out.2.2.1 HAo.out.2.2.2.1 HAo.out.2.2.2.2.1 HAo.out.2.2.2.2.2.1 HAo.out.2.2.2.2.2.2 ?_; intro v9 w9 ho_9 hg9 hv9; have HJ9 := Lib.hid (HEnd.out v9 w9 ho_9 hg9); obtain ⟨q9, d9, e9⟩ := ho_9.shape; rw [List.length_append, HRl.out] at e9; subst e9; clear ho_9 hg9 hv9)
              go_roundw
              case rel => exact ⟨k + 1, hlt, by omega, by simp, ⟨_, _, rfl⟩, HJ9⟩
              case measure => simp [intOf]; omega
        · have h9' : ¬ (9 : Int) < (m0 : Int) := by omega
          obtain ⟨W5, hW5⟩ : ∃ W, W = wr.alloc (.cells #[.slice pu m0 cu, .int .i64 qn] 66) := ⟨_, rfl⟩
          have hh5 : W5.heap[wr.heap.size]? = some (.cells #[.slice pu m0 cu, .int .i64 qn] 66 (0, 0)) := by rw [hW5]; exact World.alloc_heap_new wr _
          have hb5 : Below wr.heap.size wr W5 := by rw [hW5]; exact below_new wr _
          obtain ⟨T, hT⟩ : ∃ T, T = T0 := ⟨_, rfl⟩
          have ht : TupS (fun k => k < W5.heap.size) W5 (.slice pu m0 cu) T := by have h1 := ArgS.front (ht.below hb5) cu m0 (by omega) (by omega); rw [hT]; rwa [hm0, List.take_length, ← hm0] at h1
          obtain ⟨m, hmm⟩ : ∃ m, m = m0 := ⟨_, rfl⟩
          have HM : Hid (m = T.length) := Lib.hid (show m = T.length by rw [hT, hmm, hm0])
          have HM9 := Lib.hid (show T.length ≤ 9 by rw [hT, ← hm0]; omega)
          have HTT := Lib.hid (show fewT T0 = T.map cutW by unfold fewT; rw [hT, List.take_of_length_le (by rw [← hm0]; omega)])
          have hs5 : W5.heap.size = wr.heap.size + 1 := by rw [hW5]; simp
          clear hT hm0 u0 u1
          subst hmm
          have HB5 := Lib.hid hb5
          have HH5 := Lib.hid hh5
          have HT := Lib.hid ht
          have hl5 := (Array.getElem?_eq_some_iff.1 hh5).1
          obtain ⟨W6, hW6⟩ : ∃ W, W = W5.alloc (.cells #[] 92) := ⟨_, rfl⟩
          have hb6 : Below (wr.heap.size + 1) W5 W6 := by rw [hW6, ← hs5]; exact below_new W5 _
          have HO6 := Lib.hid (show OwnR (wr.heap.size + 1) W6 (.slice (some ⟨wr.heap.size + 1, 0, none⟩) 0 0) [] by rw [hW6, ← hs5]; exact OwnR.empty _ W5 (Nat.le_refl _))
          have HB6 := Lib.hid hb6
          have HS5 := Lib.hid hs5
          clear hb5 hh5 ht hl5 hb6 hs5
          go_wp2_with fail
          rw [← hW5, ← hW6]
          clear hW6
          clear hW5
          generalize wr.heap.size = N at *
          go_loopw [6, 7] (fun l i wr => ∃ j : Nat, j ≤ m ∧ i = .int .i64 j ∧ (∃ p c, l = .slice p j c) ∧ Hid (OwnR (N + 1) wr l ((T.take j).map cutW)) ∧ Hid (Below (N + 1) W5 wr)) (fun _ i _ => m - (intOf i).toNat)
          case atStart => exact ⟨0, Nat.zero_le _, rfl, ⟨_, _, rfl⟩, by rw [List.take_zero]; exact HO6, HB6⟩
          case round =>
            obtain ⟨j, hj, rfl, ⟨p2, c2, rfl⟩, HO, HBj⟩ := hrel
            have c5 := (HBj.out.cell (p := ⟨N, 0, none⟩) (show N < N + 1 by omega)).trans (cells2R HH5.out).1.1
            have j0 : (0 : Int) ≤ (j : Int) := by omega
            by_cases hjm : j < m
            · have hjm' : (j : Int) < (m : Int) := by omega
              have hjT : j < T.length := by rw [← HM.out]; exact hjm
              obtain ⟨bt, ot, ct', hpt, hbt, hct⟩ := HT.out.some hjT
              obtain rfl : pu = some ⟨bt, ot, none⟩ := by injection hpt
              clear hpt
              have hbt1 : bt < N + 1 := by have := HS5.out; omega
              obtain ⟨d0, d1, d2⟩ := hct j hjT
              have d0 := (HBj.out.cell (p := ⟨bt, ot + j * 3, none⟩) hbt1).trans d0
              have d1 := (HBj.out.cell (p := ⟨bt, ot + j * 3 + 1, none⟩) hbt1).trans d1
              have d2 := (HBj.out.cell (p := ⟨bt, ot + j * 3 + 2, none⟩) hbt1).trans d2
              have hsn : (T.take (j + 1)).map cutW = (T.take j).map cutW ++ [cutW T[j]] := by rw [List.take_succ_eq_append_getElem hjT, List.map_append]; rfl
              obtain ⟨x, hx⟩ : ∃ x, x = T[j] := ⟨_, rfl⟩
              rw [← hx] at d0 d1 d2 hsn
              obtain ⟨xk, xn, xs⟩ := x
              simp only at d0 d1 d2
              have HSn := Lib.hid hsn
              have hjl : ((T.take j).map cutW).length ≤ 1000000 := by rw [List.length_map, List.length_take]; have := HM9.out; omega
              have HJl := Lib.hid hjl
              clear hct hx hsn hjl
              have hsz2 := HBj.out.size
              by_cases hbig : xs.size ≤ 300
              · have hbig' : ¬ (300 : Int) < (xs.size : Int) := by omega
                have hcv : cutW ⟨xk, xn, xs⟩ = ⟨xk, xn, xs⟩ := by unfold cutW; rw [if_pos hbig]
                have HCv := Lib.hid hcv
                obtain ⟨W7, hW7⟩ : ∃ W, W = (wr.alloc (.cells #[.int .i64 xk, .int .i64 xn, .string xs] 92)).alloc (.cells #[.int .i64 xk, .int .i64 xn, .string xs] 92) := ⟨_, rfl⟩
                have hb7 : Below wr.heap.size wr W7 := by rw [hW7]; exact (below_new wr _).alloc (by simp) _
                have hin : TupIn W7.heap.size W7 (.slice (some ⟨wr.heap.size + 1, 0, none⟩) 1 1) [⟨xk, xn, xs⟩] := by
                  have := lit_in (wr.alloc (.cells #[.int .i64 xk, .int .i64 xn, .string xs] 92)) ⟨xk, xn, xs⟩
                  simp only [World.size_alloc] at this
                  rw [hW7]
                  simp only [World.size_alloc]
                  exact this
                have HIn := Lib.hid (And.intro hin (And.intro (HO.out.below hb7) (HBj.out.trans (hb7.mono (by have := HS5.out; omega)))))
                clear hcv hin hb7
                go_wp2_with (at_builtin; rw [← hW7]; refine wpList_appT rfl (.tmp 52) (.tmp 54) rfl (N + 1) W7.heap.size W5 (.slice p2 j c2) (.slice (some ⟨wr.heap.size + 1, 0, none⟩) 1 1) ((T.take j).map cutW) [⟨xk, xn, xs⟩] rfl rfl HIn.out.2.1 HIn.out.1 HJl.out HIn.out.2.2 (by have := HS5.out; omega) ?_; intro v8 w8 ho8 hb8; rw [← HCv.out, ← HSn.out] at ho8; obtain ⟨q8, d8, e8⟩ := OwnR.shp ho8; have e8' : ((T.take (j + 1)).map cutW).length = j + 1 := (by rw [List.length_map, List.length_take]; omega); rw [e8'] at e8; subst e8; have HO8 := Lib.hid ho8; have HB8 := Lib.hid hb8; clear ho8 hb8 e8')
                go_roundw
                case rel => exact ⟨j + 1, hjm, by simp, ⟨_, _, rfl⟩, HO8, HB8⟩
                case measure => simp [intOf]; omega
              · have hbig' : (300 : Int) < (xs.size : Int) := by omega
                obtain ⟨ys, hys⟩ : ∃ y, y = xs.extract 0 300 := ⟨_, rfl⟩
                have hcv : cutW ⟨xk, xn, xs⟩ = ⟨xk, xn, ys⟩ := by unfold cutW; rw [if_neg hbig, hys]
                have HCv := Lib.hid hcv
                obtain ⟨W7, hW7⟩ : ∃ W, W = (wr.alloc (.cells #[.int .i64 xk, .int .i64 xn, .string ys] 92)).alloc (.cells #[.int .i64 xk, .int .i64 xn, .string ys] 92) := ⟨_, rfl⟩
                have hb7 : Below wr.heap.size wr W7 := by rw [hW7]; exact (below_new wr _).alloc (by simp) _
                have hin : TupIn W7.heap.size W7 (.slice (some ⟨wr.heap.size + 1, 0, none⟩) 1 1) [⟨xk, xn, ys⟩] := by
                  have := lit_in (wr.alloc (.cells #[.int .i64 xk, .int .i64 xn, .string ys] 92)) ⟨xk, xn, ys⟩
                  simp only [World.size_alloc] at this
                  rw [hW7]
                  simp only [World.size_alloc]
                  exact this
                have HIn := Lib.hid (And.intro hin (And.intro (HO.out.below hb7) (HBj.out.trans (hb7.mono (by have := HS5.out; omega)))))
                clear hcv hin hb7
                go_wp2_with (at_builtin; rw [← hys, ← hW7]; refine wpList_appT rfl (.tmp 52) (.tmp 54) rfl (N + 1) W7.heap.size W5 (.slice p2 j c2) (.slice (some ⟨wr.heap.size + 1, 0, none⟩) 1 1) ((T.take j).map cutW) [⟨xk, xn, ys⟩] rfl rfl HIn.out.2.1 HIn.out.1 HJl.out HIn.out.2.2 (by have := HS5.out; omega) ?_; intro v8 w8 ho8 hb8; rw [← HCv.out, ← HSn.out] at ho8; obtain ⟨q8, d8, e8⟩ := OwnR.shp ho8; have e8' : ((T.take (j + 1)).map cutW).length = j + 1 := (by rw [List.length_map, List.length_take]; omega); rw [e8'] at e8; subst e8; have HO8 := Lib.hid ho8; have HB8 := Lib.hid hb8; clear ho8 hb8 e8')
                go_roundw
                case rel => exact ⟨j + 1, hjm, by simp, ⟨_, _, rfl⟩, HO8, HB8⟩
                case measure => simp [intOf]; omega
            · have hjm2 : j = m := by omega
              have hN : wr.heap[N]? = some (.cells #[.slice pu m cu, .int .i64 qn] 66 (0, 0)) := (HBj.out.block N (by omega)).trans HH5.out
              obtain ⟨-, f5, -⟩ := cells2R hN
              have hN2 := heap_setCell_same wr N 0 _ _ (.slice p2 j c2) hN
              obtain ⟨⟨g0, g1⟩, -⟩ := cells2R (x := .slice p2 j c2) (y := .int .i64 qn) hN2
              obtain ⟨o9, ho9⟩ : ∃ o, o = Obj.cells #[.slice p2 j c2, .int .i64 qn] 66 := ⟨_, rfl⟩
              obtain ⟨W8, hW8⟩ : ∃ W, W = wr.setCell ⟨N, 0, none⟩ (.slice p2 j c2) := ⟨_, rfl⟩
              have hs8 : W8.heap.size = wr.heap.size := by rw [hW8]; simp
              have hbn := below_new W8 o9
              have hb58 : Below N W5 W8 := by rw [hW8]; exact (show Below N W5 wr from HBj.out.mono (by omega)).setCell (p := ⟨N, 0, none⟩) (Nat.le_refl _) _
              have hb59 : Below N W5 (W8.alloc o9) := hb58.trans (hbn.mono (by have := HBj.out.size; have := HS5.out; omega))
              obtain ⟨hk1, hk2⟩ := HOwn.out.1 _ (HB5.out.trans hb59)
              have hrow : OwnR 0 (W8.alloc o9) (.slice p2 j c2) (fewT T0) := by
                have h1 := HO.out
                rw [hjm2, HM.out, List.take_length, ← HTT.out, ← HM.out, ← hjm2] at h1
                have h2 : OwnR (N + 1) W8 (.slice p2 j c2) (fewT T0) := by
                  rw [hW8]
                  exact ownR_off h1 (turned_setCell wr N _) (fun q hq e => by have h3 := (ownsRow_block h1 q hq).1; have e : q = N := e; omega)
                exact (h2.below hbn).zero
              have hf9 : (fewT T0).length ≤ 9 := by rw [HTT.out, List.length_map]; exact HM9.out
              have hRl : Rr.length = k := by
                have h1 := congrArg List.length HOwn.out.2.1
                unfold fewC at h1
                rw [List.length_map, List.length_map, List.length_take, List.length_take] at h1
                have := HN.out
                omega
              have hy := (cells2R (World.alloc_heap_new W8 (.cells #[.slice p2 j c2, .int .i64 qn] 66))).1
              rw [← ho9, hs8] at hy
              have HAo := Lib.hid (And.intro hk1 (And.intro hrow (And.intro hf9 (And.intro (show Rr.length ≤ 1000000 by omega) (And.intro hk2.size (And.intro hy.1 hy.2))))))
              have HRl := Lib.hid hRl
              have hlow := fun q (e : (Value.slice p k c).ownBlock = some q) => (World.ownsRow.lt hk1.1 q e).1
              have HEnd := Lib.hid (show ∀ v9 w9, OwnCt w.heap.size w9 v9 (Rr ++ [((fewT T0, qn), .slice p2 j c2)]) → (W8.alloc o9).grownBy w9 (Value.slice p k c).ownBlock → ∃ Rr, OwnCt w.heap.size w9 v9 Rr ∧ Rr.map (·.1) = fewC (E.take (k + 1)) ∧ Below w.heap.size w w9 from fun v9 w9 h9 hg9 =>
                ⟨_, h9, by rw [List.map_append, HOwn.out.2.1, HOwn.out.2.2]; rfl, hk2.trans ((show Turned (fun q => (Value.slice p k c).ownBlock = some q) _ _ from Turned.of_grown hg9).below hk2.size hlow)⟩)
              clear hN hN2 hbn hb58 hb59 hk1 hk2 hrow hf9 hRl hy hlow hs8
              have hz1 : ¬ (j : Int) < (m : Int) := by omega
              have hz2 : ¬ j < m := by omega
              clear hjm2 hjm hj
              go_wp2_with (at_builtin; rw [← hW8, ← ho9]; refine wpList_appCt rfl (.tmp 58) (.tmp 60) rfl w.heap.size (.slice p k c) Rr (fewT T0, qn) (.slice p2 j c2) ⟨wr.heap.size, 0, none⟩ rfl rfl HAo.out.1 HAo.out.2.1 HAo.out.2.2.1 HAo.out.2.2.2.1 HAo.out.2.2.2.2.1 HAo.out.2.2.2.2.2.1 HAo.out.2.2.2.2.2.2 ?_; intro v9 w9 ho_9 hg9 hv9; have HJ9 := Lib.hid (HEnd.out v9 w9 ho_9 hg9); obtain ⟨q9, d9, e9⟩ := ho_9.shape; rw [List.length_append, HRl.out] at e9; subst e9; clear ho_9 hg9 hv9)
              go_roundw
              case rel => exact ⟨k + 1, hlt, by omega, by simp, ⟨_, _, rfl⟩, HJ9⟩
              case measure => simp [intOf]; omega
      · obtain rfl : k = 60 := by omega
        obtain ⟨Rr, hown, hm, hbw⟩ := HJ.out
        have h60' : ¬ (60 : Int) < 60 := by omega
        have HE := Lib.hid (And.intro hown (And.intro (show Rr.map (·.1) = fewC E by rw [hm]; unfold fewC; rw [List.take_take]; rfl) hbw))
        clear hown hm hbw HJ
        go_wp2_with fail
        go_ret
        first | exact ⟨_, Rr, rfl, HE.out⟩ | exact ⟨_, rfl, Rr, HE.out⟩
    · obtain rfl : k = n := by omega
      obtain ⟨Rr, hown, hm, hbw⟩ := HJ.out
      have HE := Lib.hid (And.intro hown (And.intro (show Rr.map (·.1) = fewC E by rw [hm, HN.out, List.take_length]) hbw))
      clear hown hm hbw HJ
      go_wp2_with fail
      go_ret
      exact ⟨_, Rr, rfl, HE.out⟩
end
section
open Go Go.RowKit

set_option maxHeartbeats 400000 in
theorem is_yesG (k n : Int) (s : ByteArray) (w : World) (h : IsV k n s) :
    Calls Tryz.prog 107 #[.agg #[.int .i64 k, .int .i64 n, .string s]] w fun e w' => e = .returned (.bool true) ∧ Grown w w' := by
  rcases h with ⟨rfl, h⟩ | ⟨rfl, rfl, h⟩
  · go_enter Tryz.func107, Tryz.ntmps107
    go_wp2
    go_ret
    exact ⟨by simp, (Grown.refl _).alloc _⟩
  · have h' : (s.size : Int) ≤ 256 := by omega
    go_enter Tryz.func107, Tryz.ntmps107
    go_wp2
    go_ret
    exact ⟨by simp, (Grown.refl _).alloc _⟩
set_option maxHeartbeats 400000 in
theorem is_noG (k n : Int) (s : ByteArray) (w : World) (h : ¬ IsV k n s) :
    Calls Tryz.prog 107 #[.agg #[.int .i64 k, .int .i64 n, .string s]] w fun e w' => e = .returned (.bool false) ∧ Grown w w' := by
  go_enter Tryz.func107, Tryz.ntmps107
  go_wp2
  all_goals first
    | exact absurd (.inl ⟨by assumption, by assumption⟩) h
    | (have hb := big_of h (by assumption) (by assumption); go_ret; exact ⟨by simp [hb], (Grown.refl _).alloc _⟩)
    | (go_ret; exact ⟨by simp [*], (Grown.refl _).alloc _⟩)
    | (go_ret; exact ⟨by simp, (Grown.refl _).alloc _⟩)

set_option maxHeartbeats 1000000 in
set_option maxRecDepth 100000 in
theorem rcheckG_any (v : Value) (T : List V3) (n₀ : Nat) (w : World) (h : TupIn n₀ w v T) (hn : n₀ ≤ w.heap.size) :
    Calls Tryz.prog 46 #[v] w fun e w' => ((OkT T ∧ e = .returned (.int .i64 0)) ∨ (¬ OkT T ∧ e = .returned (.int .i64 20))) ∧ Grown w w' := by
  have HT := Lib.hid h
  obtain ⟨p, cap, rfl, l1, q1⟩ := h
  by_cases h8 : T.length ≤ 8
  case neg =>
    have h8' : (8 : Int) < (T.length : Int) := by omega
    have HN : Hid (¬ OkT T) := Lib.hid fun h => h8 h.1
    clear q1 h8
    go_enter Tryz.func46, Tryz.ntmps46
    go_wp2_with fail
    go_ret
    exact ⟨.inr ⟨HN.out, rfl⟩, Grown.refl _⟩
  have h8' : (T.length : Int) ≤ 8 := by omega
  clear q1
  go_enter Tryz.func46, Tryz.ntmps46
  go_wp2_with fail
  go_loopw [3] (fun i wr => ∃ k : Nat, k ≤ T.length ∧ i = .int .i64 k ∧ Hid (AllV (T.take k)) ∧ Hid (Grown w wr)) (fun i _ => T.length - (intOf i).toNat)
  case atStart => exact ⟨0, Nat.zero_le _, rfl, Lib.hid (fun x hx => by cases hx), Lib.hid (Grown.refl _)⟩
  case round =>
    obtain ⟨k, hk, rfl, hall, hB⟩ := hrel
    have h0 : (0 : Int) ≤ (k : Int) := by omega
    by_cases hlt : k < T.length
    · have hlt' : (k : Int) < (T.length : Int) := by omega
      obtain ⟨b, off, cap', hv, hb, hc⟩ := HT.out.some hlt
      injection hv with hp _ hcap
      subst hp hcap
      have hbw : b < w.heap.size := by omega
      have hbs := hB.out.below.size
      have hb' : b < wr.heap.size := by omega
      obtain ⟨x0, x1, x2⟩ := (hc.below hB.out.below hbw) k hlt
      clear hc
      by_cases hx : IsV T[k].k T[k].n T[k].s
      · have HA := Lib.hid (allV_take hall.out hlt hx)
        have HX := Lib.hid hx
        clear hx
        go_wp2_with fail
        refine (is_yesG _ _ _ _ HX.out).mono ?_
        rintro e w1 ⟨rfl, hb1⟩
        go_wp2_with fail
        go_roundw
        case rel => exact ⟨k + 1, by omega, by go_num, HA, Lib.hid (hB.out.trans hb1)⟩
        case measure => simp [intOf]; omega
      · have HN : Hid (¬ OkT T) := Lib.hid fun h => hx (h.2 _ (List.getElem_mem hlt))
        have HX := Lib.hid hx
        clear hx
        go_wp2_with fail
        refine (is_noG _ _ _ _ HX.out).mono ?_
        rintro e w1 ⟨rfl, hb1⟩
        go_wp2_with fail
        go_ret
        exact ⟨.inr ⟨HN.out, rfl⟩, hB.out.trans hb1⟩
    · have hlt' : (T.length : Int) ≤ (k : Int) := by omega
      obtain rfl : k = T.length := by omega
      have HO : Hid (OkT T) := Lib.hid ⟨h8, by have := hall.out; rwa [List.take_length] at this⟩
      go_wp2_with fail
      go_ret
      exact ⟨.inl ⟨HO.out, rfl⟩, hB.out⟩

end
end Go.Proofs.YtdjhfcopnhcljaaGreatDoor
