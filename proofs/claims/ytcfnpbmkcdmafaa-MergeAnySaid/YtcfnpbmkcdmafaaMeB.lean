/-
  What the law on the order of sums needs: sums over rows that lie below a mark, rows in order, parts of rows of rows.
-/
import Derived.Test.YtcfnpbmkcdmafaaMeA
import Derived.Test.YtcfnpbmkcdmafaaMgO
namespace Go.Proofs.Ytcfnpbmkcdmafaa
open Go Go.RowKit Go.Shelf

set_option maxRecDepth 100000
def CuJN (n0 : Nat) (LL : List (List Ct)) (w : World) (n : Nat) (v : Value) (wr : World) : Prop :=
  ∃ (C : List CurK) (Y : Nat → Prop), C.map (·.2) = LL.take n ∧ CursC n0 C Y wr ∧ wr.ownsRow w.heap.size 70 1 v n (C.map fun c => curVC c.1) ∧ (∀ k, Y k → w.heap.size ≤ k) ∧ (∀ k, v.ownBlock = some k → ¬ Y k) ∧ Below w.heap.size w wr
set_option maxHeartbeats 2000000 in
theorem sums_anyN {n0 : Nat} {v : Value} {LL : List (List Ct)} {w : World} (hn0 : n0 ≤ w.heap.size) (h : RowsCt (fun k => k < n0) w v LL) (hl : LL.length ≤ 1000) (hr : ∀ L ∈ LL, L.length ≤ 1000000) :
    Calls Try.prog 38 #[v] w (NewC n0 (sumsL LL) w) := by
  have HV := Lib.hid (show RowsCt (fun k => k < n0 ∧ k < w.heap.size) w v LL from h.keep (Nat.le_refl _) (fun k e hk => ⟨⟨e, hk⟩, rfl⟩))
  have HR := Lib.hid hr
  have HN0 := Lib.hid hn0
  clear hn0
  have HLL := Lib.hid hl
  obtain ⟨p, c, rfl, hc1, hc2, -⟩ := h
  have H0 := Lib.hid (show CuJN n0 LL w 0 (.slice none 0 0) w from ⟨[], fun _ => False, rfl, CursC.nil _ w, World.ownsRow_nil _ _ _ _, fun _ e => e.elim, fun _ _ e => e, Below.refl _ _⟩)
  go_enter Try.func38, Try.ntmps38
  go_wp2_with fail
  go_loopw [3, 4] (fun v i wr => ∃ n : Nat, n ≤ LL.length ∧ i = .int .i64 n ∧ Hid (CuJN n0 LL w n v wr)) (fun _ i _ => LL.length - (intOf i).toNat)
  case atStart => exact ⟨0, Nat.zero_le _, rfl, H0⟩
  case round =>
    obtain ⟨n, hn, rfl, HJ⟩ := hrel
    by_cases hlt : n < LL.length
    · have hlt' : (n : Int) < (LL.length : Int) := by omega
      obtain ⟨L, hL⟩ : ∃ L, L = LL[n] := ⟨_, rfl⟩
      have hb0 : Below w.heap.size w wr := by obtain ⟨_, _, -, -, -, -, -, hb⟩ := HJ.out; exact hb
      obtain ⟨b, off, pu, cu, rfl, -, -, hcell, hth⟩ := (HV.out.below hb0).at_ hlt
      rw [← hL] at hcell hth
      obtain ⟨H, hH1, hH2⟩ := hth
      have HOf := Lib.hid (of_anyC (Nat.le_trans HN0.out hb0.size) hH1 (hH2.keep (fun _ e _ => e.1) (fun _ _ _ => rfl)) (by rw [hH2.1, hL]; exact HR.out _ (List.getElem_mem _)))
      have HE := Lib.hid (show LL.take n ++ [L] = LL.take (n + 1) by rw [List.take_succ_eq_append_getElem hlt, hL])
      clear hL hH1 hH2 hb0
      go_wp2_with fail
      refine HOf.out.mono ?_
      rintro e w1 ⟨bn, Yn, rfl, hm, hy, hb1⟩
      have HA := Lib.hid (show ∃ (C : List CurK) (Y : Nat → Prop), C.map (·.2) = LL.take n ∧ CursC n0 (C ++ [(bn, L)]) (fun k => Y k ∨ Yn k) w1 ∧ w1.ownsRow w.heap.size 70 1 u3 n (C.map fun c => curVC c.1) ∧ (∀ k, Y k ∨ Yn k → w.heap.size ≤ k) ∧ (∀ k, u3.ownBlock = some k → ¬ (Y k ∨ Yn k)) ∧ Below w.heap.size w w1 from by
        obtain ⟨C, Y, c1, c2, c3, c4, c5, c6⟩ := HJ.out
        refine ⟨C, Y, c1, (c2.below (Nat.le_trans HN0.out c6.size) hb1).snoc hm (fun k e e' => by have := c2.1 k e'; have := hy k e; omega), ownsRow_keep c3 (fun k e => hb1.block k (World.ownsRow.lt c3 k e).2), fun k e => ?_, fun k e e' => ?_, c6.trans (hb1.mono c6.size)⟩
        · rcases e with e | e
          · exact c4 k e
          · exact Nat.le_trans c6.size (hy k e)
        · rcases e' with e' | e'
          · exact c5 k e e'
          · have := (World.ownsRow.lt c3 k e).2; have := hy k e'; omega)
      clear hm hy hb1 HOf HJ
      obtain ⟨C, Y, c1, c2, c3, c4, c5, c6⟩ := HA.out
      have HC := Lib.hid (And.intro c1 (And.intro c2 (And.intro c3 (And.intro c4 (And.intro c5 c6)))))
      clear c1 c2 c3 c4 c5 c6 HA
      go_wp2_with (at_builtin; refine wpList_app1 rfl (.tmp 11) (.tmp 17) 97 70 rfl w.heap.size .nilIface 16 Try.underlying97 infoCurC rfl (by decide) _ (curVC bn) n w1.heap.size (C.map fun c => curVC c.1) rfl rfl (by rw [cell_of_row _ _ 0 _ _ (0, 0) (heap_alloc_new w1 _)]; rfl) rfl (ownsRow_keep HC.out.2.2.1 (fun k e => Below.heap_alloc _ _ _ (by have := (World.ownsRow.lt HC.out.2.2.1 k e).2; omega))) (by have := HLL.out; omega) (by have := HC.out.2.2.2.2.2.size; simp; omega) ?_; intro v3 w3 ho hg hv; have HN := Lib.hid (And.intro ho (And.intro hg hv)); clear ho hg hv)
      go_roundw
      case rel =>
        obtain ⟨ho, hg, hv⟩ := HN.out
        obtain ⟨c1, c2, c3, c4, c5, c6⟩ := HC.out
        have hb2 := below_new' w1 (.cells #[curVC bn] 70)
        have hb3 : Below w.heap.size w w3 := ((c6.alloc c6.size _).grown hg (by have := c6.size; simp; omega) (fun k e => (World.ownsRow.lt c3 k e).1))
        refine ⟨n + 1, hlt, by simp, Lib.hid ⟨C ++ [(bn, L)], fun k => Y k ∨ Yn k, ?_, (c2.below (Nat.le_trans HN0.out c6.size) hb2).grown (by have := c6.size; have := HN0.out; simp; omega) hg (fun k e => ⟨c5 k e, Nat.le_trans HN0.out (World.ownsRow.lt c3 k e).1⟩), ?_, c4, fun k e => ?_, hb3⟩⟩
        · rw [← HE.out, List.map_append, c1]; rfl
        · rw [List.map_append]; exact ho
        · rcases hv with hv | hv
          · exact c5 k (hv ▸ e)
          · rw [hv] at e
            cases e
            intro e'
            have := c2.1 _ e'
            rw [World.size_alloc] at this
            omega
      case measure => simp [intOf]; omega
    · obtain rfl : n = LL.length := by omega
      obtain ⟨C, Y, c1, c2, c3, c4, c5, c6⟩ := HJ.out
      have hin : CurInC (fun k => u3.ownBlock = some k) wr u3 (C.map (·.1)) := own_curInC (by rw [List.map_map]; exact c3)
      have hCl : C.length = LL.length := by have := congrArg List.length c1; simpa using this
      have HS := sum_anyC (Nat.le_trans HN0.out c6.size) c2 hin (by have := HLL.out; omega)
      rw [c1, List.take_length] at HS
      have HS := Lib.hid HS
      have HB := Lib.hid (And.intro c4 c6)
      clear c1 c2 c3 c4 c5 c6 hin hCl HJ
      go_wp2_with fail
      refine HS.out.mono ?_
      rintro e w1 ⟨b1, Y1, rfl, hm1, hy1, hb1⟩
      have HM := Lib.hid (And.intro hm1 (And.intro hy1 hb1))
      clear hm1 hy1 hb1 HS
      go_wp2_with fail
      go_ret
      refine ⟨b1, Y1, rfl, HM.out.1, fun k e => ?_, HB.out.2.trans (HM.out.2.2.mono HB.out.2.size)⟩
      rcases HM.out.2.1 k e with e | e
      · exact HB.out.1 k e
      · exact Nat.le_trans HB.out.2.size e
def strictTo (L : List Ct) (n : Nat) : Prop := ∀ i (_ : i + 1 < L.length), i + 1 < n → cmpT L[i].1 L[i + 1].1 < 0
theorem strict_adj : ∀ (L : List Ct), (∀ i (_ : i + 1 < L.length), cmpT L[i].1 L[i + 1].1 < 0) → RiseC L
  | [], _ => List.Pairwise.nil
  | x :: r, h => by
    have ih' := strict_adj r (fun i hi => by have := h (i + 1) (by simpa using hi); simpa using this)
    refine List.pairwise_cons.2 ⟨fun z hz => ?_, ih'⟩
    rcases r with _ | ⟨y, s⟩
    · cases hz
    · have h0 := h 0 (by simp)
      simp at h0
      rcases List.mem_cons.1 hz with rfl | hz
      · exact Int.le_of_lt h0
      · exact Int.le_of_lt (cmpT_trans_lt _ _ _ h0 ((List.pairwise_cons.1 ih').1 z hz))
theorem RowsCt.takeR {S : Nat → Prop} {w : World} {p : Option Addr} {n c : Nat} {LL : List (List Ct)} (h : RowsCt S w (.slice p n c) LL) (m : Nat) (hm : m ≤ LL.length) : RowsCt S w (.slice p m c) (LL.take m) := by
  obtain ⟨p', c', e, h1, h2, h3⟩ := h
  injection e with e1 e2 e3
  subst e1 e3
  have hl : (LL.take m).length = m := by rw [List.length_take]; omega
  refine ⟨p, c, by rw [hl], by omega, h2, ?_⟩
  rcases h3 with rfl | ⟨b, off, rfl, hb, hbl, hcell⟩
  · exact .inl (by simp)
  · refine .inr ⟨b, off, rfl, hb, hbl, fun j hj => ?_⟩
    rw [List.getElem_take]
    exact hcell j (by omega)
theorem RowsCt.dropR {S : Nat → Prop} {w : World} {b off n c : Nat} {LL : List (List Ct)} (h : RowsCt S w (.slice (some ⟨b, off, none⟩) n c) LL) (m k d : Nat) (hk : k = LL.length - m) (hd : d = c - m) (hm : m ≤ LL.length) : RowsCt S w (.slice (some ⟨b, off + m, none⟩) k d) (LL.drop m) := by
  obtain ⟨p', c', e, h1, h2, h3⟩ := h
  injection e with e1 e2 e3
  subst e1 e3 hk hd
  refine ⟨_, c - m, by rw [List.length_drop], by rw [List.length_drop]; omega, by omega, ?_⟩
  rcases h3 with rfl | ⟨b', off', e, hb, hbl, hcell⟩
  · exact .inl (by simp)
  · injection e with e
    injection e with e e' _
    subst e e'
    refine .inr ⟨b, off + m, rfl, hb, hbl, fun j hj => ?_⟩
    rw [List.getElem_drop, Nat.add_assoc]
    exact hcell (m + j) (by rw [List.length_drop] at hj; omega)
theorem OwnRc.shape {B : Nat} {S : Nat → Prop} {w : World} {v : Value} {LL : List (List Ct)} (h : OwnRc B S w v LL) : (v = .slice none 0 0 ∧ LL = []) ∨ ∃ g cap, v = .slice (some ⟨g, 0, none⟩) LL.length cap ∧ LL.length ≤ cap ∧ cap ≤ maxLen := by
  obtain ⟨us, h1, h2, -⟩ := h
  rcases h2.2 with ⟨rfl, e⟩ | ⟨g, cap, cur, rfl, -, -, hnc, hcm, -⟩
  · exact .inl ⟨rfl, List.eq_nil_of_length_eq_zero (by simpa using e)⟩
  · exact .inr ⟨g, cap, rfl, hnc, hcm⟩
theorem OwnRw.later {B : Nat} {w W : World} {v : Value} {H : List Raw} (h : OwnRw B w v H) (hb : Below w.heap.size w W) : RawIn (fun _ => True) W v H := (h.keep (fun k e => hb.block k (h.lt k e).2)).in_ _ (fun _ _ => trivial)
theorem LikeC.later {St : Nat → Prop} {w W : World} {H : List Raw} {L : List Ct} (h : LikeC (fun k => St k ∧ k < w.heap.size) w H L) (hb : Below w.heap.size w W) : LikeC (fun _ => True) W H L := h.keep (fun _ _ _ => trivial) (fun k e _ => hb.block k e.2)
/-- Two cursors in a row that a call lays. -/
theorem two_curs (w : World) (a b : Nat) : CurInC (fun k => k = w.heap.size) (w.alloc (.cells #[curVC a, curVC b] 70)) (.slice (some ⟨w.heap.size, 0, none⟩) 2 2) [a, b] := by
  refine ⟨_, 2, rfl, by simp, by decide, .inr ⟨w.heap.size, 0, rfl, rfl, by simp, fun j hj => ?_⟩⟩
  rcases j with _ | _ | j
  · rw [cell_of_row _ w.heap.size _ _ _ (0, 0) (heap_alloc_new w _)]; rfl
  · rw [cell_of_row _ w.heap.size _ _ _ (0, 0) (heap_alloc_new w _)]; rfl
  · exfalso; simp at hj; omega
theorem run_dropR (g n c h : Nat) (hn : h ≤ n) (hc : ¬ c = h) (W : World) : (Instr.slice 60 (.slice (some ⟨g, 0, none⟩) n c) (some (.int .i64 (h : Int))) none none).run Try.prog W = .ok (.slice (some ⟨g, h, none⟩) (n - h) (c - h)) W := by
  have hs : (sizeOf (Try.prog.elem 60)).run Try.prog W = .ok 1 W := by kernel_rfl
  rw [run_slice_l W 60 _ n c (by kernel_rfl) .i64 h (by omega) (by omega), hs]
  simp only [Result.andThen, sliced, Int.toNat_natCast, if_neg hc, Option.map_some, Nat.mul_one, addr_add, Nat.zero_add]
/-- Two cursors, one made behind the other, summed. -/
theorem sum_two {n0 b7 b8 : Nat} {Y7 Y8 : Nat → Prop} {L7 L8 : List Ct} {w7 w8 : World} (h7 : MadeC n0 b7 Y7 L7 w7) (h8 : MadeC n0 b8 Y8 L8 w8) (hy : ∀ k, Y8 k → w7.heap.size ≤ k) (hb : Below w7.heap.size w7 w8) (hn : n0 ≤ w7.heap.size) :
    Calls Try.prog 44 #[.slice (some ⟨w8.heap.size, 0, none⟩) 2 2] (w8.alloc (.cells #[curVC b7, curVC b8] 70)) (OverC n0 (fun k => (False ∨ Y7 k) ∨ Y8 k) (sumsL [L7, L8]) (w8.alloc (.cells #[curVC b7, curVC b8] 70))) := by
  have hn8 : n0 ≤ w8.heap.size := Nat.le_trans hn hb.size
  have hc : CursC n0 ([] ++ [(b7, L7)] ++ [(b8, L8)]) (fun k => (False ∨ Y7 k) ∨ Y8 k) w8 := ((CursC.nil n0 w8).snoc (c := (b7, L7)) (h7.below hb) (fun _ _ e => e)).snoc (c := (b8, L8)) h8 (fun k e e' => by
    rcases e' with e' | e'
    · exact e'
    · have := h7.lt k (.inl e')
      have := hy k e
      omega)
  exact sum_anyC (C0 := [(b7, L7), (b8, L8)]) (by simp; omega) (hc.below hn8 (below_new' w8 _)) (two_curs w8 b7 b8) (by simp)
theorem over_two {n0 n b7 b8 b10 : Nat} {Y7 Y8 Y10 : Nat → Prop} {LL : List (List Ct)} {w6 w7 w8 w10 : World} (hR : ∀ L ∈ LL, RiseC L) (hI : ∀ L ∈ LL, AllI L) (hm : MadeC n0 b10 Y10 (sumsL [sumsL (LL.take n), sumsL (LL.drop n)]) w10) (hy : ∀ k, Y10 k → ((False ∨ Y7 k) ∨ Y8 k) ∨ (w8.alloc (.cells #[curVC b7, curVC b8] 70)).heap.size ≤ k)
    (h7 : ∀ k, Y7 k → w6.heap.size ≤ k) (h8 : ∀ k, Y8 k → w7.heap.size ≤ k) (d7 : Below w6.heap.size w6 w7) (d8 : Below w6.heap.size w6 w8) (hb : Below (w8.alloc (.cells #[curVC b7, curVC b8] 70)).heap.size (w8.alloc (.cells #[curVC b7, curVC b8] 70)) w10) :
    MadeC n0 b10 Y10 (sumsL LL) w10 ∧ (∀ k, Y10 k → w6.heap.size ≤ k) ∧ Below w6.heap.size w6 w10 := by
  rw [sums_parts LL n hR hI] at hm
  have s7 := d7.size
  have s8 := d8.size
  refine ⟨hm, fun k e => ?_, (d8.alloc d8.size _).trans (hb.mono (by simp; omega))⟩
  rcases hy k e with ((e | e) | e) | e
  · exact e.elim
  · exact h7 k e
  · exact Nat.le_trans s7 (h8 k e)
  · simp at e; omega
end Go.Proofs.Ytcfnpbmkcdmafaa
