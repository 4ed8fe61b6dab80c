/-
  Contract of the laws' cursors.
-/
import Derived.Test.YtlccleafjpeccaaMhB
namespace Go.Proofs.Ytlccleafjpeccaa
open Go Go.RowKit Go.Shelf

theorem infoCur : (Try.prog.info? 30).map (fun i => (i.zero, i.size, i.bytes)) = some (some .nilIface, 1, 16) := by kernel_rfl
/-- Cursors over these rows: the row of the call's own, their blocks. -/
def CuJ (LL : List (List Th)) (w : World) (n : Nat) (v : Value) (wr : World) : Prop :=
  ∃ (C : List CurC) (Y : Nat → Prop), C.map (·.2) = LL.take n ∧ Curs C Y wr ∧ wr.ownsRow w.heap.size 30 1 v n (C.map fun c => curO c.1) ∧ (∀ k, Y k → w.heap.size ≤ k) ∧ (∀ k, v.ownBlock = some k → ¬ Y k) ∧ Below w.heap.size w wr
theorem own_curIn {B n : Nat} {w : World} {v : Value} {cs : List (Option Nat)} (h : w.ownsRow B 30 1 v n (cs.map curO)) : CurIn (fun k => v.ownBlock = some k) w v cs := by
  have hl : cs.length = n := by have := h.1; simpa using this
  subst hl
  rcases Nat.eq_zero_or_pos cs.length with h0 | h0
  · obtain rfl := List.eq_nil_of_length_eq_zero h0
    rcases h.2 with ⟨rfl, -⟩ | ⟨g, cap, cur, rfl, -, -, hnc, hcm, -⟩
    · exact ⟨none, 0, rfl, by simp, by simp, .inl rfl⟩
    · exact ⟨_, cap, rfl, by simp, hcm, .inl rfl⟩
  · have hcap : ∃ g cap, v = .slice (some ⟨g, 0, none⟩) cs.length cap ∧ cs.length ≤ cap ∧ cap ≤ maxLen ∧ g < w.heap.size := by
      rcases h.2 with ⟨rfl, e⟩ | ⟨g, cap, cur, rfl, -, hg, hnc, hcm, -⟩
      · omega
      · exact ⟨g, cap, rfl, hnc, hcm, (Array.getElem?_eq_some_iff.1 hg).1⟩
    obtain ⟨g, cap, rfl, g1, g2, g3⟩ := hcap
    refine ⟨_, cap, rfl, g1, g2, .inr ⟨g, 0, rfl, rfl, g3, fun j hj => ?_⟩⟩
    have hc := World.ownsRow.cells h (g := g) rfl j (curO cs[j]) (by rw [List.getElem?_map, List.getElem?_eq_getElem hj]; rfl)
    rw [addr_add] at hc
    exact hc
/-- What cursors leaves. -/
def CursEnd (LL : List (List Th)) (w : World) (e : Ending) (w' : World) : Prop := ∃ v, e = .returned v ∧ CuJ LL w LL.length v w'
theorem grown_curs {C : List CurC} {Y : Nat → Prop} {w w' : World} {ob : Option Nat} (h : Curs C Y w) (hg : w.grownBy w' ob) (hn : ∀ k, ob = some k → ¬ Y k) : Curs C Y w' :=
  h.keep hg.size (fun k e => hg.block k (h.1 k e) (fun e' => hn k e'.symm e))
set_option maxRecDepth 100000 in
set_option maxHeartbeats 2000000 in
theorem cursors_any {S : Nat → Prop} {v : Value} {LL : List (List Th)} {w : World} (h : RowsIn S w v LL) (hl : LL.length ≤ 1000) (hr : ∀ L ∈ LL, L.length ≤ 1000000) :
    Calls Try.prog 23 #[v] w (CursEnd LL w) := by
  have HV := Lib.hid (show RowsIn (fun k => S k ∧ k < w.heap.size) w v LL from h.keep (Nat.le_refl _) (fun k e hk => ⟨⟨e, hk⟩, rfl⟩))
  have HR := Lib.hid hr
  obtain ⟨p, c, rfl, hc1, hc2, -⟩ := h
  have H0 := Lib.hid (show CuJ LL w 0 (.slice none 0 0) w from ⟨[], fun _ => False, rfl, Curs.nil w, World.ownsRow_nil _ _ _ _, fun _ e => e.elim, fun _ _ e => e, Below.refl _ _⟩)
  go_enter Try.func23, Try.ntmps23
  go_wp2_with fail
  go_loopw [3, 4] (fun v i wr => ∃ n : Nat, n ≤ LL.length ∧ i = .int .i64 n ∧ Hid (CuJ LL w n v wr)) (fun _ i _ => LL.length - (intOf i).toNat)
  case atStart => exact ⟨0, Nat.zero_le _, rfl, H0⟩
  case round =>
    obtain ⟨n, hn, rfl, HJ⟩ := hrel
    by_cases hlt : n < LL.length
    · have hlt' : (n : Int) < (LL.length : Int) := by omega
      obtain ⟨L, hL⟩ : ∃ L, L = LL[n] := ⟨_, rfl⟩
      have hb0 : Below w.heap.size w wr := by obtain ⟨_, _, -, -, -, -, -, hb⟩ := HJ.out; exact hb
      obtain ⟨b, off, pu, cu, rfl, -, -, hcell, hth⟩ := (HV.out.below hb0).at_ hlt
      rw [← hL] at hcell hth
      have HOf := Lib.hid (of_any hth (by rw [hL]; exact HR.out _ (List.getElem_mem _)))
      have HE := Lib.hid (show LL.take n ++ [L] = LL.take (n + 1) by rw [List.take_succ_eq_append_getElem hlt, hL])
      clear hL hth hb0
      go_wp2_with fail
      refine HOf.out.mono ?_
      rintro e w1 ⟨bn, Yn, rfl, hm, hy, hb1⟩
      have HA := Lib.hid (show ∃ (C : List CurC) (Y : Nat → Prop), C.map (·.2) = LL.take n ∧ Curs (C ++ [(some bn, L)]) (fun k => Y k ∨ Yn k) w1 ∧ w1.ownsRow w.heap.size 30 1 u3 n (C.map fun c => curO c.1) ∧ (∀ k, Y k ∨ Yn k → w.heap.size ≤ k) ∧ (∀ k, u3.ownBlock = some k → ¬ (Y k ∨ Yn k)) ∧ Below w.heap.size w w1 from by
        obtain ⟨C, Y, c1, c2, c3, c4, c5, c6⟩ := HJ.out
        refine ⟨C, Y, c1, (c2.below hb1).snoc hm (fun k e e' => by have := c2.1 k e'; have := hy k e; omega), ownsRow_keep c3 (fun k e => hb1.block k (World.ownsRow.lt c3 k e).2), fun k e => ?_, fun k e e' => ?_, c6.trans (hb1.mono c6.size)⟩
        · rcases e with e | e
          · exact c4 k e
          · exact Nat.le_trans c6.size (hy k e)
        · rcases e' with e' | e'
          · exact c5 k e e'
          · have := (World.ownsRow.lt c3 k e).2; have := hy k e'; omega)
      clear hm hy hb1 HOf HJ
      obtain ⟨C, Y, c1, c2, c3, c4, c5, c6⟩ := HA.out
      have HC := Lib.hid (And.intro c1 (And.intro c2 (And.intro c3 (And.intro c4 (And.intro c5 c6)))))
      clear c1 c2 c3 c4 c5 c6 HA
      go_wp2_with (at_builtin; refine wpList_app1 rfl (.tmp 11) (.tmp 17) 43 30 rfl w.heap.size .nilIface 16 Try.underlying43 infoCur rfl (by decide) _ (curV bn) n w1.heap.size (C.map fun c => curO c.1) rfl rfl (by rw [cell_of_row _ _ 0 _ _ (0, 0) (heap_alloc_new w1 _)]; rfl) rfl (ownsRow_keep HC.out.2.2.1 (fun k e => Below.heap_alloc _ _ _ (by have := (World.ownsRow.lt HC.out.2.2.1 k e).2; omega))) (by omega) (by have := HC.out.2.2.2.2.2.size; simp; omega) ?_; intro v3 w3 ho hg hv; have HN := Lib.hid (And.intro ho (And.intro hg hv)); clear ho hg hv)
      go_roundw
      case rel =>
        obtain ⟨ho, hg, hv⟩ := HN.out
        obtain ⟨c1, c2, c3, c4, c5, c6⟩ := HC.out
        have hb2 := below_new' w1 (.cells #[curV bn] 30)
        have hb3 : Below w.heap.size w w3 := ((c6.alloc c6.size _).grown hg (by have := c6.size; simp; omega) (fun k e => (World.ownsRow.lt c3 k e).1))
        refine ⟨n + 1, hlt, by simp, Lib.hid ⟨C ++ [(some bn, L)], fun k => Y k ∨ Yn k, ?_, grown_curs (c2.below hb2) hg c5, ?_, c4, fun k e => ?_, hb3⟩⟩
        · rw [← HE.out, List.map_append, c1]; rfl
        · rw [List.map_append]; exact ho
        · rcases hv with hv | hv
          · exact c5 k (hv ▸ e)
          · rw [hv] at e
            cases e
            intro e'
            have := c2.1 _ e'
            rw [World.size_alloc] at this
            omega
      case measure => simp [intOf]; omega
    · obtain rfl : n = LL.length := by omega
      go_wp2_with fail
      go_ret
      exact ⟨_, rfl, HJ.out⟩
end Go.Proofs.Ytlccleafjpeccaa
