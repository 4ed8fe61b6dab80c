/-
  Contract of merge.Sum at any cursors.
-/
import Derived.Test.YtcfnpbmkcdmafaaMcOR
import Derived.Test.YtcfnpbmkcdmafaaMhB
namespace Go.Proofs.Ytcfnpbmkcdmafaa
open Go Go.RowKit Go.Shelf

section
variable {n0 : Nat} {C : List CurK} {Y : Nat → Prop} {w w' : World}
theorem CursC.keep (h : CursC n0 C Y w) (hs : w.heap.size ≤ w'.heap.size) (hb : ∀ x, Y x ∨ x < n0 → w'.heap[x]? = w.heap[x]?) : CursC n0 C Y w' := by
  obtain ⟨h0, F, h1, h2, h3⟩ := h
  exact ⟨fun k e => Nat.lt_of_lt_of_le (h0 k e) hs, F, fun i hi => (h1 i hi).keep hs (fun x e => hb x (e.imp_left (h3 i x hi))), h2, h3⟩
theorem CursC.below (h : CursC n0 C Y w) (hn : n0 ≤ w.heap.size) (hb : Below w.heap.size w w') : CursC n0 C Y w' :=
  h.keep hb.size fun x e => hb.block x (e.elim (h.1 x) (fun e => Nat.lt_of_lt_of_le e hn))
theorem CursC.grown (h : CursC n0 C Y w) (hn : n0 ≤ w.heap.size) {ob : Option Nat} (hg : w.grownBy w' ob) (ho : ∀ k, ob = some k → ¬ Y k ∧ n0 ≤ k) : CursC n0 C Y w' :=
  h.keep hg.size (fun k e => hg.block k (e.elim (h.1 k) (fun e => Nat.lt_of_lt_of_le e hn)) (fun e' => by
    have := ho k e'.symm
    rcases e with e | e
    · exact this.1 e
    · omega))
theorem CursC.at_ (h : CursC n0 C Y w) (n : Nat) (hn : n < C.length) : ∃ Fn, MadeC n0 C[n].1 Fn C[n].2 w ∧
    ∀ w' b' Y', Below w.heap.size w w' → MadeC n0 b' Y' C[n].2 w' → (∀ k, Y' k → Fn k ∨ w.heap.size ≤ k) → CursC n0 (C.set n (b', C[n].2)) (fun k => Y k ∨ (w.heap.size ≤ k ∧ k < w'.heap.size)) w' := by
  obtain ⟨h0, F, h1, h2, h3⟩ := h
  refine ⟨F n, h1 n hn, fun w' b' Y' hb hm hy => ⟨?_, updF F n Y', ?_, ?_, ?_⟩⟩
  · rintro k (e | e)
    · exact Nat.lt_of_lt_of_le (h0 k e) hb.size
    · exact e.2
  · intro i hi
    rw [List.length_set] at hi
    by_cases e : i = n
    · subst e
      simp only [List.getElem_set_self, updF_same]
      exact hm
    · simp only [List.getElem_set_ne (Ne.symm e), updF_other _ _ e]
      exact (h1 i hi).below hb
  · intro a b k ha hb' hab ea eb
    rw [List.length_set] at ha hb'
    by_cases e1 : a = n
    · subst e1
      rw [updF_same] at ea
      rw [updF_other _ _ (Ne.symm hab)] at eb
      rcases hy k ea with h | h
      · exact h2 a b k ha hb' hab h eb
      · exact absurd ((h1 b hb').inside k eb).2 (by omega)
    · rw [updF_other _ _ e1] at ea
      by_cases e2 : b = n
      · subst e2
        rw [updF_same] at eb
        rcases hy k eb with h | h
        · exact h2 a b k ha hb' hab ea h
        · exact absurd ((h1 a ha).inside k ea).2 (by omega)
      · rw [updF_other _ _ e2] at eb
        exact h2 a b k ha hb' hab ea eb
  · intro i k hi e
    rw [List.length_set] at hi
    by_cases e1 : i = n
    · subst e1
      rw [updF_same] at e
      rcases hy k e with h | h
      · exact .inl (h3 i k hi h)
      · exact .inr ⟨h, (hm.inside k e).2⟩
    · rw [updF_other _ _ e1] at e
      exact .inl (h3 i k hi e)
end
theorem infoCurC : (Try.prog.info? 70).map (fun i => (i.zero, i.size, i.bytes)) = some (some .nilIface, 1, 16) := by kernel_rfl
theorem own_curInC {B n : Nat} {w : World} {v : Value} {cs : List Nat} (h : w.ownsRow B 70 1 v n (cs.map curVC)) : CurInC (fun k => v.ownBlock = some k) w v cs := by
  have hl : cs.length = n := by have := h.1; simpa using this
  subst hl
  rcases Nat.eq_zero_or_pos cs.length with h0 | h0
  · obtain rfl := List.eq_nil_of_length_eq_zero h0
    rcases h.2 with ⟨rfl, -⟩ | ⟨g, cap, cur, rfl, -, -, hnc, hcm, -⟩
    · exact ⟨none, 0, rfl, by simp, by simp, .inl rfl⟩
    · exact ⟨_, cap, rfl, by simp, hcm, .inl rfl⟩
  · have hcap : ∃ g cap, v = .slice (some ⟨g, 0, none⟩) cs.length cap ∧ cs.length ≤ cap ∧ cap ≤ maxLen ∧ g < w.heap.size := by
      rcases h.2 with ⟨rfl, e⟩ | ⟨g, cap, cur, rfl, -, hg, hnc, hcm, -⟩
      · omega
      · exact ⟨g, cap, rfl, hnc, hcm, (Array.getElem?_eq_some_iff.1 hg).1⟩
    obtain ⟨g, cap, rfl, g1, g2, g3⟩ := hcap
    refine ⟨_, cap, rfl, g1, g2, .inr ⟨g, 0, rfl, rfl, g3, fun j hj => ?_⟩⟩
    have hc := World.ownsRow.cells h (g := g) rfl j (curVC cs[j]) (by rw [List.getElem?_map, List.getElem?_eq_getElem hj]; rfl)
    rw [addr_add] at hc
    exact hc
/-- What the loop of Sum keeps. -/
def SmJ (n0 : Nat) (C0 : List CurK) (Y0 : Nat → Prop) (w : World) (n : Nat) (v : Value) (wr : World) : Prop :=
  ∃ (C : List CurK) (Y : Nat → Prop), C.map (·.2) = C0.map (·.2) ∧ C.drop n = C0.drop n ∧ CursC n0 C Y wr ∧ wr.ownsRow w.heap.size 70 1 v n ((C.take n).map fun c => curVC c.1) ∧ (∀ k, Y k → Y0 k ∨ w.heap.size ≤ k) ∧ (∀ k, v.ownBlock = some k → ¬ Y k) ∧ Below w.heap.size w wr
/-- What is told by a sum. -/
def sumsL (LL : List (List Ct)) : List Ct := (sumL (mergeLC LL)).filter pN0
set_option maxRecDepth 100000 in
set_option maxHeartbeats 4000000 in
theorem sum_anyC {n0 : Nat} {C0 : List CurK} {Y0 S : Nat → Prop} {w : World} {v : Value} (hn0 : n0 ≤ w.heap.size) (h : CursC n0 C0 Y0 w) (hv : CurInC S w v (C0.map (·.1))) (hC : C0.length ≤ 1000) :
    Calls Try.prog 44 #[v] w (OverC n0 Y0 (sumsL (C0.map (·.2))) w) := by
  have hmf : ∀ (fn : Fn) (first cap : Array Value) (w : World), (Instr.makeFunc fn first cap).run Try.prog w = .ok (.func fn first cap) w := fun _ _ _ _ => rfl
  have HN0 := Lib.hid hn0
  have HC := Lib.hid hC
  have H0 := Lib.hid (show SmJ n0 C0 Y0 w 0 (.slice none 0 0) w from ⟨C0, Y0, rfl, rfl, h, World.ownsRow_nil _ _ _ _, fun _ e => .inl e, fun _ e => (by cases e), Below.refl _ _⟩)
  obtain ⟨p, c, rfl, hc1, hc2, hrow⟩ := hv
  rw [List.length_map] at hc1 ⊢
  have HR := Lib.hid hrow
  clear h hrow hn0
  go_enter Try.func44, Try.ntmps44
  go_wp2_with fail
  go_loopw [3, 10] (fun v i wr => ∃ n : Nat, n ≤ C0.length ∧ i = .int .i64 n ∧ Hid (SmJ n0 C0 Y0 w n v wr)) (fun _ i _ => C0.length - (intOf i).toNat)
  case atStart => exact ⟨0, Nat.zero_le _, rfl, H0⟩
  case round =>
    obtain ⟨n, hn, rfl, HJ⟩ := hrel
    by_cases hlt : n < C0.length
    · have hlt' : (n : Int) < (C0.length : Int) := by omega
      rcases HR.out with h0 | ⟨b, off, rfl, -, hbl, hcell⟩
      · rw [List.map_eq_nil_iff] at h0; rw [h0] at hlt; simp at hlt
      obtain ⟨C, Y, c1, c2, c3, c4, c5, c6, c7⟩ := HJ.out
      have hCl : C.length = C0.length := by have := congrArg List.length c1; simpa using this
      have hCn : C[n]'(by omega) = C0[n] := by
        have := congrArg (fun l => l[0]?) c2
        simpa [hlt, hCl] using this
      obtain ⟨bc, hbc⟩ : ∃ bc, bc = C0[n].1 := ⟨_, rfl⟩
      have hcl : wr.cell? ⟨b, off + n, none⟩ = some (curVC bc) := by
        have h1 := hcell n (by simpa using hlt)
        rw [List.getElem_map, ← hbc] at h1
        exact (c7.cell (p := ⟨b, _, none⟩) hbl).trans h1
      obtain ⟨Fn, g1, g2⟩ := c3.at_ n (by omega)
      rw [hCn, ← hbc] at g1
      rw [hCn] at g2
      have HTu := Lib.hid (turn_anyC g1)
      have HG := Lib.hid (And.intro c1 (And.intro c2 (And.intro c3 (And.intro c4 (And.intro c5 (And.intro c6 (And.intro c7 (And.intro hCl g2))))))))
      clear c1 c2 c3 c4 c5 c6 c7 hCn hCl g1 g2 hbc hcell
      go_wp2_with fail
      refine HTu.out.mono ?_
      rintro e w1 ⟨b1, Y1, rfl, hm1, hy1, hb1⟩
      have HM := Lib.hid (And.intro hm1 (And.intro hy1 hb1))
      have HB1 := Lib.hid (show w.heap.size ≤ w1.heap.size from Nat.le_trans HG.out.2.2.2.2.2.2.1.size hb1.size)
      have HO := Lib.hid (ownsRow_keep HG.out.2.2.2.1 (fun k e => hb1.block k (World.ownsRow.lt HG.out.2.2.2.1 k e).2))
      clear hm1 hy1 hb1 HTu
      go_wp2_with (at_builtin; refine wpList_app1 rfl (.tmp 14) (.tmp 17) 97 70 rfl w.heap.size .nilIface 16 Try.underlying97 infoCurC rfl (by decide) _ (curVC b1) n w1.heap.size ((C.take n).map fun c => curVC c.1) rfl rfl (by rw [cell_of_row _ _ 0 _ _ (0, 0) (heap_alloc_new w1 _)]; rfl) rfl (ownsRow_keep HO.out (fun k e => Below.heap_alloc _ _ _ (by have := (World.ownsRow.lt HO.out k e).2; omega))) (by have := HC.out; omega) (by have := HB1.out; simp; omega) ?_; intro v3 w3 ho hg hv; have HN := Lib.hid (And.intro ho (And.intro hg hv)); clear ho hg hv)
      go_roundw
      case rel =>
        obtain ⟨ho, hg, hv⟩ := HN.out
        obtain ⟨c1, c2, c3, c4, c5, c6, c7, hCl, g2⟩ := HG.out
        obtain ⟨hm1, hy1, hb1⟩ := HM.out
        have hb2 := below_new' w1 (.cells #[curVC b1] 70)
        have hnr : n0 ≤ wr.heap.size := Nat.le_trans HN0.out c7.size
        have hown := World.ownsRow.lt c4
        have hb3 : Below w.heap.size w w3 := (((c7.trans (hb1.mono c7.size)).alloc HB1.out _).grown hg (by have := HB1.out; simp; omega) (fun k e => (hown k e).1))
        have hset := g2 w1 b1 Y1 hb1 hm1 hy1
        refine ⟨n + 1, hlt, by simp, Lib.hid ⟨C.set n (b1, C0[n].2), _, ?_, ?_, (hset.below (Nat.le_trans hnr hb1.size) hb2).grown (by have := hb1.size; simp; omega) hg (fun k e => ⟨?_, ?_⟩), ?_, ?_, fun k e => ?_, hb3⟩⟩
        · rw [List.map_set, c1]
          refine List.ext_getElem (by simp) (fun i h1 h2 => ?_)
          rw [List.getElem_set]
          split
          · rename_i e; subst e; simp
          · rfl
        · rw [List.drop_set_of_lt (by omega)]
          have := congrArg (List.drop 1) c2
          simpa [Nat.add_comm] using this
        · rintro (e' | e')
          · exact c6 k e e'
          · have := (hown k e).2; omega
        · have := (hown k e).1; have := HN0.out; omega
        · have : ((C.set n (b1, C0[n].2)).take (n + 1)).map (fun c => curVC c.1) = (C.take n).map (fun c => curVC c.1) ++ [curVC b1] := by
            rw [List.take_succ_eq_append_getElem (by rw [List.length_set]; omega), List.map_append, List.take_set_of_le (Nat.le_refl _)]
            simp
          rw [this]
          exact ho
        · rintro k (e | e)
          · exact c5 k e
          · have := c7.size; exact .inr (by omega)
        · rcases hv with hv | hv
          · rw [hv] at e
            rintro (e' | e')
            · exact c6 k e e'
            · have := (hown k e).2; omega
          · rw [hv] at e
            cases e
            rintro (e' | e')
            · have h1 := c3.1 _ e'; have := hb1.size; rw [World.size_alloc] at h1; omega
            · have h1 := e'.2; rw [World.size_alloc] at h1; omega
      case measure => simp [intOf]; omega
    · obtain rfl : n = C0.length := by omega
      obtain ⟨C, Y, c1, c2, c3, c4, c5, c6, c7⟩ := HJ.out
      have hCl : C.length = C0.length := by have := congrArg List.length c1; simpa using this
      rw [List.take_of_length_le (by omega)] at c4
      have hin : CurInC (fun k => u3.ownBlock = some k) wr u3 (C.map (·.1)) := own_curInC (by rw [List.map_map]; exact c4)
      have HMe := Lib.hid (merge_anyC (Nat.le_trans HN0.out c7.size) c3 hin (by have := HC.out; omega))
      unfold MergeEndC at HMe
      rw [c1] at HMe
      have HG := Lib.hid (And.intro c5 c7)
      clear c1 c2 c3 c4 c5 c6 c7 hCl hin HJ H0
      go_wp2_with fail
      refine HMe.out.mono ?_
      rintro e w1 ⟨b1, Y1, rfl, hm1, hy1, hb1⟩
      have HM1 := Lib.hid (And.intro hm1 (And.intro (show ∀ k, Y1 k → Y0 k ∨ w.heap.size ≤ k from fun k e => by
        rcases hy1 k e with e | e
        · exact HG.out.1 k e
        · exact .inr (Nat.le_trans HG.out.2.size e)) (HG.out.2.trans (hb1.mono HG.out.2.size))))
      clear hm1 hy1 hb1 HMe HG
      go_wp2_with fail
      refine (sourceOf_anyC b1 w1).mono ?_
      rintro e w2 ⟨rfl, hw2⟩
      have hsrc := src_newC HM1.out.1
      rw [hw2] at hsrc
      have hs2 : w2.heap.size = w1.heap.size + 2 := by rw [← hw2]; simp
      have hb2 : Below w.heap.size w w2 := by
        rw [← hw2]
        exact (HM1.out.2.2.alloc HM1.out.2.2.size _).alloc (by have := HM1.out.2.2.size; simp; omega) _
      have HS := Lib.hid (show SuC n0 w2.heap.size (fun k => k = w2.heap.size ∨ k = w1.heap.size + 1 ∨ Y1 k) (sumL (mergeLC (C0.map (·.2)))) (w2.alloc (.cells #[.pointer (some ⟨w1.heap.size + 1, 0, none⟩)] 105)) from by
        have h1 := HM1.out.2.2.size
        have h0 := HN0.out
        refine ⟨?_, .inl rfl, w1.heap.size + 1, false, _, _, heap_alloc_new w2 _, hsrc.alloc _, ?_, rfl⟩
        · rintro k (rfl | rfl | e)
          · simp; omega
          · simp; omega
          · have := HM1.out.1.inside k e; simp; omega
        · rintro k (rfl | e)
          · exact ⟨.inr (.inl rfl), by omega⟩
          · have := HM1.out.1.inside k e
            exact ⟨.inr (.inr e), by omega⟩)
      have HB2 := Lib.hid (And.intro hb2 hs2)
      clear hw2 hsrc hb2 hs2
      go_wp2_with fail
      refine (cursor_anyC _ _ _).mono ?_
      rintro e w3 ⟨rfl, hw3⟩
      have htl := HS.out.tells (by have := HB2.out.1.size; have := HN0.out; simp; omega)
      have hm3 := made_newC 122 (FvC.clo _ _ (enters_of Try.func70 (by kernel_rfl) rfl)) htl
      rw [hw3, World.size_alloc] at hm3
      have hb3 : Below w.heap.size w w3 := by
        rw [← hw3]
        exact (HB2.out.1.alloc HB2.out.1.size _).alloc (by have := HB2.out.1.size; simp; omega) _
      have HOn := Lib.hid (only_anyC sum2_holds hm3 trivial (fun _ _ e => e))
      have HY3 := Lib.hid (show ∀ k, (k = w2.heap.size + 1 ∨ k = w2.heap.size ∨ k = w1.heap.size + 1 ∨ Y1 k) → Y0 k ∨ w.heap.size ≤ k from fun k e => by
        have h1 := HM1.out.2.2.size
        have h2 := HB2.out.1.size
        rcases e with rfl | rfl | rfl | e
        · exact .inr (by omega)
        · exact .inr h2
        · exact .inr (by omega)
        · exact HM1.out.2.1 k e)
      have HB3 := Lib.hid hb3
      clear htl hm3 hb3 HS hw3 HM1 HB2
      go_wp2_with fail
      refine HOn.out.mono ?_
      rintro e w4 ⟨b4, Y4, rfl, hm4, hy4, hb4⟩
      have HM4 := Lib.hid (And.intro hm4 (And.intro hy4 hb4))
      clear hm4 hy4 hb4 HOn
      go_wp2_with fail
      go_ret
      refine ⟨b4, Y4, rfl, HM4.out.1, fun k e => ?_, HB3.out.trans (HM4.out.2.2.mono HB3.out.size)⟩
      rcases HM4.out.2.1 k e with (e | e) | e
      · exact HY3.out k e
      · exact e.elim
      · exact .inr (Nat.le_trans HB3.out.size e)
end Go.Proofs.Ytcfnpbmkcdmafaa
