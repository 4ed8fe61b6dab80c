/-
  alive of the laws of merge answers true.
-/
import Derived.Test.YtcfnpbmkcdmafaaMgN
namespace Go.Proofs.Ytcfnpbmkcdmafaa
open Go Go.RowKit Go.Shelf

theorem thIn_block {S : Nat → Prop} {w : World} {b : Nat} {cs : Array Value} {t : TypeId} (L : List Th) (h : w.heap[b]? = some (.cells cs t (0, 0))) (hc : cs.toList = cellsTh L) (hL : L.length ≤ 1000000) (hS : S b) : ThIn S w (.slice (some ⟨b, 0, none⟩) L.length L.length) L := by
  refine ⟨_, L.length, rfl, Nat.le_refl _, by unfold maxLen; omega, .inr ⟨b, 0, rfl, hS, (Array.getElem?_eq_some_iff.1 h).1, fun j hj => ?_⟩⟩
  obtain ⟨h1, h2⟩ := cellsTh_at L j hj
  have g : ∀ o : Nat, cs[o]? = (cellsTh L)[o]? := fun o => by rw [← hc]; simp
  refine ⟨?_, ?_⟩
  · rw [cell_of_row _ _ _ _ _ (0, 0) h, Nat.zero_add, g]; exact h1
  · rw [cell_of_row _ _ _ _ _ (0, 0) h, Nat.zero_add, g]; exact h2
theorem Curs.nil (w : World) : Curs [] (fun _ => False) w := ⟨fun _ e => e.elim, fun _ _ => False, fun i h => (by simp at h), fun i j k h => (by simp at h), fun i k h => (by simp at h)⟩
theorem Curs.keep {C : List CurC} {Y : Nat → Prop} {w w' : World} (h : Curs C Y w) (hs : w.heap.size ≤ w'.heap.size) (hb : ∀ x, Y x → w'.heap[x]? = w.heap[x]?) : Curs C Y w' := by
  obtain ⟨h0, F, h1, h2, h3⟩ := h
  exact ⟨fun k e => Nat.lt_of_lt_of_le (h0 k e) hs, F, fun i hi => (h1 i hi).keep hs (fun x e => hb x (h3 i x hi e)), h2, h3⟩
theorem Curs.below {C : List CurC} {Y : Nat → Prop} {w w' : World} (h : Curs C Y w) (hb : Below w.heap.size w w') : Curs C Y w' := h.keep hb.size (fun x e => hb.block x (h.1 x e))
theorem MadeAt.below {G : (Nat → Prop) → List Th → World → Prop} {b : Nat} {Y : Nat → Prop} {L : List Th} {w w' : World} (h : MadeAt G b Y L w) (hb : Below w.heap.size w w') : MadeAt G b Y L w' := h.keep hb.size (fun x e => hb.block x (h.inside x e))
theorem Curs.snoc {C : List CurC} {c : CurC} {Y Yb : Nat → Prop} {w : World} (h : Curs C Y w) (hc : CurAt c Yb w) (hd : ∀ k, Yb k → ¬ Y k) : Curs (C ++ [c]) (fun k => Y k ∨ Yb k) w := by
  obtain ⟨h0, F, h1, h2, h3⟩ := h
  refine ⟨?_, fun i => if i < C.length then F i else Yb, ?_, ?_, ?_⟩
  · rintro k (e | e)
    · exact h0 k e
    · exact hc.inside k e
  · intro i hi
    by_cases e : i < C.length
    · simp only [if_pos e, List.getElem_append_left e]
      exact h1 i e
    · have e' : i = C.length := by simp at hi; omega
      subst e'
      simp only [if_neg e, List.getElem_append_right (Nat.le_refl _), Nat.sub_self, List.getElem_cons_zero]
      exact hc
  · intro i j k hi hj hij ei ej
    simp only [List.length_append, List.length_singleton] at hi hj
    by_cases e1 : i < C.length
    · simp only [if_pos e1] at ei
      by_cases e2 : j < C.length
      · simp only [if_pos e2] at ej
        exact h2 i j k e1 e2 hij ei ej
      · simp only [if_neg e2] at ej
        exact hd k ej (h3 i k e1 ei)
    · simp only [if_neg e1] at ei
      by_cases e2 : j < C.length
      · simp only [if_pos e2] at ej
        exact hd k ei (h3 j k e2 ej)
      · omega
  · intro i k hi ei
    by_cases e1 : i < C.length
    · simp only [if_pos e1] at ei
      exact .inl (h3 i k e1 ei)
    · simp only [if_neg e1] at ei
      exact .inr ei
theorem curIn_block {S : Nat → Prop} {w : World} {b : Nat} {cs : Array Value} {t : TypeId} (L : List (Option Nat)) (h : w.heap[b]? = some (.cells cs t (0, 0))) (hc : cs.toList = L.map curO) (hL : L.length ≤ 1000000) (hS : S b) : CurIn S w (.slice (some ⟨b, 0, none⟩) L.length L.length) L := by
  refine ⟨_, L.length, rfl, Nat.le_refl _, by unfold maxLen; omega, .inr ⟨b, 0, rfl, hS, (Array.getElem?_eq_some_iff.1 h).1, fun j hj => ?_⟩⟩
  have g : cs[j]? = (L.map curO)[j]? := by rw [← hc]; simp
  rw [cell_of_row _ _ _ _ _ (0, 0) h, Nat.zero_add, g, List.getElem?_map, List.getElem?_eq_getElem hj]
  rfl
theorem below_new' (w : World) (o : Obj) : Below w.heap.size w (w.alloc o) := (Below.refl _ _).alloc (Nat.le_refl _) o
abbrev al1 : List Th := [(1, 0), (4, 7)]
abbrev al2 : List Th := [(2, 0), (4, 0)]
abbrev al3 : List Th := [(1, 0), (2, 0), (4, 7), (4, 0)]
theorem al_merge : mergeL [al1, al2] = al3 := by decide
set_option maxRecDepth 100000 in
set_option maxHeartbeats 2000000 in
theorem alive_true (w : World) : Calls Try.prog 19 #[] w fun e w' => e = .returned (.bool true) ∧ Below w.heap.size w w' := by
  go_enter Try.func19, Try.ntmps19
  go_wp2_with fail
  have hb0 := (Below.refl w.heap.size w).alloc (Nat.le_refl _) (.cells #[.int .i8 1, .int .i64 0, .int .i8 4, .int .i64 7] 28)
  refine (of_any (S := fun _ => True) (L := al1) (thIn_block al1 (heap_alloc_new w _) rfl (by decide) trivial) (by decide)).mono ?_
  rintro e w1 ⟨b1, Y1, rfl, hm1, hy1, hb1⟩
  rw [World.size_alloc] at hy1
  have HB1 := Lib.hid (hb0.trans (hb1.mono hb0.size))
  have HM1 := Lib.hid hm1
  have HY1 := Lib.hid hy1
  clear hb0 hm1 hy1 hb1
  go_wp2_with fail
  have hb2 := (Below.refl w1.heap.size w1).alloc (Nat.le_refl _) (.cells #[.int .i8 2, .int .i64 0, .int .i8 4, .int .i64 0] 28)
  refine (of_any (S := fun _ => True) (L := al2) (thIn_block al2 (heap_alloc_new w1 _) rfl (by decide) trivial) (by decide)).mono ?_
  rintro e w2 ⟨b2, Y2, rfl, hm2, hy2, hb3⟩
  rw [World.size_alloc] at hy2
  have hb4 := hb2.trans (hb3.mono hb2.size)
  have HB2 := Lib.hid (HB1.out.trans (hb4.mono HB1.out.size))
  have HC2 := Lib.hid (Curs.snoc (Curs.snoc (Curs.nil w2) (c := (some b1, al1)) (HM1.out.below hb4) (fun _ _ e => e)) (c := (some b2, al2)) hm2 (fun k e e' => by
    rcases e' with e' | e'
    · exact e'
    · have := HM1.out.inside k e'; have := hy2 k e; omega))
  have HY2 := Lib.hid (show ∀ k, ((False ∨ Y1 k) ∨ Y2 k) → w.heap.size ≤ k from fun k e => by
    rcases e with (e | e) | e
    · exact e.elim
    · have := HY1.out k e; omega
    · have := hy2 k e; have := HB1.out.size; omega)
  clear hb2 hb3 hb4 hm2 hy2 HM1 HY1 HB1
  go_wp2_with fail
  have hb5 := below_new' w2 (.cells #[curV b1, curV b2] 30)
  refine (merge_any (S := fun _ => True) (HC2.out.below hb5) (curIn_block [some b1, some b2] (heap_alloc_new w2 _) rfl (by simp) trivial) (by simp)).mono ?_
  rintro e w3 ⟨b3, Y3, rfl, hm3, hy3, hb6⟩
  have hm3 : MadeAt Tt b3 Y3 al3 w3 := by have := al_merge; rw [← this]; exact hm3
  rw [World.size_alloc] at hy3
  have hb7 := hb5.trans (hb6.mono hb5.size)
  have HB3 := Lib.hid (HB2.out.trans (hb7.mono HB2.out.size))
  have HM3 := Lib.hid hm3
  have HY3 := Lib.hid (show ∀ k, Y3 k → w.heap.size ≤ k from fun k e => by
    rcases hy3 k e with e | e
    · exact HY2.out k e
    · have := HB2.out.size; omega)
  clear hb5 hb6 hb7 hm3 hy3 HC2 HY2 HB2
  go_wp2_with fail
  refine (rest_any HM3.out (by decide)).mono ?_
  rintro e w4 ⟨v4, rfl, ho4, hu4, -⟩
  have HB4 := Lib.hid (HB3.out.trans (hu4.below HB3.out.size (fun x _ e => HY3.out x e)))
  obtain ⟨p4, c4, e4, -⟩ := ho4.in_ (fun _ => True) (fun _ _ => trivial)
  have HO4 := Lib.hid ho4
  clear hu4 ho4
  subst e4
  go_wp2_with fail
  have hb8 := below_new' w4 (.cells #[.int .i8 1, .int .i64 0, .int .i8 2, .int .i64 0, .int .i8 4, .int .i64 7, .int .i8 4, .int .i64 0] 28)
  refine (same_any (S := fun _ => True) (S' := fun _ => True) (L := al3) (M := al3) ((HO4.out.alloc _).in_ _ (fun _ _ => trivial)) (thIn_block al3 (heap_alloc_new w4 _) rfl (by decide) trivial) (by decide) (by decide)).mono ?_
  rintro e w5 ⟨rfl, hb9⟩
  have HB5 := Lib.hid (HB4.out.trans ((hb8.trans (hb9.mono hb8.size)).mono HB4.out.size))
  clear hb8 hb9
  go_wp2_with fail
  go_ret
  exact ⟨rfl, HB5.out⟩
end Go.Proofs.Ytcfnpbmkcdmafaa
