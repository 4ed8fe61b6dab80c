/-
  Contracts of merge.among, Both and Less.
-/
import Derived.Test.YtcfnpbmkcdmafaaMgT
namespace Go.Proofs.Ytcfnpbmkcdmafaa
open Go Go.RowKit Go.Shelf

/-- The state of among's condition: what the other one has left. -/
def AmHs (cc co ct : Nat) (there : Bool) (L : List Th) (Y : Nat → Prop) (w : World) : Prop :=
  (∀ k, Y k → k < w.heap.size) ∧ Y cc ∧ Y co ∧ Y ct ∧ w.cell? ⟨cc, 0, none⟩ = some cmpFn ∧ w.cell? ⟨ct, 0, none⟩ = some (.bool there) ∧
  ∃ s tk Ys, w.cell? ⟨co, 0, none⟩ = some (.pointer (some ⟨s, 0, none⟩)) ∧ SrcAt s tk Ys L w ∧ ∀ k, Ys k → Y k ∧ k ≠ cc ∧ k ≠ co ∧ k ≠ ct
def amStep (there : Bool) (L : List Th) (x : Th) : Bool × List Th := (likeB (skipL L x) x == there, skipL L x)
def Five (cc co ct s n : Nat) (there : Bool) (x : Th) (X : World) : Prop :=
  X.cell? ⟨cc, 0, none⟩ = some cmpFn ∧ X.cell? ⟨co, 0, none⟩ = some (.pointer (some ⟨s, 0, none⟩)) ∧ X.cell? ⟨ct, 0, none⟩ = some (.bool there) ∧ X.cell? ⟨n, 0, none⟩ = some (.int .i8 x.1) ∧ X.cell? ⟨n, 1, none⟩ = some (.int .i64 x.2)
theorem eqlBool (a b : Bool) (W : World) : (binOp .eql 4 (.bool a) (.bool b)).run Try.prog W = .ok (.bool (a == b)) W := by cases a <;> cases b <;> kernel_rfl
set_option maxRecDepth 100000 in
set_option maxHeartbeats 2000000 in
theorem among1_any {cc co ct : Nat} {there : Bool} {L : List Th} {Y : Nat → Prop} {w : World} (h : AmHs cc co ct there L Y w) (x : Th) :
    Calls Try.prog 77 #[thV x, .pointer (some ⟨cc, 0, none⟩), .pointer (some ⟨co, 0, none⟩), .pointer (some ⟨ct, 0, none⟩)] w fun e w' =>
      e = .returned (.bool (amStep there L x).1) ∧ Upd (allOf Y) w w' ∧ ∃ Y', Sub w.heap.size Y Y' ∧ AmHs cc co ct there (amStep there L x).2 Y' w' := by
  obtain ⟨h1, h2, h3, h4, h5, h6, s, tk, Ys, h7, h8, h9⟩ := h
  have l2 := h1 _ h2
  have l3 := h1 _ h3
  have l4 := h1 _ h4
  have h8' : SrcAt s tk Ys L (w.alloc (.cells #[.int .i8 x.1, .int .i64 x.2] 28)).drew := (h8.keep (by simp) (fun k e => Below.heap_alloc _ _ _ (by have := h8.inside k e; omega)) : SrcAt s tk Ys L (w.alloc (.cells #[.int .i8 x.1, .int .i64 x.2] 28))).keep (Nat.le_refl _) (fun _ _ => rfl)
  have HT := Lib.hid (tells_any h8' x)
  have hf : Five cc co ct s w.heap.size there x (w.alloc (.cells #[.int .i8 x.1, .int .i64 x.2] 28)) := by
    refine ⟨(World.cell?_alloc_lt _ _ _ l2).trans h5, (World.cell?_alloc_lt _ _ _ l3).trans h7, (World.cell?_alloc_lt _ _ _ l4).trans h6, ?_, ?_⟩ <;> (rw [cell_of_row _ w.heap.size _ _ _ (0, 0) (heap_alloc_new w _)]; rfl)
  have HF := Lib.hid hf
  have HK := Lib.hid (show ∀ w', Upd (allOf Ys) (w.alloc (.cells #[.int .i8 x.1, .int .i64 x.2] 28)).drew w' → Five cc co ct s w.heap.size there x w' from fun w' hu => by
    have g : ∀ b o v, (w.alloc (.cells #[.int .i8 x.1, .int .i64 x.2] 28)).cell? ⟨b, o, none⟩ = some v → ¬ Ys b → w'.cell? ⟨b, o, none⟩ = some v := fun b o v e hn => (World.cell?_of_block (a := ⟨b, o, none⟩) (hu.block b (World.block_lt_of_cell? _ _ e) (fun _ e' => hn e'))).trans e
    obtain ⟨g1, g2, g3, g4, g5⟩ := hf
    exact ⟨g _ _ _ g1 (fun e => (h9 _ e).2.1 rfl), g _ _ _ g2 (fun e => (h9 _ e).2.2.1 rfl), g _ _ _ g3 (fun e => (h9 _ e).2.2.2 rfl), g _ _ _ g4 (fun e => by have := h8.inside _ e; omega), g _ _ _ g5 (fun e => by have := h8.inside _ e; omega)⟩)
  have HE := Lib.hid (show ∀ w' tk' Y', Upd (allOf Ys) (w.alloc (.cells #[.int .i8 x.1, .int .i64 x.2] 28)).drew w' → Sub (w.alloc (.cells #[.int .i8 x.1, .int .i64 x.2] 28)).drew.heap.size Ys Y' → SrcAt s tk' Y' (skipL L x) w' → Upd (allOf Y) w w' ∧ ∃ Y', Sub w.heap.size Y Y' ∧ AmHs cc co ct there (skipL L x) Y' w' from fun w' tk' Y' hu hs hm => by
    have hsz : w.heap.size + 1 ≤ w'.heap.size := by have := hu.size; simpa using this
    have hs' : Sub (w.heap.size + 1) Ys Y' := by
      have e : (w.alloc (.cells #[.int .i8 x.1, .int .i64 x.2] 28)).drew.heap.size = w.heap.size + 1 := by simp
      rw [e] at hs; exact hs
    obtain ⟨g1, g2, g3, -, -⟩ := HK.out w' hu
    refine ⟨(((Upd.refl (allOf Y) w).alloc _).drew).trans (hu.allMono fun k e => (h9 k e).1), fun k => Y k ∨ (w.heap.size + 1 ≤ k ∧ k < w'.heap.size), ?_, ?_, .inl h2, .inl h3, .inl h4, g1, g3, s, tk', Y', g2, hm, fun k e => ?_⟩
    · rintro k (e | e)
      · exact .inl e
      · exact .inr (by omega)
    · rintro k (e | e)
      · have := h1 k e; omega
      · exact e.2
    · rcases hs' k e with e' | e'
      · exact ⟨.inl (h9 k e').1, (h9 k e').2⟩
      · exact ⟨.inr ⟨e', hm.inside k e⟩, by omega, by omega, by omega⟩)
  obtain ⟨bo, hbo⟩ : ∃ bo, bo = likeB (skipL L x) x := ⟨_, rfl⟩
  have HBo := Lib.hid hbo
  unfold TellsEnd at HT
  rw [← hbo] at HT
  have q := eqlBool bo there
  clear h1 h2 h3 h4 h5 h6 h7 h8 h8' h9 hbo hf
  unfold amStep
  rw [← HBo.out]
  go_enter Try.func77, Try.ntmps77
  go_wp2_with fail
  go_region_held3 (fun X => X.cell? ⟨cc, 0, none⟩ = some cmpFn ∧ X.cell? ⟨co, 0, none⟩ = some (.pointer (some ⟨s, 0, none⟩)) ∧ X.cell? ⟨ct, 0, none⟩ = some (.bool there) ∧ X.cell? ⟨w.heap.size, 0, none⟩ = some (.int .i8 x.1) ∧ X.cell? ⟨w.heap.size, 1, none⟩ = some (.int .i64 x.2)) (first | exact HF.out | exact HF4.out)
    ((go_at_call 78; refine HT.out.mono ?_; rintro e w4 ⟨rfl, hu4, tk4, Y4, hs4, hm4⟩; have HF4 := Lib.hid (HK.out w4 hu4); have HE4 := Lib.hid (HE.out w4 tk4 Y4 hu4 hs4 hm4); clear hu4 hs4 hm4))
  go_wp2_with fail
  go_ret
  exact ⟨rfl, HE4.out⟩
theorem am_holds (cc co ct : Nat) (there : Bool) : HoldsOk 77 #[.pointer (some ⟨cc, 0, none⟩), .pointer (some ⟨co, 0, none⟩), .pointer (some ⟨ct, 0, none⟩)] (AmHs cc co ct there) (amStep there) where
  enter := enters_of Try.func77 (by kernel_rfl) rfl
  inside h := h.1
  keep {s Y w w'} h hs hb := by
    obtain ⟨h1, h2, h3, h4, h5, h6, s, tk, Ys, h7, h8, h9⟩ := h
    exact ⟨fun k e => Nat.lt_of_lt_of_le (h1 k e) hs, h2, h3, h4, (World.cell?_of_block (a := ⟨cc, 0, none⟩) (hb cc h2)).trans h5, (World.cell?_of_block (a := ⟨ct, 0, none⟩) (hb ct h4)).trans h6, s, tk, Ys, (World.cell?_of_block (a := ⟨co, 0, none⟩) (hb co h3)).trans h7, h8.keep hs (fun k e => hb k (h9 k e).1), h9⟩
  call x h := among1_any h x
set_option maxRecDepth 100000 in
set_option maxHeartbeats 2000000 in
theorem among_any {a b : CurC} {F G : Nat → Prop} {w : World} (ha : CurAt a F w) (hb : CurAt b G w) (hd : ∀ k, F k → ¬ G k) (there : Bool) :
    Calls Try.prog 56 #[cmpFn, curO a.1, curO b.1, .bool there] w (OverCur (fun k => F k ∨ G k) (onlyL (amStep there) b.2 a.2) w) := by
  have hmf : ∀ (fn : Fn) (first cap : Array Value) (w : World), (Instr.makeFunc fn first cap).run Try.prog w = .ok (.func fn first cap) w := fun _ _ _ _ => rfl
  have q1 := eqlCmp
  have hb0 : Below w.heap.size w ((w.alloc (.cells #[cmpFn] 42)).alloc (.cells #[.bool there] 4)) := ((Below.refl _ _).alloc (Nat.le_refl _) _).alloc (by simp) _
  obtain ⟨bo, hbo⟩ : ∃ bo, bo = b.1 := ⟨_, rfl⟩
  obtain ⟨ao, hao⟩ : ∃ ao, ao = a.1 := ⟨_, rfl⟩
  have HS := Lib.hid (sourceOf_o b.1 ((w.alloc (.cells #[cmpFn] 42)).alloc (.cells #[.bool there] 4)))
  rw [← hbo] at HS
  rw [← hbo, ← hao]
  have HBo := Lib.hid hbo
  have HAo := Lib.hid hao
  clear hbo hao
  go_enter Try.func56, Try.ntmps56
  go_wp2_with fail
  refine HS.out.mono ?_
  rintro e w1 ⟨rfl, hw1⟩
  have hsz : ((w.alloc (.cells #[cmpFn] 42)).alloc (.cells #[.bool there] 4)).heap.size = w.heap.size + 2 := by simp
  have hsrc := src_o (CurAt.keep hb hb0.size (fun x e => hb0.block x (hb.inside x e)))
  rw [← HBo.out, hw1] at hsrc
  rw [hsz] at hsrc ⊢
  have hs1 : w1.heap.size = w.heap.size + 4 := by rw [← hw1]; simp
  have hb1 : Below w.heap.size w w1 := by
    rw [← hw1]
    exact (hb0.alloc hb0.size _).alloc (by rw [World.size_alloc, hsz]; omega) _
  have hcc : w1.heap[w.heap.size]? = some (.cells #[cmpFn] 42 (0, 0)) := by
    rw [← hw1]
    exact (Below.heap_alloc _ _ _ (by rw [World.size_alloc, hsz]; omega)).trans ((Below.heap_alloc _ _ _ (by rw [hsz]; omega)).trans ((Below.heap_alloc _ _ _ (by simp)).trans (heap_alloc_new w _)))
  have hct : w1.heap[w.heap.size + 1]? = some (.cells #[.bool there] 4 (0, 0)) := by
    rw [← hw1]
    have := heap_alloc_new (w.alloc (.cells #[cmpFn] 42)) (.cells #[.bool there] 4)
    rw [World.size_alloc] at this
    exact (Below.heap_alloc _ _ _ (by rw [World.size_alloc, hsz]; omega)).trans ((Below.heap_alloc _ _ _ (by rw [hsz]; omega)).trans this)
  have hco : (w1.alloc (.cells #[.pointer (some ⟨w.heap.size + 2 + 1, 0, none⟩)] 87)).heap[w1.heap.size]? = some (.cells #[.pointer (some ⟨w.heap.size + 2 + 1, 0, none⟩)] 87 (0, 0)) := heap_alloc_new w1 _
  have hb2 : Below w.heap.size w (w1.alloc (.cells #[.pointer (some ⟨w.heap.size + 2 + 1, 0, none⟩)] 87)) := hb1.alloc hb1.size _
  have HAm := Lib.hid (show AmHs w.heap.size w1.heap.size (w.heap.size + 1) there b.2 (fun k => k = w.heap.size ∨ k = w1.heap.size ∨ k = w.heap.size + 1 ∨ k = w.heap.size + 3 ∨ G k) (w1.alloc (.cells #[.pointer (some ⟨w.heap.size + 2 + 1, 0, none⟩)] 87)) from by
    refine ⟨?_, .inl rfl, .inr (.inl rfl), .inr (.inr (.inl rfl)), cell_of_row _ _ 0 _ _ (0, 0) ((Below.heap_alloc _ _ _ (by omega)).trans hcc), cell_of_row _ _ 0 _ _ (0, 0) ((Below.heap_alloc _ _ _ (by omega)).trans hct), w.heap.size + 3, false, _, cell_of_row _ _ 0 _ _ (0, 0) hco, hsrc.keep (by simp) (fun k e => Below.heap_alloc _ _ _ (by have := hsrc.inside k e; omega)), ?_⟩
    · rintro k (rfl | rfl | rfl | rfl | e)
      · simp; omega
      · simp
      · simp; omega
      · simp; omega
      · have := hb.inside k e; simp; omega
    · rintro k (rfl | e)
      · exact ⟨.inr (.inr (.inr (.inl rfl))), by omega, by omega, by omega⟩
      · have := hb.inside k e
        exact ⟨.inr (.inr (.inr (.inr e))), by omega, by omega, by omega⟩)
  have HOn := Lib.hid (only_any (am_holds w.heap.size w1.heap.size (w.heap.size + 1) there) (c := a) (F := F) (ha.keep hb2.size (fun x e => hb2.block x (ha.inside x e))) HAm.out (fun k e e' => by
    have := ha.inside k e
    rcases e' with e' | e' | e' | e' | e'
    · omega
    · omega
    · omega
    · omega
    · exact hd k e e'))
  rw [← HAo.out] at HOn
  have HB2 := Lib.hid (And.intro hb2 hs1)
  clear hsrc hb1 hcc hct hco hb2 hs1 hw1 hb0 HS
  go_wp2_with fail
  refine HOn.out.mono ?_
  rintro e w2 ⟨bb, Y2, rfl, hm2, hy2, hb3⟩
  have HM := Lib.hid (And.intro hm2 (And.intro hy2 hb3))
  clear hm2 hy2 hb3
  go_wp2_with fail
  go_ret
  obtain ⟨hm2, hy2, hb3⟩ := HM.out
  refine ⟨bb, Y2, rfl, hm2, fun k e => ?_, HB2.out.1.trans (hb3.mono HB2.out.1.size)⟩
  have hz := HB2.out.2
  have hz2 := HB2.out.1.size
  rcases hy2 k e with (e | e | e | e | e | e) | e
  · exact .inl (.inl e)
  · exact .inr (by omega)
  · exact .inr (by omega)
  · exact .inr (by omega)
  · exact .inr (by omega)
  · exact .inl (.inr e)
  · exact .inr (by omega)
set_option maxRecDepth 100000 in
theorem both_any {a b : CurC} {F G : Nat → Prop} {w : World} (ha : CurAt a F w) (hb : CurAt b G w) (hd : ∀ k, F k → ¬ G k) :
    Calls Try.prog 27 #[cmpFn, curO a.1, curO b.1] w (OverCur (fun k => F k ∨ G k) (onlyL (amStep true) b.2 a.2) w) := by
  have H := Lib.hid (among_any ha hb hd true)
  obtain ⟨bo, hbo⟩ : ∃ bo, bo = b.1 := ⟨_, rfl⟩
  obtain ⟨ao, hao⟩ : ∃ ao, ao = a.1 := ⟨_, rfl⟩
  rw [← hbo, ← hao] at H ⊢
  clear hbo hao
  go_enter Try.func27, Try.ntmps27
  go_wp2_with fail
  refine H.out.mono ?_
  rintro e w1 ⟨bb, Y2, rfl, hm⟩
  have HM := Lib.hid hm
  clear hm
  go_wp2_with fail
  go_ret
  exact ⟨bb, Y2, rfl, HM.out⟩
set_option maxRecDepth 100000 in
theorem less_any {a b : CurC} {F G : Nat → Prop} {w : World} (ha : CurAt a F w) (hb : CurAt b G w) (hd : ∀ k, F k → ¬ G k) :
    Calls Try.prog 28 #[cmpFn, curO a.1, curO b.1] w (OverCur (fun k => F k ∨ G k) (onlyL (amStep false) b.2 a.2) w) := by
  have H := Lib.hid (among_any ha hb hd false)
  obtain ⟨bo, hbo⟩ : ∃ bo, bo = b.1 := ⟨_, rfl⟩
  obtain ⟨ao, hao⟩ : ∃ ao, ao = a.1 := ⟨_, rfl⟩
  rw [← hbo, ← hao] at H ⊢
  clear hbo hao
  go_enter Try.func28, Try.ntmps28
  go_wp2_with fail
  refine H.out.mono ?_
  rintro e w1 ⟨bb, Y2, rfl, hm⟩
  have HM := Lib.hid hm
  clear hm
  go_wp2_with fail
  go_ret
  exact ⟨bb, Y2, rfl, HM.out⟩
end Go.Proofs.Ytcfnpbmkcdmafaa
