/-
  Contract of merge.tells.
-/
import Derived.Test.YtcfnpbmkcdmafaaMgS
namespace Go.Proofs.Ytcfnpbmkcdmafaa
open Go Go.RowKit Go.Shelf

/-- What is left of a source when all that precede x are skipped. -/
def skipL : List Th → Th → List Th
  | [], _ => []
  | y :: r, x => if cmpT2 y x < 0 then skipL r x else y :: r
/-- Whether the head is alike. -/
def likeB : List Th → Th → Bool
  | [], _ => false
  | y :: _, x => decide (cmpT2 y x = 0)
/-- What the loop of tells keeps. -/
def TlJ (s : Nat) (Y : Nat → Prop) (L : List Th) (x : Th) (w : World) (D : List Th) (W : World) : Prop :=
  (∃ tk Ys, SrcAt s tk Ys D W ∧ Sub (w.heap.size + 1) Y Ys) ∧ skipL D x = skipL L x ∧ Upd (allOf Y) w W ∧ W.heap[w.heap.size]? = some (.cells #[.int .i8 x.1, .int .i64 x.2] 28 (0, 0))
section
variable {s : Nat} {Y : Nat → Prop} {L D : List Th} {x : Th} {w W W' : World}
theorem TlJ.below (h : TlJ s Y L x w D W) (hb : Below W.heap.size W W') : TlJ s Y L x w D W' := by
  obtain ⟨⟨tk, Ys, h1, h2⟩, h3, h4, h5⟩ := h
  exact ⟨⟨tk, Ys, h1.keep hb.size (fun k e => hb.block k (h1.inside k e)), h2⟩, h3, h4.trans (Upd.of_below hb), (hb.block _ (Array.getElem?_eq_some_iff.1 h5).1).trans h5⟩
theorem TlJ.move (h : TlJ s Y L x w D W) (hI : ∀ k, Y k → k < w.heap.size) : ∃ tk Ys, SrcAt s tk Ys D W ∧ ∀ W' tk' Ys' D', Upd (allOf Ys) W W' → Sub W.heap.size Ys Ys' → SrcAt s tk' Ys' D' W' → skipL D' x = skipL L x → TlJ s Y L x w D' W' := by
  obtain ⟨⟨tk, Ys, h1, h2⟩, h3, h4, h5⟩ := h
  have hsz := (Array.getElem?_eq_some_iff.1 h5).1
  refine ⟨tk, Ys, h1, fun W' tk' Ys' D' hu hs hm hk => ⟨⟨tk', Ys', hm, fun k e => ?_⟩, hk, h4.then hu (fun y _ hy e => ?_), (hu.block _ hsz (fun _ e => ?_)).trans h5⟩⟩
  · rcases hs k e with e | e
    · exact h2 k e
    · exact .inr (by omega)
  · rcases h2 y e with e | e
    · exact e
    · omega
  · rcases h2 _ e with e | e
    · have := hI _ e; omega
    · omega
end
/-- What tells leaves. -/
def TellsEnd (s : Nat) (Y : Nat → Prop) (L : List Th) (x : Th) (w : World) (e : Ending) (w' : World) : Prop :=
  e = .returned (.bool (likeB (skipL L x) x)) ∧ Upd (allOf Y) w w' ∧ ∃ tk Y', Sub w.heap.size Y Y' ∧ SrcAt s tk Y' (skipL L x) w'
theorem TlJ.done {s : Nat} {Y : Nat → Prop} {L D : List Th} {x : Th} {w W : World} (h : TlJ s Y L x w D W) (hd : skipL D x = D) : Upd (allOf Y) w W ∧ ∃ tk Y', Sub w.heap.size Y Y' ∧ SrcAt s tk Y' (skipL L x) W := by
  obtain ⟨⟨tk, Ys, h1, h2⟩, h3, h4, -⟩ := h
  rw [hd] at h3
  exact ⟨h4, tk, Ys, fun k e => (h2 k e).imp_right fun e => by omega, h3 ▸ h1⟩
set_option maxRecDepth 100000 in
set_option maxHeartbeats 2000000 in
theorem tells_any {s : Nat} {tk : Bool} {Y : Nat → Prop} {L : List Th} {w : World} (h : SrcAt s tk Y L w) (x : Th) :
    Calls Try.prog 78 #[cmpFn, .pointer (some ⟨s, 0, none⟩), thV x] w (TellsEnd s Y L x w) := by
  have HI := Lib.hid h.inside
  have H0 := Lib.hid (show TlJ s Y L x w L (w.alloc (.cells #[.int .i8 x.1, .int .i64 x.2] 28)) from
    ⟨⟨tk, Y, h.keep (by simp) (fun k e => Below.heap_alloc _ _ _ (by have := h.inside k e; omega)), fun k e => .inl e⟩, rfl, (Upd.refl _ _).alloc _, heap_alloc_new w _⟩)
  clear h
  go_enter Try.func78, Try.ntmps78
  go_wp2_with fail
  go_loopw [7] (fun _ wr => ∃ D, Hid (TlJ s Y L x w D wr)) (fun _ wr => leastN fun n => ∃ D, D.length = n ∧ TlJ s Y L x w D wr)
  case atStart => exact ⟨L, H0⟩
  case round =>
    obtain ⟨D0, HD0⟩ := hrel
    obtain ⟨D, hDl, hDj⟩ := (leastN_spec (p := fun n => ∃ D, D.length = n ∧ TlJ s Y L x w D wr) ⟨D0, rfl, HD0.out⟩).1
    have HD := Lib.hid hDl
    have HSk := Lib.hid hDj.2.1
    obtain ⟨tk1, Ys1, g1, g2⟩ := hDj.move HI.out
    have HC := Lib.hid (peek_any g1)
    have HG := Lib.hid g2
    clear hDl hDj g1 g2
    go_wp2_with fail
    refine HC.out.mono ?_
    rintro e w1 ⟨rfl, hu, Y1, hs1, hsrc⟩
    have HJ1 := Lib.hid (HG.out w1 _ Y1 D hu hs1 hsrc HSk.out)
    clear hu hs1 hsrc HG HC
    cases D with
    | nil =>
      unfold headV
      go_wp2_with fail
      go_ret
      have hs0 : skipL L x = [] := HSk.out.symm
      obtain ⟨k1, k2⟩ := (HJ1.out.below ((Below.refl _ _).alloc (Nat.le_refl _) (.cells #[.int .i8 0, .int .i64 0] 28))).done rfl
      exact ⟨by rw [hs0]; rfl, k1, k2⟩
    | cons y r =>
      unfold headV
      have hx := HJ1.out.2.2.2
      have hxl := (Array.getElem?_eq_some_iff.1 hx).1
      have x0 := cell_of_row w1 _ 0 _ _ (0, 0) hx
      have x1 := cell_of_row w1 _ 1 _ _ (0, 0) hx
      clear hx
      obtain ⟨z, hz⟩ : ∃ z, z = cmpT2 y x := ⟨_, rfl⟩
      have HZ := Lib.hid hz
      clear hz
      go_wp2_with fail
      refine (cmp_any y x _).mono ?_
      rintro e w2 ⟨rfl, hb2⟩
      rw [← HZ.out]
      have HJ2 := Lib.hid (HJ1.out.below (((Below.refl _ _).alloc (Nat.le_refl _) (.cells #[.int .i8 y.1, .int .i64 y.2] 28)).trans (hb2.mono (by simp))))
      clear hb2 HJ1
      by_cases hz0 : z < 0
      · have hz1 : ¬ (0 : Int) ≤ z := by omega
        have hsk : skipL r x = skipL L x := by
          rw [← HSk.out]
          conv => rhs; unfold skipL
          rw [if_pos (by rw [← HZ.out]; exact hz0)]
        have HSr := Lib.hid hsk
        clear hsk
        obtain ⟨tk3, Ys3, g1, g2⟩ := HJ2.out.move HI.out
        have HC := Lib.hid (take_any g1)
        have HG := Lib.hid g2
        clear g1 g2
        go_wp2_with fail
        refine HC.out.mono ?_
        rintro e w3 ⟨rfl, hu, Y3, hs3, hsrc⟩
        have HJ3 := Lib.hid (HG.out w3 _ Y3 r hu hs3 hsrc HSr.out)
        clear hu hs3 hsrc HG HC
        unfold headV
        go_wp2_with fail
        go_roundw
        case rel => exact ⟨r, HJ3⟩
        case measure =>
          have := (leastN_spec (p := fun n => ∃ D, D.length = n ∧ TlJ s Y L x w D w3) ⟨r, rfl, HJ3.out⟩).2
          have h3 := HD.out
          simp only [List.length_cons] at h3
          omega
      · have hz1 : (0 : Int) ≤ z := by omega
        have hsk : skipL (y :: r) x = y :: r := by
          conv => lhs; unfold skipL
          rw [if_neg (by rw [← HZ.out]; exact hz0)]
        have HSr := Lib.hid hsk
        clear hsk
        go_wp2_with fail
        go_ret
        obtain ⟨k1, k2⟩ := HJ2.out.done HSr.out
        refine ⟨?_, k1, k2⟩
        rw [← HSk.out, HSr.out]
        simp [likeB, ← HZ.out]
        rfl
end Go.Proofs.Ytcfnpbmkcdmafaa
