/-
  Contracts of All and Only at counted tuples; a sum of no cursor, and the laws' rest of it.
-/
import Derived.Test.YtcfnpbmkcdmafaaMcF
import Derived.Test.YtcfnpbmkcdmafaaMcD
namespace Go.Proofs.Ytcfnpbmkcdmafaa
open Go Go.RowKit Go.Shelf

theorem OnJC.tells {n0 kh : Nat} {lbh : Array Value} {R : Nat → Prop} {Hw : World → Prop} {p : Ct → Bool} (hk : HoldsC kh lbh R Hw p) {ca ch r : Nat} {Y : Nat → Prop} {M : List Ct} {w : World} (hn : n0 ≤ w.heap.size) (h : OnJC n0 kh lbh R Hw p ca ch r Y M w) :
    TellsC n0 89 #[.pointer (some ⟨ca, 0, none⟩), .pointer (some ⟨ch, 0, none⟩)] Y M w :=
  ⟨h.1, hn, OnJC n0 kh lbh R Hw p ca ch r, Y, fun _ e => e, h, fun _ _ _ h => h.1, fun _ _ _ _ h => h.keep hk, fun _ _ _ hn h => only1_anyC hk hn h⟩
abbrev madeWC (w : World) (b : Nat) : World := (w.alloc (.cells #[nextVC b] 122)).alloc (.cells #[nextVC b] 122)
set_option maxRecDepth 100000 in
theorem all_anyC (b : Nat) (w : World) : Calls Try.prog 88 #[curVC b] w fun e w' => e = .returned (allVC (w.heap.size + 1)) ∧ madeWC w b = w' := by
  have hmf : ∀ (fn : Fn) (first cap : Array Value) (w : World), (Instr.makeFunc fn first cap).run Try.prog w = .ok (.func fn first cap) w := fun _ _ _ _ => rfl
  have HF := Lib.hid (from_anyC b w)
  go_enter Try.func88, Try.ntmps88
  go_wp2_with fail
  refine HF.out.mono ?_
  rintro e w1 ⟨rfl, rfl⟩
  go_wp2_with fail
  go_ret
  exact ⟨by simp, rfl⟩
theorem made_allC {n0 b : Nat} {F : Nat → Prop} {L : List Ct} {w : World} (h : MadeC n0 b F L w) : MadeC n0 (w.heap.size + 1) (fun x => x = w.heap.size + 1 ∨ F x) L (madeWC w b) := by
  have := made_newC 122 (FvC.next b) (h.tells.alloc (.cells #[nextVC b] 122))
  rw [World.size_alloc] at this
  exact this
theorem eqlHoldsC (k : Nat) (lb : Array Value) (W : World) : (binOp .eql 111 (.func (.func k) #[] lb) .nilFunc).run Try.prog W = .ok (.bool false) W := by kernel_rfl
/-- A new cursor, over what was handed in. -/
def OverC (n0 : Nat) (Y0 : Nat → Prop) (L : List Ct) (w : World) (e : Ending) (w' : World) : Prop :=
  ∃ b Y, e = .returned (curVC b) ∧ MadeC n0 b Y L w' ∧ (∀ k, Y k → Y0 k ∨ w.heap.size ≤ k) ∧ Below w.heap.size w w'
set_option maxRecDepth 100000 in
set_option maxHeartbeats 2000000 in
theorem only_anyC {n0 kh : Nat} {lbh : Array Value} {R : Nat → Prop} {Hw : World → Prop} {p : Ct → Bool} (hk : HoldsC kh lbh R Hw p) {b : Nat} {F : Nat → Prop} {L : List Ct} {w : World} (hc : MadeC n0 b F L w) (hw : Hw w) (hd : ∀ k, F k → ¬ R k) :
    Calls Try.prog 73 #[cloV kh lbh, curVC b] w (OverC n0 (fun k => F k ∨ R k) (L.filter p) w) := by
  have hmf : ∀ (fn : Fn) (first cap : Array Value) (w : World), (Instr.makeFunc fn first cap).run Try.prog w = .ok (.func fn first cap) w := fun _ _ _ _ => rfl
  have q := eqlHoldsC kh lbh
  have hb0 : Below w.heap.size w (w.alloc (.cells #[cloV kh lbh] 111)) := (Below.refl _ _).alloc (Nat.le_refl _) _
  have HA := Lib.hid (all_anyC b (w.alloc (.cells #[cloV kh lbh] 111)))
  have HC := Lib.hid hc
  go_enter Try.func73, Try.ntmps73
  go_wp2_with fail
  refine HA.out.mono ?_
  rintro e w1 ⟨rfl, hw1⟩
  have hm := made_allC (hc.below hb0)
  rw [hw1] at hm
  have hbm : Below (w.alloc (.cells #[cloV kh lbh] 111)).heap.size (w.alloc (.cells #[cloV kh lbh] 111)) w1 := by rw [← hw1]; exact ((Below.refl _ _).alloc (Nat.le_refl _) _).alloc (by simp) _
  have hb1 : Below w.heap.size w w1 := hb0.trans (hbm.mono hb0.size)
  have hs1 : w1.heap.size = w.heap.size + 3 := by rw [← hw1]; simp
  have hch : w1.heap[w.heap.size]? = some (.cells #[cloV kh lbh] 111 (0, 0)) := (hbm.block _ (by simp)).trans (heap_alloc_new w _)
  rw [World.size_alloc] at hm ⊢
  have hb2 : Below w.heap.size w (w1.alloc (.cells #[allVC (w.heap.size + 1 + 1)] 130)) := hb1.alloc hb1.size _
  have hbase := hc.base
  have HJ := Lib.hid (show OnJC n0 kh lbh R Hw p w1.heap.size w.heap.size (w.heap.size + 1 + 1) (fun k => k = w1.heap.size ∨ k = w.heap.size ∨ k = w.heap.size + 2 ∨ F k ∨ (R k ∧ n0 ≤ k)) (L.filter p) (w1.alloc (.cells #[allVC (w.heap.size + 1 + 1)] 130)) from by
    refine ⟨?_, .inl rfl, .inr (.inl rfl), cell_of_row _ _ 0 _ _ (0, 0) (heap_alloc_new w1 _), cell_of_row _ _ 0 _ _ (0, 0) ((Below.heap_alloc _ _ _ (by omega)).trans hch), hk.keep hw hb2.size (fun k e => hb2.block k (hk.inside hw k e)), ?_, L, _, hm.alloc _, ?_, rfl⟩
    · rintro k (rfl | rfl | rfl | e | e)
      · simp; omega
      · simp; omega
      · simp; omega
      · have := hc.inside k e; simp; omega
      · have := hk.inside hw k e.1; simp; omega
    · intro k e
      have := hk.inside hw k e
      by_cases hkn : k < n0
      · exact .inr hkn
      · exact .inl ⟨.inr (.inr (.inr (.inr ⟨e, by omega⟩))), by omega, by omega⟩
    · rintro k (rfl | e)
      · exact ⟨.inr (.inr (.inl rfl)), by omega, by omega, fun e => by have := hk.inside hw _ e; omega⟩
      · have := (hc.inside k e).2
        exact ⟨.inr (.inr (.inr (.inl e))), by omega, by omega, hd k e⟩)
  have HB := Lib.hid (And.intro hb1 hs1)
  clear hm hb1 hs1 hch hw1 hb0 hbm hb2
  go_wp2_with fail
  refine (cursor_anyC _ _ _).mono ?_
  rintro e w2 ⟨rfl, rfl⟩
  go_wp2_with fail
  go_ret
  have hb3 := (HB.out.1.alloc HB.out.1.size (.cells #[allVC (w.heap.size + 1 + 1)] 130))
  have hmn := made_newC 122 (FvC.clo _ _ (enters_of Try.func89 (by kernel_rfl) rfl)) (OnJC.tells hk (by have := hb3.size; omega) HJ.out)
  rw [World.size_alloc] at hmn
  refine ⟨_, _, rfl, hmn, ?_, hb3.alloc hb3.size _⟩
  rintro k (rfl | rfl | rfl | rfl | e | e)
  · exact .inr (Nat.le_trans HB.out.1.size (Nat.le_succ _))
  · exact .inr HB.out.1.size
  · exact .inr (Nat.le_refl _)
  · exact .inr (by omega)
  · exact .inl (.inl e)
  · exact .inl (.inr e.1)
/-- Sum's condition: a count that is not 0. -/
def pN0 : Ct → Bool := fun x => x.2 != 0
set_option maxRecDepth 100000 in
theorem sum2_any (h : Raw) (w : World) : Calls Try.prog 74 #[rawV h] w fun e w' => e = .returned (.bool (h.2 != 0)) ∧ Below w.heap.size w w' := by
  have HB := Lib.hid (below_new' w (.cells #[.slice h.1.1 h.1.2.1 h.1.2.2, .int .i64 h.2] 68))
  go_enter Try.func74, Try.ntmps74
  go_wp2_with fail
  go_ret
  exact ⟨rfl, HB.out⟩
theorem sum2_holds : HoldsC 74 #[] (fun _ => False) (fun _ => True) pN0 where
  enter := enters_of Try.func74 (by kernel_rfl) rfl
  inside _ _ e := e.elim
  keep _ _ _ := trivial
  call h _ _ _ := sum2_any h _
set_option maxRecDepth 100000 in
set_option maxHeartbeats 2000000 in
theorem sum_zero (w : World) : Calls Try.prog 44 #[.slice none 0 0] w (NewC w.heap.size [] w) := by
  have hmf : ∀ (fn : Fn) (first cap : Array Value) (w : World), (Instr.makeFunc fn first cap).run Try.prog w = .ok (.func fn first cap) w := fun _ _ _ _ => rfl
  go_enter Try.func44, Try.ntmps44
  go_wp2_with fail
  go_loopw [3, 10] (fun v i wr => v = .slice none 0 0 ∧ i = .int .i64 0 ∧ Hid (wr = w)) (fun _ _ _ => 0)
  case atStart => exact ⟨rfl, rfl, by first | exact Lib.hid rfl | exact Lib.hid trivial⟩
  case round =>
    obtain ⟨rfl, rfl, HW⟩ := hrel
    obtain rfl := HW.out
    go_wp2_with fail
    refine (merge_zero wr).mono ?_
    rintro e w1 ⟨b1, Y1, rfl, hm1, hy1, hb1⟩
    have HM1 := Lib.hid (And.intro hm1 (And.intro hy1 hb1))
    clear hm1 hy1 hb1
    go_wp2_with fail
    refine (sourceOf_anyC b1 w1).mono ?_
    rintro e w2 ⟨rfl, hw2⟩
    have hsrc := src_newC HM1.out.1
    rw [hw2] at hsrc
    have hs2 : w2.heap.size = w1.heap.size + 2 := by rw [← hw2]; simp
    have hb2 : Below wr.heap.size wr w2 := by
      rw [← hw2]
      exact (HM1.out.2.2.alloc HM1.out.2.2.size _).alloc (by have := HM1.out.2.2.size; simp; omega) _
    have HS := Lib.hid (show SuZ wr.heap.size w2.heap.size (fun k => k = w2.heap.size ∨ k = w1.heap.size + 1 ∨ Y1 k) [] (w2.alloc (.cells #[.pointer (some ⟨w1.heap.size + 1, 0, none⟩)] 105)) from by
      have h1 := HM1.out.2.2.size
      refine ⟨?_, rfl, .inl rfl, w1.heap.size + 1, false, _, heap_alloc_new w2 _, hsrc.alloc _, ?_⟩
      · rintro k (rfl | rfl | e)
        · simp; omega
        · simp; omega
        · have := HM1.out.1.inside k e; simp; omega
      · rintro k (rfl | e)
        · exact ⟨.inr (.inl rfl), by omega⟩
        · have := HM1.out.1.inside k e
          exact ⟨.inr (.inr e), by omega⟩)
    have HB2 := Lib.hid (And.intro hb2 hs2)
    clear hw2 hsrc hb2 hs2
    go_wp2_with fail
    refine (cursor_anyC _ _ _).mono ?_
    rintro e w3 ⟨rfl, hw3⟩
    have htl : TellsC wr.heap.size 70 #[.pointer (some ⟨w2.heap.size, 0, none⟩)] (fun k => k = w2.heap.size ∨ k = w1.heap.size + 1 ∨ Y1 k) [] (w2.alloc (.cells #[.pointer (some ⟨w1.heap.size + 1, 0, none⟩)] 105)) :=
      ⟨HS.out.1, by have := HB2.out.1.size; simp; omega, SuZ wr.heap.size w2.heap.size, _, fun _ e => e, HS.out, fun _ _ _ h => h.1, fun _ _ _ _ h => h.keep, fun _ _ _ hn h => sum1_zero hn h⟩
    have hm3 := made_newC 122 (FvC.clo _ _ (enters_of Try.func70 (by kernel_rfl) rfl)) htl
    rw [hw3, World.size_alloc] at hm3
    have hb3 : Below wr.heap.size wr w3 := by
      rw [← hw3]
      exact (HB2.out.1.alloc HB2.out.1.size _).alloc (by have := HB2.out.1.size; simp; omega) _
    have HOn := Lib.hid (only_anyC sum2_holds hm3 trivial (fun _ _ e => e))
    have HY3 := Lib.hid (show ∀ k, (k = w2.heap.size + 1 ∨ k = w2.heap.size ∨ k = w1.heap.size + 1 ∨ Y1 k) → wr.heap.size ≤ k from fun k e => by
      have h1 := HM1.out.2.2.size
      have h2 := HB2.out.1.size
      rcases e with rfl | rfl | rfl | e
      · omega
      · exact h2
      · omega
      · exact HM1.out.2.1 k e)
    have HB3 := Lib.hid hb3
    clear htl hm3 hb3 HS hw3 HM1 HB2
    go_wp2_with fail
    refine HOn.out.mono ?_
    rintro e w4 ⟨b4, Y4, rfl, hm4, hy4, hb4⟩
    have HM4 := Lib.hid (And.intro hm4 (And.intro hy4 hb4))
    clear hm4 hy4 hb4 HOn
    go_wp2_with fail
    go_ret
    refine ⟨b4, Y4, rfl, HM4.out.1, fun k e => ?_, HB3.out.trans (HM4.out.2.2.mono HB3.out.size)⟩
    rcases HM4.out.2.1 k e with (e | e) | e
    · exact HY3.out k e
    · exact e.elim
    · exact Nat.le_trans HB3.out.size e
set_option maxRecDepth 100000 in
set_option maxHeartbeats 2000000 in
theorem rest_zeroC {n0 b : Nat} {Y : Nat → Prop} {w : World} (h : MadeC n0 b Y [] w) : Calls Try.prog 37 #[curVC b] w fun e w' => e = .returned (.tuple #[.slice none 0 0, .bool true]) ∧ Upd (allOf Y) w w' := by
  have q := eql_ifaceC b
  have hm := method_nextNC b
  have HC := Lib.hid (next_anyC h)
  have HI := Lib.hid h.inside
  clear h
  go_enter Try.func37, Try.ntmps37
  go_wp2_with fail
  go_loopw [4, 5] (fun v i wr => v = .slice none 0 0 ∧ i = .int .i64 0 ∧ Hid (wr = w)) (fun _ _ _ => 0)
  case atStart => exact ⟨rfl, rfl, by first | exact Lib.hid rfl | exact Lib.hid trivial⟩
  case round =>
    obtain ⟨rfl, rfl, HW⟩ := hrel
    obtain rfl := HW.out
    go_wp2_with fail
    refine HC.out.mono ?_
    rintro e w1 ⟨h, ok, rfl, hu, Y1, hs, hm1, hd⟩
    obtain ⟨rfl, rfl⟩ := hd
    have HC2 := Lib.hid (next_anyC (hm1.alloc (.cells #[.slice none 0 0, .int .i64 0] 68)))
    have HU := Lib.hid (And.intro hu hs)
    clear hu hs hm1 HC
    go_wp2_with fail
    refine HC2.out.mono ?_
    rintro e w2 ⟨h, ok, rfl, hu, Y2, hs, hm2, hd⟩
    obtain ⟨rfl, rfl⟩ := hd
    have HU2 := Lib.hid (((HU.out.1.alloc (.cells #[.slice none 0 0, .int .i64 0] 68)).then hu (fun x _ hx e => (HU.out.2 x e).resolve_right (by omega))).alloc (.cells #[.slice none 0 0, .int .i64 0] 68))
    clear hu hs hm2
    go_wp2_with fail
    go_ret2
    exact ⟨rfl, HU2.out⟩
end Go.Proofs.Ytcfnpbmkcdmafaa
