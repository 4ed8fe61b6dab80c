/-
  Contract of the laws' rest: all that a cursor tells.
-/
import Derived.Test.YtcfnpbmkcdmafaaMgE
namespace Go.Proofs.Ytcfnpbmkcdmafaa
open Go Go.RowKit

/-- The same with the number that the walk shows (types of the seat and 100): the one line to be turned for another seat. -/
theorem method_nextN (b : Nat) (w : World) : (method 258 112 (.pointer (some ⟨b, 0, none⟩)) "Next").run Try.prog w = .ok (49, .pointer (some ⟨b, 0, none⟩)) w := by kernel_rfl
/-- What rest leaves. -/
def RestEnd (G : (Nat → Prop) → List Th → World → Prop) (b : Nat) (Y : Nat → Prop) (L : List Th) (w : World) (e : Ending) (w' : World) : Prop :=
  ∃ v, e = .returned (.tuple #[v, .bool true]) ∧ OwnTh w.heap.size w' v L ∧ Upd (allOf Y) w w' ∧ ∃ Y', Sub w.heap.size Y Y' ∧ MadeAt G b Y' [] w' ∧ ∀ k, v.ownBlock = some k → ¬ Y' k
/-- What the loop of rest keeps: out has come, the cursor tells what is left. -/
def RsJ (G : (Nat → Prop) → List Th → World → Prop) (b : Nat) (Y : Nat → Prop) (P L : List Th) (w : World) (v : Value) (w' : World) : Prop :=
  OwnTh w.heap.size w' v P ∧ Upd (allOf Y) w w' ∧ ∃ Y', Sub w.heap.size Y Y' ∧ MadeAt G b Y' L w' ∧ ∀ k, v.ownBlock = some k → ¬ Y' k
section
variable {G : (Nat → Prop) → List Th → World → Prop} {b : Nat} {Y : Nat → Prop} {P L : List Th} {w w1 w2 : World} {v : Value}
theorem OwnTh.off {B : Nat} {Y : Nat → Prop} (h : OwnTh B w1 v P) (hu : Upd (allOf Y) w1 w2) (hn : ∀ k, v.ownBlock = some k → ¬ Y k) : OwnTh B w2 v P :=
  h.keep fun k e => hu.block k (h.lt k e).2 fun _ e' => hn k e e'
theorem RsJ.next (h : RsJ G b Y P L w v w1) {Y1 : Nat → Prop} (hY : ∀ k, v.ownBlock = some k → ¬ Y1 k) (hs1 : Sub w.heap.size Y Y1) {L' : List Th} (hu : Upd (allOf Y1) w1 w2) {Y2 : Nat → Prop} (hs : Sub w1.heap.size Y1 Y2) (hm : MadeAt G b Y2 L' w2) : RsJ G b Y P L' w v w2 := by
  obtain ⟨h1, h2, -⟩ := h
  refine ⟨h1.off hu hY, h2.then hu (fun x _ hx e => ?_), Y2, fun k e => ?_, hm, fun k e e' => ?_⟩
  · rcases hs1 x e with h | h
    · exact h
    · omega
  · rcases hs k e with h | h
    · exact hs1 k h
    · exact .inr (Nat.le_trans h2.size h)
  · rcases hs k e' with h | h
    · exact hY k e h
    · have := (h1.lt k e).2; omega
theorem RsJ.keep (h : RsJ G b Y P L w v w1) (hs : w1.heap.size ≤ w2.heap.size) (hb : ∀ k, k < w1.heap.size → w2.heap[k]? = w1.heap[k]?) (ht : w2.os = w1.os ∧ w2.tape = w1.tape ∧ w2.output = w1.output) : RsJ G b Y P L w v w2 := by
  obtain ⟨h1, h2, Y1, h3, h4, h5⟩ := h
  exact ⟨h1.keep fun k e => hb k (h1.lt k e).2, h2.trans (Upd.of_below ⟨ht.1, ht.2.1, ht.2.2, hs, fun k e => hb k e⟩), Y1, h3, h4.keep hs (fun x e => hb x (h4.inside x e)), h5⟩
theorem RsJ.alloc (h : RsJ G b Y P L w v w1) (o : Obj) : RsJ G b Y P L w v (w1.alloc o) := h.keep (by simp) (fun k e => Below.heap_alloc _ _ _ (by omega)) ⟨rfl, rfl, rfl⟩
theorem RsJ.drew (h : RsJ G b Y P L w v w1) : RsJ G b Y P L w v w1.drew := h.keep (Nat.le_refl _) (fun _ _ => rfl) ⟨rfl, rfl, rfl⟩
theorem RsJ.put (h : RsJ G b Y P L w v w1) {v' : Value} {P' : List Th} (ho : OwnTh w.heap.size w2 v' P') (hg : w1.grownBy w2 v.ownBlock) (hv : v'.ownBlock = v.ownBlock ∨ v'.ownBlock = some w1.heap.size) : RsJ G b Y P' L w v' w2 := by
  obtain ⟨h1, h2, Y1, h3, h4, h5⟩ := h
  refine ⟨ho, ⟨hg.os.trans h2.os, hg.tape.trans h2.tape, hg.output.trans h2.output, Nat.le_trans h2.size hg.size, fun x o hx hn => ?_, fun x t n hx => ?_, fun x hx hn => ?_⟩, Y1, h3, h4.keep hg.size (fun x e => hg.block x (h4.inside x e) (fun e' => h5 x e'.symm e)), fun k e e' => ?_⟩
  · exact (World.cell?_of_block (a := ⟨x, o, none⟩) (hg.block x (by have := h2.size; omega) (fun e => by have := (h1.lt x e.symm).1; omega))).trans (h2.cell x o hx hn)
  · exact (h2.kind x t n hx).of_heap (hg.block x (by have := (h2.kind x t n hx).lt; omega) (fun e => by have := (h1.lt x e.symm).1; have := hx.lt; omega))
  · exact (hg.block x (by have := h2.size; omega) (fun e => by have := (h1.lt x e.symm).1; omega)).trans (h2.block x hx hn)
  · rcases hv with hv | hv
    · exact h5 k (hv ▸ e) e'
    · rw [hv] at e; cases e; exact absurd (h4.inside _ e') (Nat.lt_irrefl _)
end
set_option maxRecDepth 100000 in
set_option maxHeartbeats 2000000 in
theorem rest_any {G : (Nat → Prop) → List Th → World → Prop} {b : Nat} {Y : Nat → Prop} {L : List Th} {w : World} (h : MadeAt G b Y L w) (hL : L.length ≤ 1999) :
    Calls Try.prog 13 #[curV b] w (RestEnd G b Y L w) := by
  have q := eql_iface b
  have hm := method_nextN b
  have H0 := Lib.hid (show RsJ G b Y [] L w (.slice none 0 0) w from ⟨OwnTh.nil _ _, Upd.refl _ _, Y, fun x e => .inl e, h, fun k e => by cases e⟩)
  clear h
  go_enter Try.func13, Try.ntmps13
  go_wp2_with fail
  go_loopw [4, 5] (fun v i wr => ∃ n : Nat, n ≤ L.length ∧ i = .int .i64 n ∧ Hid (RsJ G b Y (L.take n) (L.drop n) w v wr)) (fun v i _ => 2000 - (intOf i).toNat)
  case atStart => exact ⟨0, Nat.zero_le _, rfl, H0⟩
  case round =>
    obtain ⟨n, hn, rfl, HJ⟩ := hrel
    obtain ⟨Y1, hs1, hm1, hk1⟩ := HJ.out.2.2
    have HS1 := Lib.hid hs1
    have HK1 := Lib.hid hk1
    have HC := Lib.hid (next_any hm1)
    clear hm1 hs1 hk1
    have hn2 : (n : Int) < 2000 := by omega
    go_wp2_with fail
    refine HC.out.mono ?_
    rintro e w1 ⟨rfl, hu, Y2, hs2, hm2⟩
    have HJ1 := Lib.hid (HJ.out.next HK1.out HS1.out hu hs2 hm2)
    clear hu hs2 hm2 HC
    obtain ⟨D, hD⟩ : ∃ D, D = L.drop n := ⟨_, rfl⟩
    rw [← hD] at HJ1 ⊢
    cases D with
    | cons x r =>
      have HE := Lib.hid (show n < L.length ∧ L.take n ++ [x] = L.take (n + 1) ∧ r = L.drop (n + 1) by
        have hlt : n < L.length := by
          have : 0 < (L.drop n).length := by rw [← hD]; simp
          rw [List.length_drop] at this; omega
        have hg := List.drop_eq_getElem_cons hlt
        rw [← hD] at hg
        injection hg with g1 g2
        exact ⟨hlt, by rw [g1]; exact (List.take_succ_eq_append_getElem hlt).symm, g2⟩)
      clear hD
      unfold headV
      have HJ2 := Lib.hid ((HJ1.out.alloc (.cells #[.int .i8 x.1, .int .i64 x.2] 28)).alloc (.cells #[.int .i8 x.1, .int .i64 x.2] 28))
      have HX := litTh_in (w1.alloc (.cells #[.int .i8 x.1, .int .i64 x.2] 28)) x.1 x.2
      rw [World.size_alloc] at HX
      have HX := Lib.hid HX
      have HT := Lib.hid (show (L.take n).length ≤ 1000000 by rw [List.length_take]; omega)
      go_wp2_with (at_builtin; refine wpList_appTh rfl (.tmp 31) (.tmp 33) rfl w.heap.size _ _ _ (L.take n) [x] rfl rfl HJ2.out.1 HX.out HT.out (by simp) HJ2.out.2.1.size ?_; rintro v3 w3 ho hg hv; have HJ3 := Lib.hid (HJ2.out.put ho hg hv); clear ho hg hv)
      go_roundw
      case rel => exact ⟨n + 1, HE.out.1, by simp, Lib.hid (by rw [← HE.out.2.1, ← HE.out.2.2]; exact HJ3.out)⟩
      case measure => simp [intOf]; omega
    | nil =>
      have HE := Lib.hid (show L.take n = L from List.take_of_length_le (List.drop_eq_nil_iff.1 hD.symm))
      clear hD
      unfold headV
      have HJ2 := Lib.hid (HJ1.out.alloc (.cells #[.int .i8 0, .int .i64 0] 28))
      obtain ⟨Y3, hs3, hm3, hk3⟩ := HJ2.out.2.2
      have HS3 := Lib.hid hs3
      have HK3 := Lib.hid hk3
      have HC2 := Lib.hid (next_any hm3)
      clear hs3 hm3 hk3
      go_wp2_with fail
      refine HC2.out.mono ?_
      rintro e w2 ⟨rfl, hu, Y4, hs4, hm4⟩
      have HJ4 := Lib.hid (HJ2.out.next HK3.out HS3.out hu hs4 hm4)
      clear hu hs4 hm4
      unfold headV
      go_wp2_with fail
      go_ret2
      have h5 := HJ4.out.alloc (.cells #[.int .i8 0, .int .i64 0] 28)
      rw [HE.out] at h5
      exact ⟨_, rfl, h5.1, h5.2⟩
end Go.Proofs.Ytcfnpbmkcdmafaa
