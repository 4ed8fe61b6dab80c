/-
  The laws' own functions: awake answers true; cut.
-/
import Derived.Test.YtiokdlomfmkkoaaDoorLxY
import Derived.Test.YtiokdlomfmkkoaaDoorLxZ
import Derived.Test.YtiokdlomfmkkoaaDoorLxJ
namespace Go.Proofs.YtiokdlomfmkkoaaDoor
open Go Go.RowKit

theorem WIn.take {S : Nat → Prop} {w : World} {p : Option Addr} {c n : Nat} {L : List Wd} (h : WIn S w (.slice p n c) L) (k : Nat) (hk : k ≤ L.length) : WIn S w (.slice p k c) (L.take k) := by
  obtain ⟨p', c', e, h1, h2, h3⟩ := h
  obtain ⟨rfl, rfl, rfl⟩ : p = p' ∧ n = L.length ∧ c = c' := by injection e with a b c; exact ⟨a, b, c⟩
  have hl : (L.take k).length = k := by rw [List.length_take]; omega
  refine ⟨p, c, by rw [hl], by omega, h2, ?_⟩
  rcases h3 with rfl | ⟨b, off, rfl, hb, hlt, hc⟩
  · exact .inl (by simp)
  · refine .inr ⟨b, off, rfl, hb, hlt, fun j hj i u hu => hc j (by omega) i u ?_⟩
    rw [List.getElem_take] at hu
    exact hu
/-- At most 3000 bytes are looked at. -/
def cutX (s : ByteArray) : ByteArray := if s.size ≤ 3000 then s else s.extract 0 3000
theorem cutX_size (s : ByteArray) : (cutX s).size ≤ 3000 := by
  unfold cutX
  split
  · assumption
  · rw [ByteArray.size_extract]; omega
set_option maxHeartbeats 400000 in
theorem lcut_any (s : ByteArray) (w : World) (hm : s.size ≤ maxLen) : Calls Tryd.prog 9 #[.string s] w fun e w' => e = .returned (.string (cutX s)) ∧ w = w' := by
  unfold maxLen at hm
  rcases Nat.lt_or_ge 3000 s.size with h | h
  · have HC := Lib.hid (show cutX s = s.extract 0 3000 by unfold cutX; rw [if_neg (by omega)])
    have h' : (3000 : Int) < (s.size : Int) := by omega
    go_enter Tryd.func9, Tryd.ntmps9
    go_wp2
    go_ret
    exact ⟨by rw [HC.out]; rfl, rfl⟩
  · have HC := Lib.hid (show cutX s = s by unfold cutX; rw [if_pos h])
    have h' : (s.size : Int) ≤ 3000 := by omega
    go_enter Tryd.func9, Tryd.ntmps9
    go_wp2
    go_ret
    exact ⟨by rw [HC.out]; rfl, rfl⟩
set_option maxHeartbeats 4000000 in
set_option maxRecDepth 100000 in
theorem awake_true (w : World) (G : Glob w) : Calls Tryd.prog 13 #[] w fun e w' => e = .returned (.bool true) ∧ Below w.heap.size w w' := by
  have HG := Lib.hid G
  have h1 := words_any ⟨#[112, 40, 88, 41, 32, 58, 45, 32, 113, 40, 88, 44, 32, 95, 41, 44, 32, 88, 32, 33, 61, 32, 45, 51, 46]⟩ w (by decide) G
  rw [show (⟨#[112, 40, 88, 41, 32, 58, 45, 32, 113, 40, 88, 44, 32, 95, 41, 44, 32, 88, 32, 33, 61, 32, 45, 51, 46]⟩ : ByteArray).data.toList = [112, 40, 88, 41, 32, 58, 45, 32, 113, 40, 88, 44, 32, 95, 41, 44, 32, 88, 32, 33, 61, 32, 45, 51, 46] from rfl, ex_words] at h1
  have H1 := Lib.hid h1
  clear h1 G
  have H2 : Hid (∀ W, Glob W → Calls Tryd.prog 10 #[.string ⟨#[97, 32, 63]⟩] W fun e w' => (∃ v, e = .returned (.tuple #[v, .int .i64 2, .int .i64 120]) ∧ OwnW W.heap.size w' v []) ∧ Below W.heap.size W w') := Lib.hid (fun W G => by
    have h := words_any ⟨#[97, 32, 63]⟩ W (by decide) G
    rw [show (⟨#[97, 32, 63]⟩ : ByteArray).data.toList = [97, 32, 63] from rfl, no_words] at h
    exact h)
  have f1 : (exW.length : Int) = 16 := rfl
  have f2 : exW[14].kind = 4 := rfl
  have f3 : exW[14].val.2.1 = -3 := rfl
  have f4 : exW[9].kind = 3 := rfl
  have HJ : Hid (∀ (v : Value) (S : Nat → Prop) (W : World), WIn S W v (exW.take 3) → (∀ k, S k → k < W.heap.size) → Calls Tryd.prog 16 #[v] W fun e w' => e = .returned (.string ⟨#[112, 32, 40, 32, 88]⟩) ∧ Below W.heap.size W w') := Lib.hid (fun v S W h hS => join_any v (exW.take 3) S W h hS (by decide) (by decide))
  go_enter Tryd.func13, Tryd.ntmps13
  go_wp2_with (first
    | (go_at_call 10; refine H1.out.mono ?_; rintro e w1 ⟨⟨v, rfl, ho⟩, hb⟩; have HB := Lib.hid hb; have HI := Lib.hid (ho.in_ (fun k => w.heap.size ≤ k ∧ k < w1.heap.size) (fun k e => ho.lt k e)); obtain ⟨p, c, e0, -⟩ := HI.out; subst e0; have H3 := Lib.hid (H2.out w1 (HG.out.below HB.out)); clear ho hb H1)
    | (go_at_call 10; refine H3.out.mono ?_; rintro e w2 ⟨⟨v2, rfl, -⟩, hb2⟩; have HB2 := Lib.hid hb2; have HI2 := Lib.hid (HI.out.keep hb2.size (S' := fun k => w.heap.size ≤ k ∧ k < w1.heap.size) (fun k e hk => ⟨e, hb2.block k e.2⟩)); have HT := Lib.hid (HI2.out.take 3 (by decide)); obtain ⟨b, off, e0, h1, h2, a0, -, -, a3, -, -⟩ := HI2.out.cells_at 14 (by decide); subst e0; obtain ⟨b', off', e1, -, -, d0, -, -, -, -, -⟩ := HI2.out.cells_at 9 (by decide); cases e1; clear hb2)
    | (go_at_call 16; refine (HJ.out _ _ _ HT.out (fun k e => Nat.lt_of_lt_of_le e.2 HB2.out.size)).mono ?_; rintro e w3 ⟨rfl, hb3⟩))
  go_ret
  exact ⟨rfl, (HB.out.trans (HB2.out.mono HB.out.size)).trans (hb3.mono (Nat.le_trans HB.out.size HB2.out.size))⟩
end Go.Proofs.YtiokdlomfmkkoaaDoor
