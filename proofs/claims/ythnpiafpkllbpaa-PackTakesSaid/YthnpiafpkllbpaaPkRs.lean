/-
  Contract of pack's reading of a symbol of a key.
-/
import Derived.Test.YthnpiafpkllbpaaPkRi
namespace Go.Proofs.Ythnpiafpkllbpaa
open Go Go.RowKit

/-- How many bytes are still to be read. -/
def restN (w : World) (R : Nat) : Nat := match w.cell? ⟨R, 0, none⟩ with | some (.slice _ n _) => n | _ => 0
theorem RestAt.n {n₀ : Nat} {w : World} {R : Nat} {l : List UInt8} (h : RestAt n₀ w R l) : restN w R = l.length := by
  obtain ⟨-, p, cap, hb, -⟩ := h
  unfold restN
  rw [cell_of_row w R 0 _ _ (0, 0) hb]
  rfl
theorem KeepR.trans {R : Nat} {a b c : World} (h : KeepR R a b) (k : KeepR R b c) : KeepR R a c := World.grownBy.trans h k
theorem KeepR.below {R : Nat} {a b c : World} (h : KeepR R a b) (k : Below a.heap.size b c) : KeepR R a c :=
  ⟨k.os.trans h.os, k.tape.trans h.tape, k.output.trans h.output, Nat.le_trans h.size k.size, fun i hi hr => (k.block i hi).trans (h.block i hi hr)⟩
theorem RestAt.below {n₀ B : Nat} {w w' : World} {R : Nat} {l : List UInt8} (h : RestAt n₀ w R l) (hb : Below B w w') (hB : R < B) : RestAt n₀ w' R l := by
  obtain ⟨hR, p, cap, h1, h2, h3, h4⟩ := h
  exact ⟨hR, p, cap, (hb.block R hB).trans h1, h2, h3, h4.below (hb.mono (by omega))⟩
theorem OwnB.keep {B : Nat} {w w' : World} {v : Value} {l : List UInt8} {R : Nat} (h : OwnB B w v l) (hk : KeepR R w w') (hR : R < B) : OwnB B w' v l := by
  refine ⟨h.1, ?_⟩
  rcases h.2 with hn | ⟨g, cap, cur, rfl, hB, hg, rest⟩
  · exact .inl hn
  · exact .inr ⟨g, cap, cur, rfl, hB, (hk.block g (Array.getElem?_eq_some_iff.1 hg).1 (by intro e; injection e with e; omega)).trans hg, rest⟩
theorem symP_one (c : UInt8) (acc : List UInt8) : symP [c] acc = none := rfl
theorem zero_of {c : UInt8} {n : Int} (h : ((c.toNat : Int) == n) = true) (hn : 0 ≤ n ∧ n ≤ 255) : c = UInt8.ofNat n.toNat := by
  have h' : (c.toNat : Int) = n := by simpa using h
  apply UInt8.toNat_inj.1
  rw [UInt8.toNat_ofNat', Nat.mod_eq_of_lt (by omega)]
  omega
theorem other_of {c : UInt8} {n : Int} (h : ((c.toNat : Int) == n) = false) (d : UInt8) (hd : (d.toNat : Int) = n) : c ≠ d := by
  rintro rfl
  simp [hd] at h

set_option maxHeartbeats 2000000 in
set_option maxRecDepth 100000 in
theorem rdSym_any (n₀ R : Nat) (l : List UInt8) (w : World) (h : RestAt n₀ w R l) : Calls Try.prog 59 #[.pointer (some ⟨R, 0, none⟩)] w (ReadEnd (fun s _ v => v = .string ⟨s.toArray⟩) n₀ R (symP l []) w) := by
  have H := Lib.hid h
  have hRlt := h.lt
  clear h
  go_enter Try.func59, Try.ntmps59
  go_wp2_with fail
  go_loopw [3] (fun v wr => ∃ acc l', Hid (symP l [] = symP l' acc ∧ OwnB w.heap.size wr v acc ∧ RestAt n₀ wr R l' ∧ KeepR R w wr ∧ acc.length ≤ 256)) (fun _ wr => restN wr R)
  case atStart => exact ⟨[], l, Lib.hid ⟨rfl, OwnB.nil _ _, H.out, keep_refl _ _, by simp⟩⟩
  case round =>
    obtain ⟨acc, l', HI⟩ := hrel
    obtain ⟨p, cap, rfl⟩ := HI.out.2.1.in_.shape
    have hlen := HI.out.2.2.2.2
    have hlen' : (acc.length : Int) ≤ 256 := by omega
    have HN := Lib.hid HI.out.2.2.1.n
    go_wp2_with fail
    refine (one_any n₀ R l' wr HI.out.2.2.1).mono ?_
    rintro e w1 (⟨c, r, rfl, rfl, hr, hk⟩ | ⟨rfl, rfl, hk⟩)
    rotate_left
    · have HK := Lib.hid (HI.out.2.2.2.1.trans hk)
      clear hk
      go_wp2_with fail
      exact ⟨rfl, HK.out, .inr ⟨HI.out.1, rfl⟩⟩
    have HK := Lib.hid (HI.out.2.2.2.1.trans hk)
    have HO := Lib.hid (HI.out.2.1.keep hk hRlt)
    have HR := Lib.hid hr
    clear hk hr
    cases hc : ((c.toNat : Int) == 0) with
    | true =>
      obtain rfl := zero_of hc (by decide)
      clear hc
      go_wp2_with fail
      refine (one_any n₀ R r w1 HR.out).mono ?_
      rintro e w2 (⟨d, r2, rfl, rfl, hr, hk⟩ | ⟨rfl, rfl, hk⟩)
      rotate_left
      · have HK2 := Lib.hid (HK.out.trans hk)
        clear hk
        go_wp2_with fail
        exact ⟨rfl, HK2.out, .inr ⟨HI.out.1.trans (symP_one _ _), rfl⟩⟩
      have HK2 := Lib.hid (HK.out.trans hk)
      have HO2 := Lib.hid (HO.out.keep hk hRlt)
      have HR2 := Lib.hid hr
      clear hk hr
      have HS : Hid (symP l [] = if d = 1 then some (acc, r2) else if d = 255 then (if acc.length = 256 then none else symP r2 (acc ++ [0])) else none) := Lib.hid HI.out.1
      cases h1 : ((d.toNat : Int) == 1) with
      | true =>
        obtain rfl := zero_of h1 (by decide)
        clear h1
        have hcv := run_str w2 _ _ _ HO2.out.in_
        have hS : symP l [] = some (acc, r2) := HS.out
        have HS' := Lib.hid hS
        clear hS
        go_wp2_with fail
        go_ret
        exact ⟨HK2.out, .inl ⟨_, _, _, HS'.out, rfl, rfl, HR2.out⟩⟩
      | false =>
        have hd1 := other_of h1 1 rfl
        cases h2 : ((d.toNat : Int) == 255) with
        | false =>
          have hd2 := other_of h2 255 rfl
          have HS' : Hid (symP l [] = none) := Lib.hid (by rw [HS.out, if_neg hd1, if_neg hd2])
          clear hd1 hd2
          go_wp2_with fail
          exact ⟨rfl, HK2.out, .inr ⟨HS'.out, rfl⟩⟩
        | true =>
          obtain rfl := zero_of h2 (by decide)
          clear hd1 h2 h1
          by_cases h6 : acc.length = 256
          · have h6' : (acc.length : Int) = 256 := by omega
            have HS' : Hid (symP l [] = none) := Lib.hid (by rw [HS.out, if_neg (by decide), if_pos (by decide), if_pos h6])
            go_wp2_with fail
            exact ⟨rfl, HK2.out, .inr ⟨HS'.out, rfl⟩⟩
          · have h6' : ((acc.length : Int) == 256) = false := by simp; omega
            have HS' : Hid (symP l [] = symP r2 (acc ++ [0])) := Lib.hid (by rw [HS.out, if_neg (by decide), if_pos (by decide), if_neg h6])
            have HL : Hid (acc.length < 256) := Lib.hid (by omega)
            go_wp2_with (at_builtin; refine wpList_app rfl (.tmp 26) (.tmp 28) rfl w.heap.size (w2.heap.size + 1) w2 _ _ acc [0] rfl rfl (HO2.out.alloc _) (BytIn.lit w2 _ _ 1 rfl (bytesV_single rfl)) (by have := HL.out; simp only [List.length_singleton]; omega) ((Below.refl _ _).alloc HK2.out.size _) HK2.out.size ?_; intro v3 w3 ho hb)
            have HB := Lib.hid hb
            have HO3 := Lib.hid ho
            clear ho hb
            go_roundw
            case rel => exact ⟨_, _, Lib.hid ⟨HS'.out, HO3.out, HR2.out.below HB.out hRlt, HK2.out.below HB.out, by have := HL.out; simp; omega⟩⟩
            case measure => rw [(HR2.out.below HB.out hRlt).n, HN.out]; simp; omega
    | false =>
      have hcz := other_of hc 0 rfl
      have HS : Hid (symP l [] = if acc.length = 256 then none else symP r (acc ++ [c])) := Lib.hid (by
        rw [HI.out.1]
        cases r with
        | nil => rw [symP_one]; split <;> rfl
        | cons d r => rw [symP, if_neg hcz])
      clear hcz
      by_cases h6 : acc.length = 256
      · have h6' : (acc.length : Int) = 256 := by omega
        have HS' : Hid (symP l [] = none) := Lib.hid (by rw [HS.out, if_pos h6])
        go_wp2_with fail
        exact ⟨rfl, HK.out, .inr ⟨HS'.out, rfl⟩⟩
      · have h6' : ((acc.length : Int) == 256) = false := by simp; omega
        have HS' : Hid (symP l [] = symP r (acc ++ [c])) := Lib.hid (by rw [HS.out, if_neg h6])
        have HL : Hid (acc.length < 256) := Lib.hid (by omega)
        go_wp2_with (at_builtin; refine wpList_app rfl (.tmp 26) (.tmp 28) rfl w.heap.size (w1.heap.size + 1) w1 _ _ acc [c] rfl rfl (HO.out.alloc _) (BytIn.lit w1 _ _ 1 rfl (bytesV_single rfl)) (by have := HL.out; simp only [List.length_singleton]; omega) ((Below.refl _ _).alloc HK.out.size _) HK.out.size ?_; intro v3 w3 ho hb)
        have HB := Lib.hid hb
        have HO3 := Lib.hid ho
        clear ho hb
        go_roundw
        case rel => exact ⟨_, _, Lib.hid ⟨HS'.out, HO3.out, HR.out.below HB.out hRlt, HK.out.below HB.out, by have := HL.out; simp; omega⟩⟩
        case measure => rw [(HR.out.below HB.out hRlt).n, HN.out]; simp
end Go.Proofs.Ythnpiafpkllbpaa
