/-
  Contract of pack's reading of the keys of a tuple, and of pack.FromKey.
-/
import Derived.Test.YthnpiafpkllbpaaPkRk
namespace Go.Proofs.Ythnpiafpkllbpaa
open Go Go.RowKit

theorem keyP_len {l r : List UInt8} {x : V3} (h : keyP l = some (x, r)) : r.length < l.length := by
  cases l with
  | nil => cases h
  | cons c l =>
    rw [keyP] at h
    split at h
    · split at h
      · simp at h; obtain ⟨-, rfl⟩ := h; simp; omega
      · cases h
    · split at h
      · rw [symP_eq l [] (by simp)] at h
        cases e : symR l [] with
        | none => rw [e] at h; cases h
        | some y =>
          rw [e] at h
          obtain ⟨s, r2⟩ := y
          have h1 := (symR_len l [] s r2 e).1
          by_cases h2 : s.length ≤ 256
          · simp [h2] at h
            obtain ⟨-, rfl⟩ := h
            simp; omega
          · simp [h2] at h
      · cases h
theorem OwnR.keep {B : Nat} {w w' : World} {v : Value} {T : List V3} {R : Nat} (h : OwnR B w v T) (hk : KeepR R w w') (hR : R < B) : OwnR B w' v T := by
  refine ⟨h.1, ?_⟩
  rcases h.2 with hn | ⟨g, cap, cur, rfl, hB, hg, rest⟩
  · exact .inl hn
  · exact .inr ⟨g, cap, cur, rfl, hB, (hk.block g (Array.getElem?_eq_some_iff.1 hg).1 (by intro e; injection e with e; omega)).trans hg, rest⟩
theorem keysP_step {f : Nat} {c : UInt8} {r : List UInt8} {acc : List V3} (hf : (c :: r).length ≤ f) : ∃ g, r.length ≤ g ∧ f = g + 1 ∧ keysP f (c :: r) acc = if acc.length = 8 then none else match keyP (c :: r) with | some (v, r') => keysP g r' (acc ++ [v]) | none => none := by
  cases f with
  | zero => simp at hf
  | succ g => exact ⟨g, by simpa using hf, rfl, rfl⟩
theorem keysP_nil (f : Nat) (acc : List V3) : keysP f [] acc = some acc := by cases f <;> rfl

set_option maxHeartbeats 2000000 in
set_option maxRecDepth 100000 in
theorem rdKeys_any (n₀ R : Nat) (l : List UInt8) (w : World) (h : RestAt n₀ w R l) : Calls Try.prog 45 #[.pointer (some ⟨R, 0, none⟩)] w (ReadEnd (fun T W' v => OwnR w.heap.size W' v T) n₀ R ((keysP l.length l []).map fun T => (T, [])) w) := by
  have H := Lib.hid h
  have hRlt := h.lt
  clear h
  go_enter Try.func45, Try.ntmps45
  go_wp2_with fail
  go_loopw [3] (fun v wr => ∃ acc l' f, Hid (keysP l.length l [] = keysP f l' acc ∧ l'.length ≤ f ∧ OwnR w.heap.size wr v acc ∧ RestAt n₀ wr R l' ∧ KeepR R w wr ∧ acc.length ≤ 8)) (fun _ wr => restN wr R)
  case atStart => exact ⟨[], l, l.length, Lib.hid ⟨rfl, Nat.le_refl _, OwnR.nil _ _, H.out, keep_refl _ _, by simp⟩⟩
  case round =>
    obtain ⟨acc, l', f, HI⟩ := hrel
    have h8 := HI.out.2.2.2.2.2
    obtain ⟨p, cap, rfl, -⟩ := HI.out.2.2.1.in_ (by omega)
    have hlen' : (acc.length : Int) ≤ 8 := by omega
    have HN := Lib.hid HI.out.2.2.2.1.n
    obtain ⟨-, p', cap', hb, hlc, hcm, -⟩ := HI.out.2.2.2.1
    have cR : wr.cell? ⟨R, 0, none⟩ = some (.slice p' l'.length cap') := cell_of_row wr R 0 _ _ (0, 0) hb
    clear hb hlc hcm
    cases l' with
    | nil =>
      have HS : Hid (keysP l.length l [] = some acc) := Lib.hid (HI.out.1.trans (keysP_nil f acc))
      go_wp2_with fail
      go_ret
      exact ⟨HI.out.2.2.2.2.1, .inl ⟨acc, [], _, by rw [HS.out]; rfl, rfl, HI.out.2.2.1, HI.out.2.2.2.1⟩⟩
    | cons c r =>
      obtain ⟨g, hg, -, hs⟩ := keysP_step (acc := acc) HI.out.2.1
      have HS := Lib.hid (HI.out.1.trans hs)
      have hr0 : (0 : Int) ≤ (r.length : Int) := by omega
      clear hs
      by_cases h6 : acc.length = 8
      · have h6' : (acc.length : Int) = 8 := by omega
        have HS' : Hid (keysP l.length l [] = none) := Lib.hid (by rw [HS.out, if_pos h6])
        go_wp2_with fail
        exact ⟨rfl, HI.out.2.2.2.2.1, .inr ⟨by rw [HS'.out]; rfl, rfl⟩⟩
      · have h6' : ((acc.length : Int) == 8) = false := by simp; omega
        go_wp2_with fail
        refine (rdKey_any n₀ R (c :: r) wr HI.out.2.2.2.1).mono ?_
        rintro e w2 ⟨hk, ⟨x, r', v, ho, rfl, hv, hr⟩ | ⟨ho, rfl⟩⟩
        · unfold aggV at hv
          subst hv
          have HK := Lib.hid (HI.out.2.2.2.2.1.trans hk)
          have HO := Lib.hid (HI.out.2.2.1.keep hk hRlt)
          have HR := Lib.hid hr
          have HL := Lib.hid (keyP_len ho)
          have HS' : Hid (keysP l.length l [] = keysP g r' (acc ++ [x])) := Lib.hid (by rw [HS.out, if_neg h6, ho])
          have H8 : Hid (acc.length < 8) := Lib.hid (by omega)
          clear hk hr ho
          go_wp2_with (at_builtin; refine wpList_appT rfl (.tmp 14) (.tmp 17) rfl w.heap.size (w2.heap.size + 1) w2 _ _ acc [x] rfl rfl (HO.out.alloc _) (lit_in w2 x) (by have := H8.out; omega) ((Below.refl _ _).alloc HK.out.size _) HK.out.size ?_; intro v3 w3 ho hb)
          have HB := Lib.hid hb
          have HO3 := Lib.hid ho
          clear ho hb
          go_roundw
          case rel => exact ⟨_, _, g, Lib.hid ⟨HS'.out, by have := HL.out; simp at this; omega, HO3.out, HR.out.below HB.out hRlt, HK.out.below HB.out, by have := H8.out; simp; omega⟩⟩
          case measure => rw [(HR.out.below HB.out hRlt).n, HN.out]; exact HL.out
        · have HK := Lib.hid (HI.out.2.2.2.2.1.trans hk)
          have HS' : Hid (keysP l.length l [] = none) := Lib.hid (by rw [HS.out, if_neg h6, ho])
          clear hk ho
          go_wp2_with fail
          exact ⟨rfl, HK.out, .inr ⟨by rw [HS'.out]; rfl, rfl⟩⟩
end Go.Proofs.Ythnpiafpkllbpaa
