/-
  Contract of pack's reading of a symbol of a key.
  Contract of pack's reading of a value of a key.
  Contract of pack's reading of the keys of a tuple, and of pack.FromKey.
-/
import Derived.Test.YtdjhfcopnhcljaaGreatDoorW14
namespace Go.Proofs.YtdjhfcopnhcljaaGreatDoor
section
open Go Go.RowKit

/-- How many bytes are still to be read. -/
def restN (w : World) (R : Nat) : Nat := match w.cell? ⟨R, 0, none⟩ with | some (.slice _ n _) => n | _ => 0
theorem RestAt.n {n₀ : Nat} {w : World} {R : Nat} {l : List UInt8} (h : RestAt n₀ w R l) : restN w R = l.length := by
  obtain ⟨-, p, cap, hb, -⟩ := h
  unfold restN
  rw [cell_of_row w R 0 _ _ (0, 0) hb]
  rfl
theorem KeepR.trans {R : Nat} {a b c : World} (h : KeepR R a b) (k : KeepR R b c) : KeepR R a c := World.grownBy.trans h k
theorem KeepR.below {R : Nat} {a b c : World} (h : KeepR R a b) (k : Below a.heap.size b c) : KeepR R a c :=
  ⟨k.os.trans h.os, k.tape.trans h.tape, k.output.trans h.output, Nat.le_trans h.size k.size, fun i hi hr => (k.block i hi).trans (h.block i hi hr)⟩
theorem RestAt.below {n₀ B : Nat} {w w' : World} {R : Nat} {l : List UInt8} (h : RestAt n₀ w R l) (hb : Below B w w') (hB : R < B) : RestAt n₀ w' R l := by
  obtain ⟨hR, p, cap, h1, h2, h3, h4⟩ := h
  exact ⟨hR, p, cap, (hb.block R hB).trans h1, h2, h3, h4.below (hb.mono (by omega))⟩
theorem OwnB.keep {B : Nat} {w w' : World} {v : Value} {l : List UInt8} {R : Nat} (h : OwnB B w v l) (hk : KeepR R w w') (hR : R < B) : OwnB B w' v l := by
  refine ⟨h.1, ?_⟩
  rcases h.2 with hn | ⟨g, cap, cur, rfl, hB, hg, rest⟩
  · exact .inl hn
  · exact .inr ⟨g, cap, cur, rfl, hB, (hk.block g (Array.getElem?_eq_some_iff.1 hg).1 (by intro e; injection e with e; omega)).trans hg, rest⟩
theorem symP_one (c : UInt8) (acc : List UInt8) : symP [c] acc = none := rfl
theorem zero_of {c : UInt8} {n : Int} (h : ((c.toNat : Int) == n) = true) (hn : 0 ≤ n ∧ n ≤ 255) : c = UInt8.ofNat n.toNat := by
  have h' : (c.toNat : Int) = n := by simpa using h
  apply UInt8.toNat_inj.1
  rw [UInt8.toNat_ofNat', Nat.mod_eq_of_lt (by omega)]
  omega
theorem other_of {c : UInt8} {n : Int} (h : ((c.toNat : Int) == n) = false) (d : UInt8) (hd : (d.toNat : Int) = n) : c ≠ d := by
  rintro rfl
  simp [hd] at h

set_option maxHeartbeats 2000000 in
set_option maxRecDepth 100000 in
theorem rdSym_any (n₀ R : Nat) (l : List UInt8) (w : World) (h : RestAt n₀ w R l) : Calls Tryz.prog 214 #[.pointer (some ⟨R, 0, none⟩)] w (ReadEnd (fun s _ v => v = .string ⟨s.toArray⟩) n₀ R (symP l []) w) := by
  have H := Lib.hid h
  have hRlt := h.lt
  clear h
  go_enter Tryz.func214, Tryz.ntmps214
  go_wp2_with fail
  go_loopw [3] (fun v wr => ∃ acc l', Hid (symP l [] = symP l' acc ∧ OwnB w.heap.size wr v acc ∧ RestAt n₀ wr R l' ∧ KeepR R w wr ∧ acc.length ≤ 256)) (fun _ wr => restN wr R)
  case atStart => exact ⟨[], l, Lib.hid ⟨rfl, OwnB.nil _ _, H.out, keep_refl _ _, by simp⟩⟩
  case round =>
    obtain ⟨acc, l', HI⟩ := hrel
    obtain ⟨p, cap, rfl⟩ := HI.out.2.1.in_.shape
    have hlen := HI.out.2.2.2.2
    have hlen' : (acc.length : Int) ≤ 256 := by omega
    have HN := Lib.hid HI.out.2.2.1.n
    go_wp2_with fail
    refine (one_any n₀ R l' wr HI.out.2.2.1).mono ?_
    rintro e w1 (⟨c, r, rfl, rfl, hr, hk⟩ | ⟨rfl, rfl, hk⟩)
    rotate_left
    · have HK := Lib.hid (HI.out.2.2.2.1.trans hk)
      clear hk
      go_wp2_with fail
      exact ⟨rfl, HK.out, .inr ⟨HI.out.1, rfl⟩⟩
    have HK := Lib.hid (HI.out.2.2.2.1.trans hk)
    have HO := Lib.hid (HI.out.2.1.keep hk hRlt)
    have HR := Lib.hid hr
    clear hk hr
    cases hc : ((c.toNat : Int) == 0) with
    | true =>
      obtain rfl := zero_of hc (by decide)
      clear hc
      go_wp2_with fail
      refine (one_any n₀ R r w1 HR.out).mono ?_
      rintro e w2 (⟨d, r2, rfl, rfl, hr, hk⟩ | ⟨rfl, rfl, hk⟩)
      rotate_left
      · have HK2 := Lib.hid (HK.out.trans hk)
        clear hk
        go_wp2_with fail
        exact ⟨rfl, HK2.out, .inr ⟨HI.out.1.trans (symP_one _ _), rfl⟩⟩
      have HK2 := Lib.hid (HK.out.trans hk)
      have HO2 := Lib.hid (HO.out.keep hk hRlt)
      have HR2 := Lib.hid hr
      clear hk hr
      have HS : Hid (symP l [] = if d = 1 then some (acc, r2) else if d = 255 then (if acc.length = 256 then none else symP r2 (acc ++ [0])) else none) := Lib.hid HI.out.1
      cases h1 : ((d.toNat : Int) == 1) with
      | true =>
        obtain rfl := zero_of h1 (by decide)
        clear h1
        have hcv := run_str w2 _ _ _ HO2.out.in_
        have hS : symP l [] = some (acc, r2) := HS.out
        have HS' := Lib.hid hS
        clear hS
        go_wp2_with fail
        go_ret
        exact ⟨HK2.out, .inl ⟨_, _, _, HS'.out, rfl, rfl, HR2.out⟩⟩
      | false =>
        have hd1 := other_of h1 1 rfl
        cases h2 : ((d.toNat : Int) == 255) with
        | false =>
          have hd2 := other_of h2 255 rfl
          have HS' : Hid (symP l [] = none) := Lib.hid (by rw [HS.out, if_neg hd1, if_neg hd2])
          clear hd1 hd2
          go_wp2_with fail
          exact ⟨rfl, HK2.out, .inr ⟨HS'.out, rfl⟩⟩
        | true =>
          obtain rfl := zero_of h2 (by decide)
          clear hd1 h2 h1
          by_cases h6 : acc.length = 256
          · have h6' : (acc.length : Int) = 256 := by omega
            have HS' : Hid (symP l [] = none) := Lib.hid (by rw [HS.out, if_neg (by decide), if_pos (by decide), if_pos h6])
            go_wp2_with fail
            exact ⟨rfl, HK2.out, .inr ⟨HS'.out, rfl⟩⟩
          · have h6' : ((acc.length : Int) == 256) = false := by simp; omega
            have HS' : Hid (symP l [] = symP r2 (acc ++ [0])) := Lib.hid (by rw [HS.out, if_neg (by decide), if_pos (by decide), if_neg h6])
            have HL : Hid (acc.length < 256) := Lib.hid (by omega)
            go_wp2_with (at_builtin; refine wpList_app rfl (.tmp 26) (.tmp 28) rfl w.heap.size (w2.heap.size + 1) w2 _ _ acc [0] rfl rfl (HO2.out.alloc _) (BytIn.lit w2 _ _ 1 rfl (bytesV_single rfl)) (by have := HL.out; simp only [List.length_singleton]; omega) ((Below.refl _ _).alloc HK2.out.size _) HK2.out.size ?_; intro v3 w3 ho hb)
            have HB := Lib.hid hb
            have HO3 := Lib.hid ho
            clear ho hb
            go_roundw
            case rel => exact ⟨_, _, Lib.hid ⟨HS'.out, HO3.out, HR2.out.below HB.out hRlt, HK2.out.below HB.out, by have := HL.out; simp; omega⟩⟩
            case measure => rw [(HR2.out.below HB.out hRlt).n, HN.out]; simp; omega
    | false =>
      have hcz := other_of hc 0 rfl
      have HS : Hid (symP l [] = if acc.length = 256 then none else symP r (acc ++ [c])) := Lib.hid (by
        rw [HI.out.1]
        cases r with
        | nil => rw [symP_one]; split <;> rfl
        | cons d r => rw [symP, if_neg hcz])
      clear hcz
      by_cases h6 : acc.length = 256
      · have h6' : (acc.length : Int) = 256 := by omega
        have HS' : Hid (symP l [] = none) := Lib.hid (by rw [HS.out, if_pos h6])
        go_wp2_with fail
        exact ⟨rfl, HK.out, .inr ⟨HS'.out, rfl⟩⟩
      · have h6' : ((acc.length : Int) == 256) = false := by simp; omega
        have HS' : Hid (symP l [] = symP r (acc ++ [c])) := Lib.hid (by rw [HS.out, if_neg h6])
        have HL : Hid (acc.length < 256) := Lib.hid (by omega)
        go_wp2_with (at_builtin; refine wpList_app rfl (.tmp 26) (.tmp 28) rfl w.heap.size (w1.heap.size + 1) w1 _ _ acc [c] rfl rfl (HO.out.alloc _) (BytIn.lit w1 _ _ 1 rfl (bytesV_single rfl)) (by have := HL.out; simp only [List.length_singleton]; omega) ((Below.refl _ _).alloc HK.out.size _) HK.out.size ?_; intro v3 w3 ho hb)
        have HB := Lib.hid hb
        have HO3 := Lib.hid ho
        clear ho hb
        go_roundw
        case rel => exact ⟨_, _, Lib.hid ⟨HS'.out, HO3.out, HR.out.below HB.out hRlt, HK.out.below HB.out, by have := HL.out; simp; omega⟩⟩
        case measure => rw [(HR.out.below HB.out hRlt).n, HN.out]; simp
end
section
open Go Go.RowKit

theorem keyP_int (r : List UInt8) : keyP (1 :: r) = (intP r).map fun x => (⟨1, x.1, ⟨#[]⟩⟩, x.2) := by
  rw [keyP, if_pos rfl]
  unfold intP
  by_cases h : 8 ≤ r.length
  · rw [if_pos h, if_pos h]; rfl
  · rw [if_neg h, if_neg h]; rfl
theorem keyP_sym (r : List UInt8) : keyP (2 :: r) = (symP r []).map fun x => (symV x.1, x.2) := by
  rw [keyP, if_neg (by decide), if_pos rfl]
  cases symP r [] <;> rfl
theorem keyP_none {c : UInt8} (r : List UInt8) (h1 : c ≠ 1) (h2 : c ≠ 2) : keyP (c :: r) = none := by
  rw [keyP, if_neg h1, if_neg h2]
theorem RestAt.alloc {n₀ : Nat} {w : World} {R : Nat} {l : List UInt8} (h : RestAt n₀ w R l) (o : Obj) : RestAt n₀ (w.alloc o) R l := h.below ((Below.refl w.heap.size w).alloc (Nat.le_refl _) o) h.lt
theorem keep_alloc (R : Nat) (w : World) (o : Obj) : KeepR R w (w.alloc o) := (keep_refl R w).below ((Below.refl _ _).alloc (Nat.le_refl _) o)
/-- The new block's cells, after readings. -/
theorem new_cells {R : Nat} {w w1 : World} {x y z : Value} {t : TypeId} (hk : KeepR R (w.alloc (.cells #[x, y, z] t)) w1) (hR : R < w.heap.size) :
    w1.cell? ⟨w.heap.size, 0, none⟩ = some x ∧ w1.cell? ⟨w.heap.size, 1, none⟩ = some y ∧ w1.cell? ⟨w.heap.size, 2, none⟩ = some z ∧ w1.frozen? ⟨w.heap.size, 0, none⟩ = false ∧ w1.frozen? ⟨w.heap.size, 1, none⟩ = false ∧ w1.frozen? ⟨w.heap.size, 2, none⟩ = false ∧ w.heap.size < w1.heap.size := by
  have hb := (hk.block w.heap.size (by simp) (by intro e; injection e with e; omega)).trans (heap_alloc_new w _)
  exact ⟨cell_of_row w1 _ 0 _ _ (0, 0) hb, cell_of_row w1 _ 1 _ _ (0, 0) hb, cell_of_row w1 _ 2 _ _ (0, 0) hb, frozen_of_row w1 _ 0 _ _ hb, frozen_of_row w1 _ 1 _ _ hb, frozen_of_row w1 _ 2 _ _ hb, (Array.getElem?_eq_some_iff.1 hb).1⟩
theorem below_sets (B : Nat) (w : World) (x y z : Value) : Below B w (((w.setCell ⟨B, 0, none⟩ x).setCell ⟨B, 1, none⟩ y).setCell ⟨B, 2, none⟩ z) :=
  (((Below.refl B w).setCell (p := ⟨B, 0, none⟩) (Nat.le_refl _) x).setCell (p := ⟨B, 1, none⟩) (Nat.le_refl _) y).setCell (p := ⟨B, 2, none⟩) (Nat.le_refl _) z
def aggV (x : V3) : Value := .agg #[.int .i64 x.k, .int .i64 x.n, .string x.s]

set_option maxHeartbeats 2000000 in
set_option maxRecDepth 100000 in
theorem rdKey_any (n₀ R : Nat) (l : List UInt8) (w : World) (h : RestAt n₀ w R l) : Calls Tryz.prog 210 #[.pointer (some ⟨R, 0, none⟩)] w (ReadEnd (fun x _ v => v = aggV x) n₀ R (keyP l) w) := by
  have H := Lib.hid h
  have hRlt := h.lt
  clear h
  have K0 := Lib.hid (keep_alloc R w (.cells #[.int .i64 0, .int .i64 0, .string ⟨#[]⟩] 92))
  go_enter Tryz.func210, Tryz.ntmps210
  go_wp2_with fail
  refine (one_any n₀ R l _ (H.out.alloc _)).mono ?_
  rintro e w1 (⟨c, r, rfl, rfl, hr, hk⟩ | ⟨rfl, rfl, hk⟩)
  rotate_left
  · have HK := Lib.hid (K0.out.trans hk)
    clear hk
    go_wp2_with fail
    exact ⟨rfl, HK.out, .inr ⟨rfl, rfl⟩⟩
  have HK := Lib.hid hk
  have HR := Lib.hid hr
  clear hk hr
  cases h1 : ((c.toNat : Int) == 1) with
  | true =>
    obtain rfl := zero_of h1 (by decide)
    clear h1
    go_wp2_with fail
    refine (rdInt_any n₀ R r w1 HR.out).mono ?_
    rintro e w2 ⟨hk, ⟨x, r', v, ho, rfl, rfl, hr⟩ | ⟨ho, rfl⟩⟩
    · have HK2 := Lib.hid (HK.out.trans hk)
      have HR2 := Lib.hid hr
      have HO := Lib.hid ho
      clear hk hr ho
      obtain ⟨c0, c1, c2, f0, f1, f2, hlt⟩ := new_cells HK2.out hRlt
      go_wp2_with fail
      exact bodyPost_ret (v := aggV ⟨1, x, ⟨#[]⟩⟩) (by simp [results, Tryz.results210, go_sem, aggV, c0, c1, c2]) rfl ⟨(K0.out.trans HK2.out).below (below_sets _ _ _ _ _), .inl ⟨⟨1, x, ⟨#[]⟩⟩, r', _, (keyP_int r).trans (by rw [HO.out]; rfl), rfl, rfl, HR2.out.below (below_sets _ _ _ _ _) hRlt⟩⟩
    · have HK2 := Lib.hid ((K0.out.trans HK.out).trans hk)
      have HO := Lib.hid ho
      clear hk ho
      go_wp2_with fail
      exact ⟨rfl, HK2.out, .inr ⟨(keyP_int r).trans (by rw [HO.out]; rfl), rfl⟩⟩
  | false =>
    have hc1 := other_of h1 1 rfl
    cases h2 : ((c.toNat : Int) == 2) with
    | true =>
      obtain rfl := zero_of h2 (by decide)
      clear h1 h2 hc1
      go_wp2_with fail
      refine (rdSym_any n₀ R r w1 HR.out).mono ?_
      rintro e w2 ⟨hk, ⟨x, r', v, ho, rfl, rfl, hr⟩ | ⟨ho, rfl⟩⟩
      · have HK2 := Lib.hid (HK.out.trans hk)
        have HR2 := Lib.hid hr
        have HO := Lib.hid ho
        clear hk hr ho
        obtain ⟨c0, c1, c2, f0, f1, f2, hlt⟩ := new_cells HK2.out hRlt
        go_wp2_with fail
        exact bodyPost_ret (v := aggV (symV x)) (by simp [results, Tryz.results210, go_sem, aggV, symV, c0, c1, c2]) rfl ⟨(K0.out.trans HK2.out).below (below_sets _ _ _ _ _), .inl ⟨symV x, r', _, (keyP_sym r).trans (by rw [HO.out]; rfl), rfl, rfl, HR2.out.below (below_sets _ _ _ _ _) hRlt⟩⟩
      · have HK2 := Lib.hid ((K0.out.trans HK.out).trans hk)
        have HO := Lib.hid ho
        clear hk ho
        go_wp2_with fail
        exact ⟨rfl, HK2.out, .inr ⟨(keyP_sym r).trans (by rw [HO.out]; rfl), rfl⟩⟩
    | false =>
      have hc2 := other_of h2 2 rfl
      have HS : Hid (keyP (c :: r) = none) := Lib.hid (keyP_none r hc1 hc2)
      have HK2 := Lib.hid (K0.out.trans HK.out)
      clear hc1 hc2
      go_wp2_with fail
      exact ⟨rfl, HK2.out, .inr ⟨HS.out, rfl⟩⟩
end
section
open Go Go.RowKit

theorem keyP_len {l r : List UInt8} {x : V3} (h : keyP l = some (x, r)) : r.length < l.length := by
  cases l with
  | nil => cases h
  | cons c l =>
    rw [keyP] at h
    split at h
    · split at h
      · simp at h; obtain ⟨-, rfl⟩ := h; simp; omega
      · cases h
    · split at h
      · rw [symP_eq l [] (by simp)] at h
        cases e : symR l [] with
        | none => rw [e] at h; cases h
        | some y =>
          rw [e] at h
          obtain ⟨s, r2⟩ := y
          have h1 := (symR_len l [] s r2 e).1
          by_cases h2 : s.length ≤ 256
          · simp [h2] at h
            obtain ⟨-, rfl⟩ := h
            simp; omega
          · simp [h2] at h
      · cases h
theorem OwnR.keep {B : Nat} {w w' : World} {v : Value} {T : List V3} {R : Nat} (h : OwnR B w v T) (hk : KeepR R w w') (hR : R < B) : OwnR B w' v T := by
  refine ⟨h.1, ?_⟩
  rcases h.2 with hn | ⟨g, cap, cur, rfl, hB, hg, rest⟩
  · exact .inl hn
  · exact .inr ⟨g, cap, cur, rfl, hB, (hk.block g (Array.getElem?_eq_some_iff.1 hg).1 (by intro e; injection e with e; omega)).trans hg, rest⟩
theorem keysP_step {f : Nat} {c : UInt8} {r : List UInt8} {acc : List V3} (hf : (c :: r).length ≤ f) : ∃ g, r.length ≤ g ∧ f = g + 1 ∧ keysP f (c :: r) acc = if acc.length = 8 then none else match keyP (c :: r) with | some (v, r') => keysP g r' (acc ++ [v]) | none => none := by
  cases f with
  | zero => simp at hf
  | succ g => exact ⟨g, by simpa using hf, rfl, rfl⟩
theorem keysP_nil (f : Nat) (acc : List V3) : keysP f [] acc = some acc := by cases f <;> rfl

set_option maxHeartbeats 2000000 in
set_option maxRecDepth 100000 in
theorem rdKeys_any (n₀ R : Nat) (l : List UInt8) (w : World) (h : RestAt n₀ w R l) : Calls Tryz.prog 197 #[.pointer (some ⟨R, 0, none⟩)] w (ReadEnd (fun T W' v => OwnR w.heap.size W' v T) n₀ R ((keysP l.length l []).map fun T => (T, [])) w) := by
  have H := Lib.hid h
  have hRlt := h.lt
  clear h
  go_enter Tryz.func197, Tryz.ntmps197
  go_wp2_with fail
  go_loopw [3] (fun v wr => ∃ acc l' f, Hid (keysP l.length l [] = keysP f l' acc ∧ l'.length ≤ f ∧ OwnR w.heap.size wr v acc ∧ RestAt n₀ wr R l' ∧ KeepR R w wr ∧ acc.length ≤ 8)) (fun _ wr => restN wr R)
  case atStart => exact ⟨[], l, l.length, Lib.hid ⟨rfl, Nat.le_refl _, OwnR.nil _ _, H.out, keep_refl _ _, by simp⟩⟩
  case round =>
    obtain ⟨acc, l', f, HI⟩ := hrel
    have h8 := HI.out.2.2.2.2.2
    obtain ⟨p, cap, rfl, -⟩ := HI.out.2.2.1.in_ (by omega)
    have hlen' : (acc.length : Int) ≤ 8 := by omega
    have HN := Lib.hid HI.out.2.2.2.1.n
    obtain ⟨-, p', cap', hb, hlc, hcm, -⟩ := HI.out.2.2.2.1
    have cR : wr.cell? ⟨R, 0, none⟩ = some (.slice p' l'.length cap') := cell_of_row wr R 0 _ _ (0, 0) hb
    clear hb hlc hcm
    cases l' with
    | nil =>
      have HS : Hid (keysP l.length l [] = some acc) := Lib.hid (HI.out.1.trans (keysP_nil f acc))
      go_wp2_with fail
      go_ret
      exact ⟨HI.out.2.2.2.2.1, .inl ⟨acc, [], _, by rw [HS.out]; rfl, rfl, HI.out.2.2.1, HI.out.2.2.2.1⟩⟩
    | cons c r =>
      obtain ⟨g, hg, -, hs⟩ := keysP_step (acc := acc) HI.out.2.1
      have HS := Lib.hid (HI.out.1.trans hs)
      have hr0 : (0 : Int) ≤ (r.length : Int) := by omega
      clear hs
      by_cases h6 : acc.length = 8
      · have h6' : (acc.length : Int) = 8 := by omega
        have HS' : Hid (keysP l.length l [] = none) := Lib.hid (by rw [HS.out, if_pos h6])
        go_wp2_with fail
        exact ⟨rfl, HI.out.2.2.2.2.1, .inr ⟨by rw [HS'.out]; rfl, rfl⟩⟩
      · have h6' : ((acc.length : Int) == 8) = false := by simp; omega
        go_wp2_with fail
        refine (rdKey_any n₀ R (c :: r) wr HI.out.2.2.2.1).mono ?_
        rintro e w2 ⟨hk, ⟨x, r', v, ho, rfl, hv, hr⟩ | ⟨ho, rfl⟩⟩
        · unfold aggV at hv
          subst hv
          have HK := Lib.hid (HI.out.2.2.2.2.1.trans hk)
          have HO := Lib.hid (HI.out.2.2.1.keep hk hRlt)
          have HR := Lib.hid hr
          have HL := Lib.hid (keyP_len ho)
          have HS' : Hid (keysP l.length l [] = keysP g r' (acc ++ [x])) := Lib.hid (by rw [HS.out, if_neg h6, ho])
          have H8 : Hid (acc.length < 8) := Lib.hid (by omega)
          clear hk hr ho
          go_wp2_with (at_builtin; refine wpList_appT rfl (.tmp 14) (.tmp 17) rfl w.heap.size (w2.heap.size + 1) w2 _ _ acc [x] rfl rfl (HO.out.alloc _) (lit_in w2 x) (by have := H8.out; omega) ((Below.refl _ _).alloc HK.out.size _) HK.out.size ?_; intro v3 w3 ho hb)
          have HB := Lib.hid hb
          have HO3 := Lib.hid ho
          clear ho hb
          go_roundw
          case rel => exact ⟨_, _, g, Lib.hid ⟨HS'.out, by have := HL.out; simp at this; omega, HO3.out, HR.out.below HB.out hRlt, HK.out.below HB.out, by have := H8.out; simp; omega⟩⟩
          case measure => rw [(HR.out.below HB.out hRlt).n, HN.out]; exact HL.out
        · have HK := Lib.hid (HI.out.2.2.2.2.1.trans hk)
          have HS' : Hid (keysP l.length l [] = none) := Lib.hid (by rw [HS.out, if_neg h6, ho])
          clear hk ho
          go_wp2_with fail
          exact ⟨rfl, HK.out, .inr ⟨by rw [HS'.out]; rfl, rfl⟩⟩
end
end Go.Proofs.YtdjhfcopnhcljaaGreatDoor
