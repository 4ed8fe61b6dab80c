/-
  Contract of the document's FromKey.
-/
import Derived.Test.YtlebhceejidjiaaPkSy
namespace Go.Proofs.Ytlebhceejidjiaa
open Go Go.RowKit

theorem may_ok {T : List V3} : MayT T ↔ OkT T := by
  unfold MayT OkT MayV
  exact Iff.rfl
theorem okO_yes {T : List V3} (h : OkT T) : okO (some T) = some T := by
  unfold okO
  simp only
  rw [if_pos (may_ok.2 h)]
theorem okO_no {T : List V3} (h : ¬ OkT T) : okO (some T) = none := by
  unfold okO
  simp only
  rw [if_neg (fun g => h (may_ok.1 g))]
theorem okO_none : okO none = none := rfl
theorem rkeysP_nil (f : Nat) (acc : List V3) : rkeysP f [] acc = some acc := by cases f <;> rfl
theorem rkeysP_at {l : List UInt8} {acc : List V3} {k f : Nat} (h : k < l.length) (hf : (l.drop k).length ≤ f) : ∃ g, (l.drop (k + 1)).length ≤ g ∧
    rkeysP f (l.drop k) acc = match (if l[k] = 1 ∧ 8 ≤ (l.drop (k + 1)).length then some (intV (l.drop (k + 1)), l.drop (k + 9)) else if l[k] = 2 then (match symR (l.drop (k + 1)) [] with | some (s, r') => some (symV s, r') | none => none) else none) with
      | some (v, r') => rkeysP g r' (acc ++ [v]) | none => none := by
  have e := List.drop_eq_getElem_cons h
  rw [e] at hf ⊢
  cases f with
  | zero => simp at hf; omega
  | succ g =>
    refine ⟨g, by simp only [List.length_cons] at hf; omega, ?_⟩
    rw [rkeysP, rkeyP, List.drop_drop]
    rfl
theorem ArgB.drop {w : World} {a : Addr} {cap : Nat} {l : List UInt8} (h : ArgB w (.slice (some a) l.length cap) l) (n : Nat) (hn : n ≤ l.length) : ArgB w (.slice (some (a.add n)) (l.length - n) (cap - n)) (l.drop n) := by
  obtain ⟨hb, p, c, e, h1, h2⟩ := h
  injection e with e1 e2 e3
  subst e3
  exact ⟨hb.drop n hn, _, _, by rw [List.length_drop], by rw [List.length_drop]; omega, by omega⟩

theorem be_step {l : List UInt8} {k m : Nat} (h : k + (m + 1) < l.length) : beN ((l.drop (k + 1)).take (m + 1)) = beN ((l.drop (k + 1)).take m) * 256 + l[k + (m + 1)].toNat := by
  have hm : m < (l.drop (k + 1)).length := by rw [List.length_drop]; omega
  rw [List.take_succ_eq_append_getElem hm, beN_snoc, List.getElem_drop]
  have e : k + 1 + m = k + (m + 1) := by omega
  simp only [e]
theorem be_room (l : List UInt8) {m : Nat} (h : m < 8) : beN (l.take m) * 256 < 18446744073709551616 - 255 := by
  have h1 := beN_lt (l.take m)
  have h2 : (l.take m).length ≤ m := List.length_take_le _ _
  have h3 : 256 ^ (l.take m).length ≤ 256 ^ 7 := Nat.pow_le_pow_right (by decide) (by omega)
  have h4 : (256 : Nat) ^ 7 = 72057594037927936 := by decide
  omega
theorem be_all (l : List UInt8) : beN (l.take 8) < 18446744073709551616 := by
  have h1 := beN_lt (l.take 8)
  have h2 : (l.take 8).length ≤ 8 := List.length_take_le _ _
  have h3 : 256 ^ (l.take 8).length ≤ 256 ^ 8 := Nat.pow_le_pow_right (by decide) h2
  have h4 : (256 : Nat) ^ 8 = 18446744073709551616 := by decide
  omega
theorem symR_suf : ∀ (l acc s r : List UInt8), symR l acc = some (s, r) → r <:+ l
  | [], _, _, _ => fun h => by simp [symR] at h
  | [_], _, _, _ => fun h => by simp [symR] at h
  | c :: d :: l, acc, s, r => fun h => by
    rw [symR] at h
    split at h
    · split at h
      · simp at h; obtain ⟨rfl, rfl⟩ := h; exact ⟨[c, d], rfl⟩
      · split at h
        · exact (symR_suf l _ s r h).trans ⟨[c, d], rfl⟩
        · cases h
    · exact (symR_suf (d :: l) _ s r h).trans ⟨[c], rfl⟩
theorem sym_step {l r s r' : List UInt8} {k : Nat} (h : k < l.length) (hr : l.drop k = 2 :: r) (hs : symR r [] = some (s, r')) :
    l[k] = 2 ∧ symR (l.drop (k + 1)) [] = some (s, r') ∧ r'.length ≤ l.length - (k + 1) ∧ r' = l.drop (l.length - r'.length) := by
  have e := List.drop_eq_getElem_cons h
  rw [hr] at e
  injection e with e1 e2
  have h1 := symR_suf _ _ _ _ hs
  refine ⟨e1.symm, by rw [← e2]; exact hs, ?_, ?_⟩
  · have := h1.length_le
    rw [e2, List.length_drop] at this
    exact this
  · refine List.suffix_iff_eq_drop.1 (h1.trans ?_)
    rw [e2]
    exact List.drop_suffix _ _
set_option maxHeartbeats 2000000 in
set_option maxRecDepth 100000 in
theorem rfromKey_any (v : Value) (l : List UInt8) (w : World) (h : ArgB w v l) (hl : l.length ≤ 3000) : Calls Try.prog 37 #[v] w (FromEnd (okO (rkeysP l.length l [])) w) := by
  have HA := Lib.hid h
  obtain ⟨hb, p, cap, rfl, h1, h2⟩ := h
  have h1' : (l.length : Int) ≤ (cap : Int) := by omega
  have h2' : (cap : Int) ≤ 9223372036854775807 := by unfold maxLen at h2; omega
  have hl' : (l.length : Int) ≤ 3000 := by omega
  have HB := Lib.hid hb
  clear hb
  go_enter Try.func37, Try.ntmps37
  go_wp2_with fail
  go_loopw [4, 5] (fun v i wr => ∃ k : Nat, i = .int .i64 k ∧ k ≤ l.length ∧ ∃ acc f, Hid (rkeysP l.length l [] = rkeysP f (l.drop k) acc ∧ (l.drop k).length ≤ f ∧ OwnR w.heap.size wr v acc ∧ Below w.heap.size w wr ∧ acc.length ≤ k)) (fun _ i _ => l.length - (intOf i).toNat)
  case atStart => exact ⟨0, rfl, Nat.zero_le _, [], l.length, Lib.hid ⟨rfl, Nat.le_refl _, OwnR.nil _ _, Below.refl _ _, by simp⟩⟩
  case round =>
    obtain ⟨k, rfl, hk, acc, f, HI⟩ := hrel
    have k0 : (0 : Int) ≤ (k : Int) := by omega
    have hkl : (k : Int) ≤ (l.length : Int) := by omega
    have hroom : acc.length ≤ 1000000 := by have := HI.out.2.2.2.2; omega
    have HRoom := Lib.hid hroom
    clear hroom
    by_cases hlt : k < l.length
    · have hlt' : (k : Int) < (l.length : Int) := by omega
      rcases HB.out with ⟨e, -⟩ | ⟨a, c', e, hc⟩
      · exfalso
        injection e with _ e2
        omega
      injection e with e1 e2 e3
      subst e1
      clear e2 e3
      have HC := Lib.hid hc
      have cells : ∀ j (hj : j < l.length), wr.cell? (a.add j) = some (.int .u8 (l[j].toNat : Int)) := fun j hj => (HI.out.2.2.2.1.cell (p := a.add j) (by rw [add_block]; exact (HC.out j hj).1)).trans (HC.out j hj).2
      have CELL := Lib.hid cells
      have q0 := cells k hlt
      obtain ⟨g, hg, hs⟩ := rkeysP_at (acc := acc) hlt HI.out.2.1
      have HS := Lib.hid (HI.out.1.trans hs)
      have HG := Lib.hid hg
      clear hs hg hc cells
      by_cases hint : l[k] = 1 ∧ 8 ≤ (l.drop (k + 1)).length
      · have hz : ((l[k].toNat : Int) == 1) = true := by rw [hint.1]; rfl
        have h9 : (9 : Int) ≤ (l.length : Int) - (k : Int) := by have := hint.2; rw [List.length_drop] at this; omega
        have HS' : Hid (rkeysP l.length l [] = rkeysP g (l.drop (k + 9)) (acc ++ [intV (l.drop (k + 1))])) := Lib.hid (by rw [HS.out, if_pos hint])
        clear hint
        go_wp2_with fail
        go_loopw [6, 7] (fun x j wi => ∃ m : Nat, j = .int .i64 ((m : Int) + 1) ∧ m ≤ 8 ∧ x = .int .u64 (beN ((l.drop (k + 1)).take m) : Nat) ∧ wi = wr) (fun _ j _ => 9 - (intOf j).toNat)
        case atStart => exact ⟨0, rfl, by decide, rfl, rfl⟩
        case round =>
          obtain ⟨m, rfl, hm, rfl, rfl⟩ := hrel
          by_cases hm8 : m < 8
          · have m0 : (0 : Int) ≤ (m : Int) := by omega
            have hm8' : (m : Int) + 1 ≤ 8 := by omega
            have hj : k + (m + 1) < l.length := by omega
            have hj' : (k : Int) + ((m : Int) + 1) < (l.length : Int) := by omega
            have nj : ((k : Int) + ((m : Int) + 1)).toNat = k + (m + 1) := by omega
            have wj : wrap64 ((k : Int) + ((m : Int) + 1)) = (k : Int) + ((m : Int) + 1) := by unfold wrap64; omega
            have q1 : wr.cell? (a.add (k + (m + 1))) = some (.int .u8 (l[k + (m + 1)].toNat : Int)) := CELL.out (k + (m + 1)) hj
            have HX := Lib.hid (be_step hj)
            obtain ⟨c, hcc⟩ : ∃ c, c = l[k + (m + 1)] := ⟨_, rfl⟩
            rw [← hcc] at q1 HX
            clear hcc
            have HXB := Lib.hid (be_room (l.drop (k + 1)) hm8)
            obtain ⟨X, hX⟩ : ∃ X, X = beN ((l.drop (k + 1)).take m) := ⟨_, rfl⟩
            rw [← hX] at HX HXB ⊢
            clear hX
            have x1 : IntKind.u64.wrap ((X : Int) * 256) = (X : Int) * 256 := by rw [wrap_u64']; have := HXB.out; omega
            have x2 : IntKind.u64.wrap (c.toNat : Int) = (c.toNat : Int) := by rw [wrap_u64']; have := c.toNat_lt; omega
            have x3 : IntKind.u64.wrap ((X : Int) * 256 + (c.toNat : Int)) = (X : Int) * 256 + (c.toNat : Int) := by rw [wrap_u64']; have := HXB.out; have := c.toNat_lt; omega
            go_wp2_with fail
            go_roundw
            case rel => exact ⟨m + 1, by go_num, by omega, by rw [HX.out]; go_num, trivial⟩
            case measure => simp [intOf]; omega
          · obtain rfl : m = 8 := by omega
            have HXB := Lib.hid (be_all (l.drop (k + 1)))
            have HV : Hid (intV (l.drop (k + 1)) = ⟨1, (beN ((l.drop (k + 1)).take 8) : Int) - 9223372036854775808, ⟨#[]⟩⟩) := Lib.hid rfl
            obtain ⟨X, hX⟩ : ∃ X, X = beN ((l.drop (k + 1)).take 8) := ⟨_, rfl⟩
            rw [← hX] at HV HXB ⊢
            clear hX
            have x1 : wrap64 (IntKind.u64.wrap ((X : Int) - 9223372036854775808)) = (X : Int) - 9223372036854775808 := by rw [wrap_u64']; have := HXB.out; unfold wrap64; omega
            have w9 : wrap64 ((k : Int) + 9) = (k : Int) + 9 := by unfold wrap64; omega
            go_wp2_with (at_builtin; refine wpList_appT rfl (.tmp 41) (.tmp 46) rfl w.heap.size (wr.heap.size + 1) w _ _ acc [⟨1, (X : Int) - 9223372036854775808, ⟨#[]⟩⟩] rfl rfl (HI.out.2.2.1.alloc _) (lit_in wr ⟨1, (X : Int) - 9223372036854775808, ⟨#[]⟩⟩) HRoom.out (HI.out.2.2.2.1.alloc HI.out.2.2.2.1.size _) (Nat.le_refl _) ?_; intro v3 w3 ho hb)
            go_roundw
            case rel => exact ⟨k + 9, by go_num, by omega, _, g, Lib.hid ⟨by rw [HS'.out, HV.out], by have := HG.out; rw [List.length_drop] at this ⊢; omega, ho, hb, by have := HI.out.2.2.2.2; simp; omega⟩⟩
            case measure => simp [intOf]; omega
      · have HD := Lib.hid ((HA.out.below HI.out.2.2.2.1).drop k (by omega))
        have hdl : (l.drop k).length ≤ 3000 := by rw [List.length_drop]; omega
        have HDL := Lib.hid hdl
        have hsub : wrap64 ((l.length : Int) - (k : Int)) = (l.length : Int) - (k : Int) := by unfold wrap64; omega
        have HS' : Hid (rkeysP l.length l [] = match (if l[k] = 2 then (match symR (l.drop (k + 1)) [] with | some (s, r') => some (symV s, r') | none => none) else none) with | some (v, r') => rkeysP g r' (acc ++ [v]) | none => none) := Lib.hid (by rw [HS.out, if_neg hint])
        have HI1 := Lib.hid hint
        clear hint hdl
        have cases_ : ((l[k].toNat : Int) == 1) = false ∨ ((l[k].toNat : Int) == 1) = true ∧ ((l.length : Int) - (k : Int) < 9) := by
          cases hz : ((l[k].toNat : Int) == 1) with
          | false => exact .inl rfl
          | true =>
            refine .inr ⟨rfl, ?_⟩
            have h1 : l[k] = 1 := byte_is hz rfl
            have h8 : ¬ 8 ≤ (l.drop (k + 1)).length := fun h => HI1.out ⟨h1, h⟩
            rw [List.length_drop] at h8
            omega
        have HDr : Hid (l.drop k = l[k] :: l.drop (k + 1)) := Lib.hid (List.drop_eq_getElem_cons hlt)
        rcases cases_ with hz | ⟨hz, h9⟩
        all_goals
          go_wp2_with fail
          refine (symbol_any _ (l.drop k) wr HD.out HDL.out).mono ?_
          rintro e w1 ⟨hb, ⟨r, s, r', hr, hs, rfl⟩ | ⟨hno, rfl⟩⟩
          · have HST := Lib.hid (sym_step hlt hr hs)
            have HS2 : Hid (rkeysP l.length l [] = rkeysP g r' (acc ++ [symV s])) := Lib.hid (by rw [HS'.out, if_pos HST.out.1, HST.out.2.1])
            obtain ⟨n, hn⟩ : ∃ n : Int, n = ((l.drop k).length : Int) - (r'.length : Int) := ⟨_, rfl⟩
            rw [← hn]
            have hn' : (k : Int) + n = ((l.length - r'.length : Nat) : Int) := by have := HST.out.2.2.1; rw [List.length_drop] at hn; omega
            have HN := Lib.hid hn'
            have WN : Hid (wrap64 ((l.length - r'.length : Nat) : Int) = ((l.length - r'.length : Nat) : Int)) := Lib.hid (by unfold wrap64; omega)
            have HB1 := Lib.hid (HI.out.2.2.2.1.trans (hb.mono HI.out.2.2.2.1.size))
            have HO1 := Lib.hid (HI.out.2.2.1.below hb)
            clear hn hn' hr hs hb
            go_wp2_with (at_builtin; refine wpList_appT rfl (.tmp 60) (.tmp 63) rfl w.heap.size (w1.heap.size + 1) w _ _ acc [symV s] rfl rfl (HO1.out.alloc _) (lit_in w1 (symV s)) HRoom.out (HB1.out.alloc HB1.out.size _) (Nat.le_refl _) ?_; intro v3 w3 ho hb)
            go_roundw
            case rel => exact ⟨l.length - r'.length, by rw [HN.out, WN.out], by omega, _, g, Lib.hid ⟨by rw [HS2.out, ← HST.out.2.2.2], by have := HG.out; have := HST.out.2.2.1; rw [← HST.out.2.2.2]; rw [List.length_drop] at *; omega, ho, hb, by have := HI.out.2.2.2.2; have := HST.out.2.2.1; simp; omega⟩⟩
            case measure =>
              show l.length - (wrap64 ((k : Int) + n)).toNat < l.length - (k : Int).toNat
              rw [HN.out, WN.out]
              have := HST.out.2.2.1
              omega
          · have HS2 : Hid (rkeysP l.length l [] = none) := Lib.hid (by
              rw [HS'.out]
              by_cases h2 : l[k] = 2
              · rw [if_pos h2, hno (l.drop (k + 1)) (by rw [HDr.out, h2])]
              · rw [if_neg h2])
            have HB1 := Lib.hid (HI.out.2.2.2.1.trans (hb.mono HI.out.2.2.2.1.size))
            clear hno hb
            go_wp2_with fail
            go_ret2
            exact ⟨HB1.out, .inr ⟨by rw [HS2.out, okO_none], rfl⟩⟩
    · have hge : (l.length : Int) ≤ (k : Int) := by omega
      have HS' : Hid (rkeysP l.length l [] = some acc) := Lib.hid (by rw [HI.out.1, List.drop_of_length_le (by omega), rkeysP_nil])
      go_wp2_with fail
      refine (ris_any _ acc _ wr (HI.out.2.2.1.in_ HRoom.out) (Nat.le_refl _)).mono ?_
      rintro e w1 ⟨⟨hok, rfl⟩ | ⟨hok, rfl⟩, hb⟩
      · have HOk := Lib.hid hok
        have HB1 := Lib.hid (HI.out.2.2.2.1.trans (hb.mono HI.out.2.2.2.1.size))
        have HO1 := Lib.hid (HI.out.2.2.1.below hb)
        clear hok hb
        go_wp2_with fail
        go_ret2
        exact ⟨HB1.out, .inl ⟨acc, _, by rw [HS'.out, okO_yes HOk.out], rfl, HO1.out⟩⟩
      · have HOk := Lib.hid hok
        have HB1 := Lib.hid (HI.out.2.2.2.1.trans (hb.mono HI.out.2.2.2.1.size))
        clear hok hb
        go_wp2_with fail
        go_ret2
        exact ⟨HB1.out, .inr ⟨by rw [HS'.out, okO_no HOk.out], rfl⟩⟩
end Go.Proofs.Ytlebhceejidjiaa
