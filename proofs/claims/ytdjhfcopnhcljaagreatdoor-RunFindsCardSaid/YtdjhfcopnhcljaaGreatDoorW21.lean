/-
  Contract of the document's FromKey.
  What pack's readers answer at what pack has written, whatever stands behind it.
  The closure of run.pages: it hands the body each page.
-/
import Derived.Test.YtdjhfcopnhcljaaGreatDoorW16
import Derived.Test.YtdjhfcopnhcljaaGreatDoorW19
import Derived.Test.YtdjhfcopnhcljaaGreatDoorW20
import Derived.Test.YtdjhfcopnhcljaaGreatDoorW09
namespace Go.Proofs.YtdjhfcopnhcljaaGreatDoor
section
open Go Go.RowKit

theorem may_ok {T : List V3} : MayT T ↔ OkT T := by
  unfold MayT OkT MayV
  exact Iff.rfl
theorem okO_yes {T : List V3} (h : OkT T) : okO (some T) = some T := by
  unfold okO
  simp only
  rw [if_pos (may_ok.2 h)]
theorem okO_no {T : List V3} (h : ¬ OkT T) : okO (some T) = none := by
  unfold okO
  simp only
  rw [if_neg (fun g => h (may_ok.1 g))]
theorem okO_none : okO none = none := rfl
theorem rkeysP_nil (f : Nat) (acc : List V3) : rkeysP f [] acc = some acc := by cases f <;> rfl
theorem rkeysP_at {l : List UInt8} {acc : List V3} {k f : Nat} (h : k < l.length) (hf : (l.drop k).length ≤ f) : ∃ g, (l.drop (k + 1)).length ≤ g ∧
    rkeysP f (l.drop k) acc = match (if l[k] = 1 ∧ 8 ≤ (l.drop (k + 1)).length then some (intV (l.drop (k + 1)), l.drop (k + 9)) else if l[k] = 2 then (match symR (l.drop (k + 1)) [] with | some (s, r') => some (symV s, r') | none => none) else none) with
      | some (v, r') => rkeysP g r' (acc ++ [v]) | none => none := by
  have e := List.drop_eq_getElem_cons h
  rw [e] at hf ⊢
  cases f with
  | zero => simp at hf; omega
  | succ g =>
    refine ⟨g, by simp only [List.length_cons] at hf; omega, ?_⟩
    rw [rkeysP, rkeyP, List.drop_drop]
    rfl
theorem ArgB.drop {w : World} {a : Addr} {cap : Nat} {l : List UInt8} (h : ArgB w (.slice (some a) l.length cap) l) (n : Nat) (hn : n ≤ l.length) : ArgB w (.slice (some (a.add n)) (l.length - n) (cap - n)) (l.drop n) := by
  obtain ⟨hb, p, c, e, h1, h2⟩ := h
  injection e with e1 e2 e3
  subst e3
  exact ⟨hb.drop n hn, _, _, by rw [List.length_drop], by rw [List.length_drop]; omega, by omega⟩

theorem be_step {l : List UInt8} {k m : Nat} (h : k + (m + 1) < l.length) : beN ((l.drop (k + 1)).take (m + 1)) = beN ((l.drop (k + 1)).take m) * 256 + l[k + (m + 1)].toNat := by
  have hm : m < (l.drop (k + 1)).length := by rw [List.length_drop]; omega
  rw [List.take_succ_eq_append_getElem hm, beN_snoc, List.getElem_drop]
  have e : k + 1 + m = k + (m + 1) := by omega
  simp only [e]
theorem be_room (l : List UInt8) {m : Nat} (h : m < 8) : beN (l.take m) * 256 < 18446744073709551616 - 255 := by
  have h1 := beN_lt (l.take m)
  have h2 : (l.take m).length ≤ m := List.length_take_le _ _
  have h3 : 256 ^ (l.take m).length ≤ 256 ^ 7 := Nat.pow_le_pow_right (by decide) (by omega)
  have h4 : (256 : Nat) ^ 7 = 72057594037927936 := by decide
  omega
theorem be_all (l : List UInt8) : beN (l.take 8) < 18446744073709551616 := by
  have h1 := beN_lt (l.take 8)
  have h2 : (l.take 8).length ≤ 8 := List.length_take_le _ _
  have h3 : 256 ^ (l.take 8).length ≤ 256 ^ 8 := Nat.pow_le_pow_right (by decide) h2
  have h4 : (256 : Nat) ^ 8 = 18446744073709551616 := by decide
  omega
theorem symR_suf : ∀ (l acc s r : List UInt8), symR l acc = some (s, r) → r <:+ l
  | [], _, _, _ => fun h => by simp [symR] at h
  | [_], _, _, _ => fun h => by simp [symR] at h
  | c :: d :: l, acc, s, r => fun h => by
    rw [symR] at h
    split at h
    · split at h
      · simp at h; obtain ⟨rfl, rfl⟩ := h; exact ⟨[c, d], rfl⟩
      · split at h
        · exact (symR_suf l _ s r h).trans ⟨[c, d], rfl⟩
        · cases h
    · exact (symR_suf (d :: l) _ s r h).trans ⟨[c], rfl⟩
theorem sym_step {l r s r' : List UInt8} {k : Nat} (h : k < l.length) (hr : l.drop k = 2 :: r) (hs : symR r [] = some (s, r')) :
    l[k] = 2 ∧ symR (l.drop (k + 1)) [] = some (s, r') ∧ r'.length ≤ l.length - (k + 1) ∧ r' = l.drop (l.length - r'.length) := by
  have e := List.drop_eq_getElem_cons h
  rw [hr] at e
  injection e with e1 e2
  have h1 := symR_suf _ _ _ _ hs
  refine ⟨e1.symm, by rw [← e2]; exact hs, ?_, ?_⟩
  · have := h1.length_le
    rw [e2, List.length_drop] at this
    exact this
  · refine List.suffix_iff_eq_drop.1 (h1.trans ?_)
    rw [e2]
    exact List.drop_suffix _ _
set_option maxHeartbeats 2000000 in
set_option maxRecDepth 100000 in
theorem rfromKey_any (v : Value) (l : List UInt8) (w : World) (h : ArgB w v l) (hl : l.length ≤ 3000) : Calls Tryz.prog 135 #[v] w (FromEnd (okO (rkeysP l.length l [])) w) := by
  have HA := Lib.hid h
  obtain ⟨hb, p, cap, rfl, h1, h2⟩ := h
  have h1' : (l.length : Int) ≤ (cap : Int) := by omega
  have h2' : (cap : Int) ≤ 9223372036854775807 := by unfold maxLen at h2; omega
  have hl' : (l.length : Int) ≤ 3000 := by omega
  have HB := Lib.hid hb
  clear hb
  go_enter Tryz.func135, Tryz.ntmps135
  go_wp2_with fail
  go_loopw [4, 5] (fun v i wr => ∃ k : Nat, i = .int .i64 k ∧ k ≤ l.length ∧ ∃ acc f, Hid (rkeysP l.length l [] = rkeysP f (l.drop k) acc ∧ (l.drop k).length ≤ f ∧ OwnR w.heap.size wr v acc ∧ Below w.heap.size w wr ∧ acc.length ≤ k)) (fun _ i _ => l.length - (intOf i).toNat)
  case atStart => exact ⟨0, rfl, Nat.zero_le _, [], l.length, Lib.hid ⟨rfl, Nat.le_refl _, OwnR.nil _ _, Below.refl _ _, by simp⟩⟩
  case round =>
    obtain ⟨k, rfl, hk, acc, f, HI⟩ := hrel
    have k0 : (0 : Int) ≤ (k : Int) := by omega
    have hkl : (k : Int) ≤ (l.length : Int) := by omega
    have hroom : acc.length ≤ 1000000 := by have := HI.out.2.2.2.2; omega
    have HRoom := Lib.hid hroom
    clear hroom
    by_cases hlt : k < l.length
    · have hlt' : (k : Int) < (l.length : Int) := by omega
      rcases HB.out with ⟨e, -⟩ | ⟨a, c', e, hc⟩
      · exfalso
        injection e with _ e2
        omega
      injection e with e1 e2 e3
      subst e1
      clear e2 e3
      have HC := Lib.hid hc
      have cells : ∀ j (hj : j < l.length), wr.cell? (a.add j) = some (.int .u8 (l[j].toNat : Int)) := fun j hj => (HI.out.2.2.2.1.cell (p := a.add j) (by rw [add_block]; exact (HC.out j hj).1)).trans (HC.out j hj).2
      have CELL := Lib.hid cells
      have q0 := cells k hlt
      obtain ⟨g, hg, hs⟩ := rkeysP_at (acc := acc) hlt HI.out.2.1
      have HS := Lib.hid (HI.out.1.trans hs)
      have HG := Lib.hid hg
      clear hs hg hc cells
      by_cases hint : l[k] = 1 ∧ 8 ≤ (l.drop (k + 1)).length
      · have hz : ((l[k].toNat : Int) == 1) = true := by rw [hint.1]; rfl
        have h9 : (9 : Int) ≤ (l.length : Int) - (k : Int) := by have := hint.2; rw [List.length_drop] at this; omega
        have HS' : Hid (rkeysP l.length l [] = rkeysP g (l.drop (k + 9)) (acc ++ [intV (l.drop (k + 1))])) := Lib.hid (by rw [HS.out, if_pos hint])
        clear hint
        go_wp2_with fail
        go_loopw [6, 7] (fun x j wi => ∃ m : Nat, j = .int .i64 ((m : Int) + 1) ∧ m ≤ 8 ∧ x = .int .u64 (beN ((l.drop (k + 1)).take m) : Nat) ∧ wi = wr) (fun _ j _ => 9 - (intOf j).toNat)
        case atStart => exact ⟨0, rfl, by decide, rfl, rfl⟩
        case round =>
          obtain ⟨m, rfl, hm, rfl, rfl⟩ := hrel
          by_cases hm8 : m < 8
          · have m0 : (0 : Int) ≤ (m : Int) := by omega
            have hm8' : (m : Int) + 1 ≤ 8 := by omega
            have hj : k + (m + 1) < l.length := by omega
            have hj' : (k : Int) + ((m : Int) + 1) < (l.length : Int) := by omega
            have nj : ((k : Int) + ((m : Int) + 1)).toNat = k + (m + 1) := by omega
            have wj : wrap64 ((k : Int) + ((m : Int) + 1)) = (k : Int) + ((m : Int) + 1) := by unfold wrap64; omega
            have q1 : wr.cell? (a.add (k + (m + 1))) = some (.int .u8 (l[k + (m + 1)].toNat : Int)) := CELL.out (k + (m + 1)) hj
            have HX := Lib.hid (be_step hj)
            obtain ⟨c, hcc⟩ : ∃ c, c = l[k + (m + 1)] := ⟨_, rfl⟩
            rw [← hcc] at q1 HX
            clear hcc
            have HXB := Lib.hid (be_room (l.drop (k + 1)) hm8)
            obtain ⟨X, hX⟩ : ∃ X, X = beN ((l.drop (k + 1)).take m) := ⟨_, rfl⟩
            rw [← hX] at HX HXB ⊢
            clear hX
            have x1 : IntKind.u64.wrap ((X : Int) * 256) = (X : Int) * 256 := by rw [wrap_u64']; have := HXB.out; omega
            have x2 : IntKind.u64.wrap (c.toNat : Int) = (c.toNat : Int) := by rw [wrap_u64']; have := c.toNat_lt; omega
            have x3 : IntKind.u64.wrap ((X : Int) * 256 + (c.toNat : Int)) = (X : Int) * 256 + (c.toNat : Int) := by rw [wrap_u64']; have := HXB.out; have := c.toNat_lt; omega
            go_wp2_with fail
            go_roundw
            case rel => exact ⟨m + 1, by go_num, by omega, by rw [HX.out]; go_num, trivial⟩
            case measure => simp [intOf]; omega
          · obtain rfl : m = 8 := by omega
            have HXB := Lib.hid (be_all (l.drop (k + 1)))
            have HV : Hid (intV (l.drop (k + 1)) = ⟨1, (beN ((l.drop (k + 1)).take 8) : Int) - 9223372036854775808, ⟨#[]⟩⟩) := Lib.hid rfl
            obtain ⟨X, hX⟩ : ∃ X, X = beN ((l.drop (k + 1)).take 8) := ⟨_, rfl⟩
            rw [← hX] at HV HXB ⊢
            clear hX
            have x1 : wrap64 (IntKind.u64.wrap ((X : Int) - 9223372036854775808)) = (X : Int) - 9223372036854775808 := by rw [wrap_u64']; have := HXB.out; unfold wrap64; omega
            have w9 : wrap64 ((k : Int) + 9) = (k : Int) + 9 := by unfold wrap64; omega
            go_wp2_with (at_builtin; refine wpList_appT rfl (.tmp 41) (.tmp 46) rfl w.heap.size (wr.heap.size + 1) w _ _ acc [⟨1, (X : Int) - 9223372036854775808, ⟨#[]⟩⟩] rfl rfl (HI.out.2.2.1.alloc _) (lit_in wr ⟨1, (X : Int) - 9223372036854775808, ⟨#[]⟩⟩) HRoom.out (HI.out.2.2.2.1.alloc HI.out.2.2.2.1.size _) (Nat.le_refl _) ?_; intro v3 w3 ho hb)
            go_roundw
            case rel => exact ⟨k + 9, by go_num, by omega, _, g, Lib.hid ⟨by rw [HS'.out, HV.out], by have := HG.out; rw [List.length_drop] at this ⊢; omega, ho, hb, by have := HI.out.2.2.2.2; simp; omega⟩⟩
            case measure => simp [intOf]; omega
      · have HD := Lib.hid ((HA.out.below HI.out.2.2.2.1).drop k (by omega))
        have hdl : (l.drop k).length ≤ 3000 := by rw [List.length_drop]; omega
        have HDL := Lib.hid hdl
        have hsub : wrap64 ((l.length : Int) - (k : Int)) = (l.length : Int) - (k : Int) := by unfold wrap64; omega
        have HS' : Hid (rkeysP l.length l [] = match (if l[k] = 2 then (match symR (l.drop (k + 1)) [] with | some (s, r') => some (symV s, r') | none => none) else none) with | some (v, r') => rkeysP g r' (acc ++ [v]) | none => none) := Lib.hid (by rw [HS.out, if_neg hint])
        have HI1 := Lib.hid hint
        clear hint hdl
        have cases_ : ((l[k].toNat : Int) == 1) = false ∨ ((l[k].toNat : Int) == 1) = true ∧ ((l.length : Int) - (k : Int) < 9) := by
          cases hz : ((l[k].toNat : Int) == 1) with
          | false => exact .inl rfl
          | true =>
            refine .inr ⟨rfl, ?_⟩
            have h1 : l[k] = 1 := byte_is hz rfl
            have h8 : ¬ 8 ≤ (l.drop (k + 1)).length := fun h => HI1.out ⟨h1, h⟩
            rw [List.length_drop] at h8
            omega
        have HDr : Hid (l.drop k = l[k] :: l.drop (k + 1)) := Lib.hid (List.drop_eq_getElem_cons hlt)
        rcases cases_ with hz | ⟨hz, h9⟩
        all_goals
          go_wp2_with fail
          refine (symbol_any _ (l.drop k) wr HD.out HDL.out).mono ?_
          rintro e w1 ⟨hb, ⟨r, s, r', hr, hs, rfl⟩ | ⟨hno, rfl⟩⟩
          · have HST := Lib.hid (sym_step hlt hr hs)
            have HS2 : Hid (rkeysP l.length l [] = rkeysP g r' (acc ++ [symV s])) := Lib.hid (by rw [HS'.out, if_pos HST.out.1, HST.out.2.1])
            obtain ⟨n, hn⟩ : ∃ n : Int, n = ((l.drop k).length : Int) - (r'.length : Int) := ⟨_, rfl⟩
            rw [← hn]
            have hn' : (k : Int) + n = ((l.length - r'.length : Nat) : Int) := by have := HST.out.2.2.1; rw [List.length_drop] at hn; omega
            have HN := Lib.hid hn'
            have WN : Hid (wrap64 ((l.length - r'.length : Nat) : Int) = ((l.length - r'.length : Nat) : Int)) := Lib.hid (by unfold wrap64; omega)
            have HB1 := Lib.hid (HI.out.2.2.2.1.trans (hb.mono HI.out.2.2.2.1.size))
            have HO1 := Lib.hid (HI.out.2.2.1.below hb)
            clear hn hn' hr hs hb
            go_wp2_with (at_builtin; refine wpList_appT rfl (.tmp 60) (.tmp 63) rfl w.heap.size (w1.heap.size + 1) w _ _ acc [symV s] rfl rfl (HO1.out.alloc _) (lit_in w1 (symV s)) HRoom.out (HB1.out.alloc HB1.out.size _) (Nat.le_refl _) ?_; intro v3 w3 ho hb)
            go_roundw
            case rel => exact ⟨l.length - r'.length, by rw [HN.out, WN.out], by omega, _, g, Lib.hid ⟨by rw [HS2.out, ← HST.out.2.2.2], by have := HG.out; have := HST.out.2.2.1; rw [← HST.out.2.2.2]; rw [List.length_drop] at *; omega, ho, hb, by have := HI.out.2.2.2.2; have := HST.out.2.2.1; simp; omega⟩⟩
            case measure =>
              show l.length - (wrap64 ((k : Int) + n)).toNat < l.length - (k : Int).toNat
              rw [HN.out, WN.out]
              have := HST.out.2.2.1
              omega
          · have HS2 : Hid (rkeysP l.length l [] = none) := Lib.hid (by
              rw [HS'.out]
              by_cases h2 : l[k] = 2
              · rw [if_pos h2, hno (l.drop (k + 1)) (by rw [HDr.out, h2])]
              · rw [if_neg h2])
            have HB1 := Lib.hid (HI.out.2.2.2.1.trans (hb.mono HI.out.2.2.2.1.size))
            clear hno hb
            go_wp2_with fail
            go_ret2
            exact ⟨HB1.out, .inr ⟨by rw [HS2.out, okO_none], rfl⟩⟩
    · have hge : (l.length : Int) ≤ (k : Int) := by omega
      have HS' : Hid (rkeysP l.length l [] = some acc) := Lib.hid (by rw [HI.out.1, List.drop_of_length_le (by omega), rkeysP_nil])
      go_wp2_with fail
      refine (ris_any _ acc _ wr (HI.out.2.2.1.in_ HRoom.out) (Nat.le_refl _)).mono ?_
      rintro e w1 ⟨⟨hok, rfl⟩ | ⟨hok, rfl⟩, hb⟩
      · have HOk := Lib.hid hok
        have HB1 := Lib.hid (HI.out.2.2.2.1.trans (hb.mono HI.out.2.2.2.1.size))
        have HO1 := Lib.hid (HI.out.2.2.1.below hb)
        clear hok hb
        go_wp2_with fail
        go_ret2
        exact ⟨HB1.out, .inl ⟨acc, _, by rw [HS'.out, okO_yes HOk.out], rfl, HO1.out⟩⟩
      · have HOk := Lib.hid hok
        have HB1 := Lib.hid (HI.out.2.2.2.1.trans (hb.mono HI.out.2.2.2.1.size))
        clear hok hb
        go_wp2_with fail
        go_ret2
        exact ⟨HB1.out, .inr ⟨by rw [HS'.out, okO_no HOk.out], rfl⟩⟩
end
section
open Go Go.RowKit

/-- Bytes of the call's own, as an argument. -/
theorem OwnB.arg {B : Nat} {w : World} {v : Value} {l : List UInt8} (h : OwnB B w v l) : ArgB w v l := by
  refine ⟨h.in_, ?_⟩
  rcases h.2 with ⟨rfl, hx⟩ | ⟨g, cap, cur, rfl, hB, hg, hc, hm, rest⟩
  · have : l.length = 0 := hx
    exact ⟨none, 0, by rw [this], by omega, Nat.zero_le _⟩
  · exact ⟨_, cap, rfl, hc, hm⟩
theorem len_back (N m : List UInt8) : (((N ++ m).length : Nat) : Int) - (m.length : Int) = (N.length : Int) := by rw [List.length_append]; omega
theorem takeNum_back (x : Nat) (N m : List UInt8) (v : Value) (w : World) (hN : N = numL x) (hx : x < 18446744073709551616) (h : ArgB w v (N ++ m)) :
    Calls Tryz.prog 149 #[v] w fun e w' => e = .returned (.tuple #[.int .u64 x, .int .i64 N.length, .int .i64 0]) ∧ Below w.heap.size w w' :=
  (takeNum_any v (N ++ m) w h).mono (by
    have hp : numP (N ++ m) 0 0 = some (x, m) := by rw [hN]; exact numP_back m hx
    rintro e w' ⟨hb, ⟨y, r, ho, rfl⟩ | ⟨ho, rfl⟩⟩
    · rw [hp] at ho
      injection ho with ho
      injection ho with h1 h2
      subst h1 h2
      exact ⟨by rw [len_back], hb⟩
    · rw [hp] at ho; cases ho)
theorem takeText_back (s N m : List UInt8) (v : Value) (w : World) (hN : N = textL s) (hs : s.length ≤ 3000) (h : ArgB w v (N ++ m)) :
    Calls Tryz.prog 174 #[v, .int .i64 s.length] w fun e w' => (∃ vd, e = .returned (.tuple #[vd, .int .i64 N.length, .int .i64 0]) ∧ OwnB w.heap.size w' vd s) ∧ Below w.heap.size w w' :=
  (takeText_any v (N ++ m) s.length w h (by omega)).mono (by
    have hp : textM s.length (N ++ m) = some (s, m) := by
      rw [hN, textM_of (by omega)]
      exact textQ_back s m (by omega) (by omega)
    rintro e w' ⟨hb, ⟨y, r, vd, ho, rfl, hv⟩ | ⟨ho, rfl⟩⟩
    · rw [hp] at ho
      injection ho with ho
      injection ho with h1 h2
      subst h1 h2
      exact ⟨⟨vd, by rw [len_back], hv⟩, hb⟩
    · rw [hp] at ho; cases ho)
theorem takeCnt_back (T : List V3) (n : Int) (N m : List UInt8) (v : Value) (w : World) (hN : N = tupL T ++ intL n) (hT : OkT T) (hI : AllI T) (hn : -9223372036854775808 ≤ n ∧ n ≤ 9223372036854775807) (h : ArgB w v (N ++ m)) :
    Calls Tryz.prog 153 #[v] w fun e w' => (∃ vt, e = .returned (.tuple #[.agg #[vt, .int .i64 n], .int .i64 N.length, .int .i64 0]) ∧ TupIn w'.heap.size w' vt T) ∧ Below w.heap.size w w' :=
  (takeCounted_any v (N ++ m) w h).mono (by
    have hp : cntQ (N ++ m) = some ((T, n), m) := by rw [hN]; exact cntQ_back m (may_ok.2 hT) hI hn
    rintro e w' ⟨hb, ⟨y, r, vd, ho, rfl, ⟨g, hg, rfl, hrow, h8⟩⟩ | ⟨ho, rfl⟩⟩
    · rw [hp] at ho
      injection ho with ho
      injection ho with h1 h2
      subst h1 h2
      exact ⟨⟨_, by rw [len_back], hrow.in_ h8⟩, hb⟩
    · rw [hp] at ho; cases ho)
theorem fromKey_back (T : List V3) (K : List UInt8) (v : Value) (w : World) (hK : K = keyT T) (hT : OkT T) (hI : AllI T) (h : ArgB w v K) :
    Calls Tryz.prog 175 #[v] w fun e w' => (∃ vt, e = .returned (.tuple #[vt, .int .i64 0]) ∧ TupIn w'.heap.size w' vt T) ∧ Below w.heap.size w w' :=
  (fromKey_any v K w h).mono (by
    have hp : keysP K.length K [] = some T := by rw [hK]; exact keysP_back (may_ok.2 hT) hI
    rintro e w' ⟨hb, ⟨U, vt, ho, rfl, hr⟩ | ⟨ho, rfl⟩⟩
    · rw [hp] at ho
      injection ho with ho
      subst ho
      exact ⟨⟨vt, rfl, hr.in_ (Nat.le_trans hT.1 (by decide))⟩, hb⟩
    · rw [hp] at ho; cases ho)
/-- An empty row, laid in a new block, and what is appended to it. -/
theorem empty_own (w : World) : OwnB w.heap.size (w.alloc (.cells #[] 5)) (.slice (some ⟨w.heap.size, 0, none⟩) 0 0) [] := OwnB.lit w.heap.size w #[] [] 0 (Nat.le_refl _) rfl (by decide) rfl
theorem new_in {w : World} {v : Value} {l : List UInt8} (h : BytIn w.heap.size w v l) (o : Obj) : BytIn (w.heap.size + 1) (w.alloc o) v l := (h.below ((Below.refl _ _).alloc (Nat.le_refl _) _)).mono (Nat.le_succ _)
theorem new_below (w : World) (o : Obj) : Below w.heap.size w (w.alloc o) := (Below.refl _ _).alloc (Nat.le_refl _) _
end
section
open Go Go.RowKit Go.Shelf

attribute [local go_sem] Oper.semAt_some

theorem PgS.dlen {E : List Ct} {D : List (List Ct)} {i k : Nat} (h : PgS E D i k) : D.length ≤ E.length := by
  have h1 := congrArg List.length h.2.2.1
  have h2 := pgRest_len E []
  unfold pagesL at h1
  simp at h1 h2
  omega
/-- What the loop of the closure keeps, besides its slots. -/
def PgJ (E : List Ct) (Bs : Nat) (v : Value) (w0 : World) (J : List (List Ct) → (Nat → Prop) → World → Prop) (i k : Nat) (b : Value) (wr : World) : Prop :=
  ∃ D Y B0, PgS E D i k ∧ J D Y wr ∧ Below w0.heap.size w0 wr ∧ w0.heap.size ≤ B0 ∧ (∀ q, Y q → q < B0) ∧ B0 ≤ wr.heap.size ∧ OwnB B0 wr b (((E.take k).drop i).flatMap cntL) ∧ wr.cell? ⟨Bs, 0, none⟩ = some v ∧ Bs < B0
theorem part_ok {E : List Ct} {i k : Nat} (h : ∀ c ∈ E, OkC c) : ∀ c ∈ (E.take k).drop i, OkC c := fun c hc => h c (List.mem_of_mem_take (List.mem_of_mem_drop hc))
theorem part_len {E : List Ct} {i k : Nat} (hk : k ≤ E.length) : ((E.take k).drop i).length = k - i := by rw [List.length_drop, List.length_take]; omega
set_option maxRecDepth 100000 in
set_option maxHeartbeats 8000000 in
theorem pages_in (f : Nat) (hf : 2 ≤ f) (l Bs : Nat) (E : List Ct) (hE : E.length ≤ 1000) (hOk : ∀ c ∈ E, OkC c) (w0 W : World) (hb0 : Below w0.heap.size w0 W) (v : Value) (hv : EnIn w0.heap.size w0 v E) (hBl : Bs < W.heap.size) (hBs : W.cell? ⟨Bs, 0, none⟩ = some v)
    (J : List (List Ct) → (Nat → Prop) → World → Prop) (hJ : ∀ D Y Z A B, J D Y A → Turned Z A B → (∀ k, Z k → ¬ Y k ∧ w0.heap.size ≤ k) → J D Y B) (hJY : ∀ D Y A, J D Y A → ∀ k, Y k → w0.heap.size ≤ k ∧ k < A.heap.size ∧ k ≠ Bs)
    (hY : ∀ D Y P u b W1, J D Y W1 → EnIn w0.heap.size W1 u P → OwnB 0 W1 b (P.flatMap cntL) → P ≠ [] → (∀ x ∈ P, OkC x) → P.length ≤ 1000 → D.length ≤ 1000 → Below w0.heap.size w0 W1 → YieldAt Fence.wide (f - 1) Tryz.prog l #[.agg #[u, b]] W1 fun e W' =>
      e = .returned (.bool true) ∧ ∃ Y', J (D ++ [P]) Y' W' ∧ Turned Y W1 W')
    (Y0 : Nat → Prop) (h0 : J [] Y0 W) :
    CallsIn Fence.wide f Tryz.prog 101 #[.func (.yield l) #[] #[], .pointer (some ⟨Bs, 0, none⟩)] W fun e W' => (∃ v, e = .returned v) ∧ ∃ Y', J (pagesL E) Y' W' := by
  have HJ := Lib.hid hJ
  have HJY := Lib.hid hJY
  have HY := Lib.hid hY
  have HB0 := Lib.hid hb0
  have HV := Lib.hid hv
  have HOk := Lib.hid hOk
  have H0 := Lib.hid (show PgJ E Bs v w0 J 0 0 (.slice none 0 0) W from ⟨[], Y0, W.heap.size, PgS.zero E, h0, hb0, hb0.size, fun q e => (hJY _ _ _ h0 q e).2.1, Nat.le_refl _, by simp; exact OwnB.nil _ _, hBs, hBl⟩)
  have hc0 := hBs
  have h1 : 1 ≤ f := by omega
  have h2 : 1 ≤ f - 1 := by omega
  obtain ⟨p0, c0, rfl, -⟩ := hv
  clear hJ hY hb0 hJY hOk hBs h0
  refine callsIn_of_wp Tryz.func101 rfl trivial ?_ rfl
  simp only [Tryz.ntmps101, List.size_toArray, List.length_cons, List.length_nil, Nat.reduceAdd, Nat.reduceSub, Array.replicate_succ, Array.replicate_zero, List.push_toArray, List.append_toArray, List.nil_append, List.cons_append]
  gi_wp2
  gi_loopw [3, 4, 11] (fun fr b i wr => ∃ i0 k : Nat, fr = .int .i64 i0 ∧ i = .int .i64 k ∧ Hid (PgJ E Bs (.slice p0 E.length c0) w0 J i0 k b wr)) (fun _ _ i _ => E.length - (intOf i).toNat)
  case atStart => exact ⟨0, 0, rfl, rfl, H0⟩
  case round =>
    obtain ⟨i0, k, rfl, rfl, HR⟩ := hrel
    have hik : i0 ≤ k ∧ k ≤ E.length := by obtain ⟨D, Y, B0, h, -⟩ := HR.out; exact ⟨h.1, h.2.1⟩
    have hbw : Below w0.heap.size w0 wr := by obtain ⟨D, Y, B0, -, -, h, -⟩ := HR.out; exact h
    by_cases hlt : k < E.length
    · have hlt' : (k : Int) < (E.length : Int) := by omega
      have hk63 : (k : Int) + 1 ≤ 1001 := by omega
      obtain ⟨b, off, pu, cu, rfl, hb, hx0, hx1, ht⟩ := (HV.out.below hbw).at_ hlt
      obtain ⟨x, hx⟩ : ∃ x, x = E[k] := ⟨_, rfl⟩
      rw [← hx] at hx0 hx1 ht
      have HX := Lib.hid hx
      obtain ⟨xT, xN⟩ := x
      simp only at hx0 hx1 ht
      obtain ⟨w1, hw1⟩ : ∃ w1, w1 = wr.alloc (.cells #[.slice pu xT.length cu, .int .i64 xN] 66) := ⟨_, rfl⟩
      have HB1 := Lib.hid (show Below wr.heap.size wr w1 by rw [hw1]; exact (Below.refl _ _).alloc (Nat.le_refl _) _)
      have HC := Lib.hid (cnt_any pu xT cu xN w1 ((ht.below (HB1.out.mono hbw.size)).mono (Nat.le_trans hbw.size HB1.out.size)) (by rw [HX.out]; exact HOk.out _ (List.getElem_mem _)))
      clear hx ht
      gi_wp2_with fail
      rw [← hw1]
      clear hw1
      refine ⟨trivial, (callsIn_wide.2 HC.out).mono ?_⟩
      rintro e w2 ⟨v2, rfl, ho2, hb2⟩
      obtain ⟨D, Y, B0, hS, hJ1, -, hB0, hYB, hBw, hob, hcs, hsB⟩ := HR.out
      have hb12 : Below wr.heap.size wr w2 := HB1.out.trans (hb2.mono HB1.out.size)
      have HO2 := Lib.hid ho2
      have HOb := Lib.hid (hob.below hb12)
      have HJ2 := Lib.hid (HJ.out _ _ _ _ _ hJ1 (Turned.of_below hb12) (fun _ e => e.elim))
      have HW2 := Lib.hid (hbw.trans (hb12.mono hbw.size))
      have HS := Lib.hid hS
      have HYB := Lib.hid (And.intro hB0 (And.intro hYB (Nat.le_trans hBw hb12.size)))
      have HE2 := Lib.hid (And.intro (show wr.heap.size ≤ w1.heap.size from HB1.out.size) (Nat.le_trans HB1.out.size hb2.size))
      have HFr := Lib.hid hBw
      have hc2 := (hb12.cell (p := ⟨Bs, 0, none⟩) (Nat.lt_of_lt_of_le hsB hBw)).trans hcs
      have HC2 := Lib.hid (And.intro hc2 hsB)
      have HEn := Lib.hid (HV.out.below (hbw.trans (hb12.mono hbw.size)))
      obtain ⟨q4, d4, e4⟩ := HOb.out.in_.shape
      obtain ⟨q2, d2, e2⟩ := HO2.out.in_.shape
      obtain ⟨Pb, hPb⟩ : ∃ Pb, Pb = ((E.take k).drop i0).flatMap cntL := ⟨_, rfl⟩
      obtain ⟨xb, hxb⟩ : ∃ xb, xb = cntL (xT, xN) := ⟨_, rfl⟩
      rw [← hPb] at e4 HOb
      rw [← hxb] at e2 HO2
      subst e4 e2
      have HPb := Lib.hid hPb
      have HXb := Lib.hid (show xb = cntL E[k] by rw [hxb, HX.out])
      have hPl : Pb.length ≤ 5000 * 1000 := by
        have h1 := flatC_len (part_ok (i := i0) (k := k) HOk.out)
        rw [part_len hik.2, ← hPb] at h1
        have : 5000 * (k - i0) ≤ 5000 * 1000 := Nat.mul_le_mul_left _ (by omega)
        omega
      have hxl : xb.length ≤ 5000 := by rw [hxb]; exact cntL_len (by rw [HX.out]; exact HOk.out _ (List.getElem_mem _))
      clear ho2 hb2 hob hJ1 hS hYB hB0 hBw HC hPb hxb HR hcs hsB
      by_cases hcd : i0 < k ∧ 256 < Pb.length + xb.length
      · obtain ⟨hc1, hc3⟩ := hcd
        have hc1' : (i0 : Int) < (k : Int) := by omega
        have hc3' : (256 : Int) < (Pb.length : Int) + (xb.length : Int) := by omega
        have hi00 : (0 : Int) ≤ (i0 : Int) := by omega
        have hkc : (k : Int) ≤ (c0 : Int) := by
          obtain ⟨p', c', e, h1, -⟩ := HEn.out
          injection e with _ _ e3
          omega
        have hne : ¬ c0 = i0 := by omega
        obtain ⟨n1, hn1⟩ : ∃ n1, k - i0 = n1 := ⟨_, rfl⟩
        obtain ⟨m1, hm1⟩ : ∃ m1, c0 - i0 = m1 := ⟨_, rfl⟩
        obtain ⟨fn, tmps, assign, body, hy, hR⟩ := HY.out D Y ((E.take k).drop i0) (.slice (some ⟨b, off + i0 * 2, none⟩) n1 m1) (.slice q4 Pb.length d4) w2 HJ2.out (by have h := HEn.out.part i0 k (Nat.le_of_lt hc1) hik.2; rw [hn1, hm1] at h; exact h) (by rw [← HPb.out]; exact HOb.out.mono (Nat.zero_le _)) (by intro e; have := congrArg List.length e; rw [part_len hik.2] at this; simp at this; omega) (part_ok HOk.out) (by rw [part_len hik.2]; omega) (by have := HS.out.dlen; omega) HW2.out
        gi_wp2_with fail
        refine hR.mono ?_
        rintro e W3 ⟨rfl, Y', hJ3, hT3⟩
        have hW3 : Below w0.heap.size w0 W3 := HW2.out.trans (hT3.below HW2.out.size (fun q e => (HJY.out _ _ _ HJ2.out q e).1))
        have HO3 := Lib.hid (HO2.out.off hT3 (fun q e e' => by
          have a := (World.ownsRow.lt HO2.out q e).1
          have b := HYB.out.2.1 q e'
          have c := HFr.out
          have d := HE2.out.1
          omega))
        have HC3 := Lib.hid (show W3.cell? ⟨Bs, 0, none⟩ = some (.slice (some ⟨b, off, none⟩) E.length c0) ∧ Bs < w2.heap.size from by
          have h := Nat.lt_of_lt_of_le HC2.out.2 HYB.out.2.2
          exact ⟨(World.cell?_of_block (a := ⟨Bs, 0, none⟩) (hT3.block Bs h (fun e => (HJY.out _ _ _ HJ2.out Bs e).2.2 rfl))).trans HC2.out.1, h⟩)
        have HS3 := Lib.hid hT3.size
        have HJ3 := Lib.hid hJ3
        have HW3 := Lib.hid hW3
        have HI3 := Lib.hid HO3.out.in_
        have HNx := Lib.hid (HS.out.next hlt (by rw [← HPb.out, ← HXb.out]; exact ⟨hc1, hc3⟩))
        have hxl2 : ([] : List UInt8).length + xb.length ≤ 100000000000000 := by simp; omega
        clear hJ3 hT3 hW3
        gi_wp2_with (gi_at_builtin; refine wpListIn_app rfl (.tmp 42) (.tmp 43) rfl W3.heap.size W3.heap.size (.slice none 0 0) (.slice q2 xb.length d2) [] xb rfl rfl (OwnB.nil _ _) HI3.out hxl2 (Nat.le_refl _) ?_; intro v4 w4 ho4 hg4; have HN := Lib.hid (And.intro ho4 hg4); clear ho4 hg4)
        gi_wp2_with fail
        go_roundw
        case rel =>
          have hb4 : Below W3.heap.size W3 w4 := (Below.refl _ _).grown HN.out.2 (Nat.le_refl _) (fun k e => by cases e)
          refine ⟨k, k + 1, rfl, by simp, Lib.hid ⟨_, Y', W3.heap.size, HNx.out, HJ.out _ _ _ _ _ HJ3.out (Turned.of_below hb4) (fun _ e => e.elim), HW3.out.trans (hb4.mono HW3.out.size), HW3.out.size, fun q e => (HJY.out _ _ _ HJ3.out q e).2.1, hb4.size, ?_, (hb4.cell (p := ⟨Bs, 0, none⟩) (Nat.lt_of_lt_of_le HC3.out.2 HS3.out)).trans HC3.out.1, Nat.lt_of_lt_of_le HC3.out.2 HS3.out⟩⟩
          have e1 : ((E.take (k + 1)).drop k).flatMap cntL = xb := by
            rw [pg_part (Nat.le_refl k) hlt, List.drop_of_length_le (by rw [List.length_take]; omega), HXb.out]
            simp
          rw [e1]
          exact HN.out.1
        case measure => simp [intOf]; omega
      · have HMo := Lib.hid (HS.out.more hlt (by rw [← HPb.out, ← HXb.out]; exact hcd))
        have hI2 := HO2.out.in_
        have HI2 := Lib.hid hI2
        have hpx : Pb.length + xb.length ≤ 100000000000000 := by omega
        have HPx := Lib.hid hpx
        clear hI2 hpx
        refine Or.elim (Decidable.em (i0 < k)) (fun hc1 => ?yes) (fun hc1 => ?no)
        case yes =>
          have hc1' : (i0 : Int) < (k : Int) := by omega
          have hc3' : ¬ (256 : Int) < (Pb.length : Int) + (xb.length : Int) := by omega
          gi_wp2_with (gi_at_builtin; refine wpListIn_app rfl (.tmp 42) (.tmp 43) rfl B0 w2.heap.size (.slice q4 Pb.length d4) (.slice q2 xb.length d2) Pb xb rfl rfl HOb.out HI2.out HPx.out HYB.out.2.2 ?_; intro v4 w4 ho4 hg4; have HN := Lib.hid (And.intro ho4 hg4); clear ho4 hg4)
          gi_wp2_with fail
          go_roundw
          case rel =>
            have hT := Turned.of_grown HN.out.2
            have hZ : ∀ q, (Value.slice q4 Pb.length d4).ownBlock = some q → ¬ Y q ∧ w0.heap.size ≤ q := fun q e => by
              have a := (World.ownsRow.lt HOb.out q e).1
              exact ⟨fun e' => by have := HYB.out.2.1 q e'; omega, Nat.le_trans HYB.out.1 a⟩
            have hb4 : Below w0.heap.size w0 w4 := HW2.out.trans (hT.below HW2.out.size (fun q e => (hZ q e).2))
            refine ⟨i0, k + 1, rfl, by simp, Lib.hid ⟨D, Y, B0, HMo.out, HJ.out _ _ _ _ _ HJ2.out hT hZ, hb4, HYB.out.1, HYB.out.2.1, Nat.le_trans HYB.out.2.2 hT.size, ?_, (World.cell?_of_block (a := ⟨Bs, 0, none⟩) (hT.block Bs (Nat.lt_of_lt_of_le HC2.out.2 HYB.out.2.2) (fun e => by have a := (World.ownsRow.lt HOb.out Bs e).1; have := HC2.out.2; omega))).trans HC2.out.1, HC2.out.2⟩⟩
            rw [pg_part hik.1 hlt, List.flatMap_append, ← HPb.out]
            have e1 : [E[k]].flatMap cntL = xb := by rw [HXb.out]; simp
            rw [e1]
            exact HN.out.1
          case measure => simp [intOf]; omega
        case no =>
          have hc1' : ¬ (i0 : Int) < (k : Int) := by omega
          gi_wp2_with (gi_at_builtin; refine wpListIn_app rfl (.tmp 42) (.tmp 43) rfl B0 w2.heap.size (.slice q4 Pb.length d4) (.slice q2 xb.length d2) Pb xb rfl rfl HOb.out HI2.out HPx.out HYB.out.2.2 ?_; intro v4 w4 ho4 hg4; have HN := Lib.hid (And.intro ho4 hg4); clear ho4 hg4)
          gi_wp2_with fail
          go_roundw
          case rel =>
            have hT := Turned.of_grown HN.out.2
            have hZ : ∀ q, (Value.slice q4 Pb.length d4).ownBlock = some q → ¬ Y q ∧ w0.heap.size ≤ q := fun q e => by
              have a := (World.ownsRow.lt HOb.out q e).1
              exact ⟨fun e' => by have := HYB.out.2.1 q e'; omega, Nat.le_trans HYB.out.1 a⟩
            have hb4 : Below w0.heap.size w0 w4 := HW2.out.trans (hT.below HW2.out.size (fun q e => (hZ q e).2))
            refine ⟨i0, k + 1, rfl, by simp, Lib.hid ⟨D, Y, B0, HMo.out, HJ.out _ _ _ _ _ HJ2.out hT hZ, hb4, HYB.out.1, HYB.out.2.1, Nat.le_trans HYB.out.2.2 hT.size, ?_, (World.cell?_of_block (a := ⟨Bs, 0, none⟩) (hT.block Bs (Nat.lt_of_lt_of_le HC2.out.2 HYB.out.2.2) (fun e => by have a := (World.ownsRow.lt HOb.out Bs e).1; have := HC2.out.2; omega))).trans HC2.out.1, HC2.out.2⟩⟩
            rw [pg_part hik.1 hlt, List.flatMap_append, ← HPb.out]
            have e1 : [E[k]].flatMap cntL = xb := by rw [HXb.out]; simp
            rw [e1]
            exact HN.out.1
          case measure => simp [intOf]; omega
    · obtain rfl : k = E.length := by omega
      obtain ⟨D, Y, B0, hS, hJ1, -, hB0, hYB, hBw, hob, hc2, -⟩ := HR.out
      have HLa := Lib.hid hS.last
      have HJ1 := Lib.hid hJ1
      have HEn := Lib.hid (HV.out.below hbw)
      rw [List.take_length] at hob
      obtain ⟨Pb, hPb⟩ : ∃ Pb, Pb = (E.drop i0).flatMap cntL := ⟨_, rfl⟩
      have HPb := Lib.hid hPb
      rw [← hPb] at hob
      obtain ⟨q4, d4, e4⟩ := hob.in_.shape
      subst e4
      have HOb := Lib.hid (hob.mono (Nat.zero_le _))
      clear hPb
      have HDl := Lib.hid hS.dlen
      clear hS hJ1 hB0 hYB hBw hob HR
      by_cases hE0 : i0 < E.length
      · have hE0' : (i0 : Int) < (E.length : Int) := by omega
        have hi00 : (0 : Int) ≤ (i0 : Int) := by omega
        obtain ⟨b, off, pu, cu, rfl, -⟩ := HEn.out.at_ hE0
        have hkc : E.length ≤ c0 := by
          obtain ⟨p', c', e, h1, -⟩ := HEn.out
          injection e with _ _ e3
          omega
        have hne : ¬ c0 = i0 := by omega
        have hkc' : (E.length : Int) ≤ (c0 : Int) := by omega
        obtain ⟨n1, hn1⟩ : ∃ n1, E.length - i0 = n1 := ⟨_, rfl⟩
        obtain ⟨m1, hm1⟩ : ∃ m1, c0 - i0 = m1 := ⟨_, rfl⟩
        obtain ⟨fn, tmps, assign, body, hy, hR⟩ := HY.out D Y (E.drop i0) (.slice (some ⟨b, off + i0 * 2, none⟩) n1 m1) (.slice q4 Pb.length d4) wr HJ1.out (by have h := HEn.out.part i0 E.length (Nat.le_of_lt hE0) (Nat.le_refl _); rw [hn1, hm1, List.take_length] at h; exact h) (by rw [← HPb.out]; exact HOb.out) (by intro e; have := congrArg List.length e; rw [List.length_drop] at this; simp at this; omega) (fun x hx => HOk.out x (List.mem_of_mem_drop hx)) (by rw [List.length_drop]; omega) (by have := HDl.out; omega) hbw
        gi_wp2_with fail
        refine hR.mono ?_
        rintro e W3 ⟨rfl, Y', hJ3, -⟩
        gi_wp2_with fail
        refine bodyPost_end (results_none rfl _ _ _) rfl ?_
        exact ⟨⟨_, rfl⟩, Y', by rw [HLa.out, if_pos hE0]; exact hJ3⟩
      · have hE0' : ¬ (i0 : Int) < (E.length : Int) := by omega
        gi_wp2_with fail
        refine bodyPost_end (results_none rfl _ _ _) rfl ?_
        exact ⟨⟨_, rfl⟩, Y, by rw [HLa.out, if_neg hE0, List.append_nil]; exact HJ1.out⟩
end
end Go.Proofs.YtdjhfcopnhcljaaGreatDoor
