/-
  Contract of pack's reading of a number.
  Plain facts on the reading of ints, byte strings and values. No program is named here.
  Contracts of pack's reading of an int, of a byte string, and of a value.
-/
import Derived.Test.YtdjhfcopnhcljaaGreatDoorW16
import Derived.Test.YtdjhfcopnhcljaaGreatDoorW14
import Derived.Laws.DeepNot64
namespace Go.Proofs.YtdjhfcopnhcljaaGreatDoor
section
open Go Go.RowKit

theorem andNot_group (c : UInt8) : bits .andNot .u8 (c.toNat : Int) 128 = ((c.toNat % 128 : Nat) : Int) := by
  have hc := c.toNat_lt
  rw [show (128 : Int) = ((128 : Nat) : Int) from rfl, u8_andNot_nat _ _ (by omega) (by decide)]
  have h := Nat.and_two_pow_sub_one_eq_mod c.toNat 7
  rw [show 255 - 128 = 2 ^ 7 - 1 from rfl, h]
theorem wrap_group (g j : Nat) : IntKind.u64.wrap ((g : Int) * 2 ^ (7 * j)) = ((g * 2 ^ (7 * j) % 18446744073709551616 : Nat) : Int) := by
  rw [wrap_u64', Int.natCast_emod, Int.natCast_mul, Int.natCast_pow]
  rfl
theorem div_group (Y j : Nat) : (Y : Int) / 2 ^ (7 * j) = ((Y / 2 ^ (7 * j) : Nat) : Int) := by
  rw [Int.natCast_ediv, Int.natCast_pow]
  rfl
theorem too_great {g j : Nat} (h : 18446744073709551616 ≤ g * 2 ^ (7 * j)) : g * 2 ^ (7 * j) % 18446744073709551616 / 2 ^ (7 * j) ≠ g := by
  intro e
  have h1 := Nat.div_mul_le_self (g * 2 ^ (7 * j) % 18446744073709551616) (2 ^ (7 * j))
  rw [e] at h1
  have h2 := Nat.mod_lt (g * 2 ^ (7 * j)) (show 18446744073709551616 > 0 by decide)
  omega
theorem ne_true {a b : Nat} (h : a ≠ b) : ((a : Int) != (b : Int)) = true := by
  rw [bne_iff_ne]; omega
theorem ne_false {a b : Nat} (h : a = b) : ((a : Int) != (b : Int)) = false := by subst h; simp
set_option maxHeartbeats 2000000 in
set_option maxRecDepth 100000 in
theorem rdNum_any (n₀ R : Nat) (l : List UInt8) (w : World) (h : RestAt n₀ w R l) : Calls Tryz.prog 171 #[.pointer (some ⟨R, 0, none⟩)] w (ReadEnd (fun x _ v => v = .int .u64 (x : Nat)) n₀ R (numP l 0 0) w) := by
  have H := Lib.hid h
  clear h
  go_enter Tryz.func171, Tryz.ntmps171
  go_wp2_with fail
  go_loopw [3, 4] (fun v i wr => ∃ j x : Nat, j ≤ 10 ∧ i = .int .i64 (7 * (j : Int)) ∧ v = .int .u64 (x : Nat) ∧ ∃ l', Hid (RestAt n₀ wr R l' ∧ KeepR R w wr ∧ x < 2 ^ (7 * j) ∧ numP l 0 0 = numP l' j x)) (fun _ i _ => 70 - (intOf i).toNat)
  case atStart => exact ⟨0, 0, by decide, rfl, rfl, l, Lib.hid ⟨H.out, keep_refl _ _, by decide, rfl⟩⟩
  case round =>
    obtain ⟨j, x, hj, rfl, rfl, l', HI⟩ := hrel
    have h0 : (0 : Int) ≤ (j : Int) := by omega
    by_cases hlt : j < 10
    · have hlt' : 7 * (j : Int) < 64 := by omega
      have hne : ¬ j = 10 := by omega
      go_wp2_with fail
      refine (one_any n₀ R l' wr HI.out.1).mono ?_
      rintro e w1 (⟨c, r, rfl, rfl, hr, hk⟩ | ⟨rfl, rfl, hk⟩)
      rotate_left
      · have HK := Lib.hid (HI.out.2.1.trans hk)
        clear hk
        go_wp2_with fail
        exact ⟨rfl, HK.out, .inr ⟨HI.out.2.2.2, rfl⟩⟩
      have HK := Lib.hid (HI.out.2.1.trans hk)
      have HR := Lib.hid hr
      have HS := Lib.hid (HI.out.2.2.2)
      have HX := Lib.hid HI.out.2.2.1
      clear hr hk HI H
      rw [numP, if_neg hne] at HS
      have hand := andNot_group c
      have hg7 : c.toNat % 128 < 128 := Nat.mod_lt _ (by decide)
      have HC := Lib.hid (show c.toNat < 128 → c.toNat % 128 = c.toNat from fun h => Nat.mod_eq_of_lt h)
      obtain ⟨g, hg⟩ : ∃ g, g = c.toNat % 128 := ⟨_, rfl⟩
      rw [← hg] at hand HS HC hg7
      clear hg
      have hw : IntKind.u64.wrap (g : Int) = (g : Int) := by rw [wrap_u64']; omega
      have hY := wrap_group g j
      by_cases ht : 18446744073709551616 ≤ g * 2 ^ (7 * j)
      · have hq := div_group (g * 2 ^ (7 * j) % 18446744073709551616) j
        have hn := ne_true (too_great ht)
        have HS' : Hid (numP l 0 0 = none) := Lib.hid (by rw [HS.out, if_pos (.inl ht)])
        obtain ⟨Y, hYY⟩ : ∃ Y, Y = g * 2 ^ (7 * j) % 18446744073709551616 := ⟨_, rfl⟩
        rw [← hYY] at hY hq hn
        obtain ⟨q, hqq⟩ : ∃ q, q = Y / 2 ^ (7 * j) := ⟨_, rfl⟩
        rw [← hqq] at hq hn
        clear hYY hqq ht HS
        go_wp2_with fail
        all_goals exact ⟨rfl, HK.out, .inr ⟨HS'.out, rfl⟩⟩
      · have hYY : g * 2 ^ (7 * j) % 18446744073709551616 = g * 2 ^ (7 * j) := Nat.mod_eq_of_lt (by omega)
        have hqq : g * 2 ^ (7 * j) / 2 ^ (7 * j) = g := Nat.mul_div_cancel _ (Nat.two_pow_pos _)
        have hq := div_group (g * 2 ^ (7 * j)) j
        have hor := or_group hlt HX.out (by omega : g * 2 ^ (7 * j) < 18446744073709551616)
        have hnn := group_next HX.out hg7
        rw [hYY] at hY
        rw [hqq] at hq
        clear hYY hqq
        obtain ⟨Y, hYY⟩ : ∃ Y, Y = g * 2 ^ (7 * j) := ⟨_, rfl⟩
        rw [← hYY] at hY hq hor ht HS hnn
        clear hYY
        have HNN := Lib.hid hnn
        clear hnn
        have hn := ne_false (rfl : g = g)
        by_cases hb : c = 0 ∧ 0 < j
        · have HS' : Hid (numP l 0 0 = none) := Lib.hid (by rw [HS.out, if_pos (.inr hb)])
          have hz : ((c.toNat : Int) == 0) = true := by rw [hb.1]; rfl
          have hj0 : 0 < 7 * (j : Int) := by omega
          clear hb HS
          go_wp2_with fail
          exact ⟨rfl, HK.out, .inr ⟨HS'.out, rfl⟩⟩
        · have cz : ((c.toNat : Int) == 0) = false ∨ ((c.toNat : Int) == 0) = true ∧ 7 * (j : Int) ≤ 0 := by
            cases hz : ((c.toNat : Int) == 0) with
            | false => exact .inl rfl
            | true =>
              have hc : c = 0 := byte_is hz rfl
              exact .inr ⟨rfl, by have : ¬ 0 < j := fun h => hb ⟨hc, h⟩; omega⟩
          have hor2 : ¬ (18446744073709551616 ≤ Y ∨ c = 0 ∧ 0 < j) := fun h => h.elim ht hb
          by_cases h7 : c.toNat < 128
          · have h7' : (c.toNat : Int) < 128 := by omega
            have HS' : Hid (numP l 0 0 = some (x + Y, r)) := Lib.hid (by rw [HS.out, if_neg hor2, if_pos h7])
            clear hb hor2 HS ht
            rcases cz with hz | ⟨hz, hj0⟩
            all_goals
              go_wp2_with fail
              go_ret
              exact ⟨HK.out, .inl ⟨_, _, _, HS'.out, rfl, congrArg (Value.int .u64) (by omega : (x : Int) + (Y : Int) = ((x + Y : Nat) : Int)), HR.out⟩⟩
          · have h7' : (128 : Int) ≤ (c.toNat : Int) := by omega
            have hz : ((c.toNat : Int) == 0) = false := by rw [beq_eq_false_iff_ne]; omega
            have HS' : Hid (numP l 0 0 = numP r (j + 1) (x + Y)) := Lib.hid (by rw [HS.out, if_neg hor2, if_neg h7])
            clear hb hor2 HS ht cz
            go_wp2_with fail
            go_roundw
            case rel => exact ⟨j + 1, x + Y, by omega, by go_num, by go_num, r, Lib.hid ⟨HR.out, HK.out, HNN.out, HS'.out⟩⟩
            case measure => simp [intOf]; omega
    · obtain rfl : j = 10 := by omega
      have HS' : Hid (numP l 0 0 = none) := Lib.hid (by rw [HI.out.2.2.2]; cases l' <;> rfl)
      go_wp2_with fail
      exact ⟨rfl, HI.out.2.1, .inr ⟨HS'.out, rfl⟩⟩
end
section
open Go

/-- The int that a number stands for. -/
def unzig (y : Nat) : Int := if y % 2 = 1 then -1 - ((y / 2 : Nat) : Int) else ((y / 2 : Nat) : Int)
theorem unzig_fits {y : Nat} (h : y < 18446744073709551616) : -9223372036854775808 ≤ unzig y ∧ unzig y ≤ 9223372036854775807 := by unfold unzig; split <;> omega
theorem zigN_unzig {y : Nat} : zigN (unzig y) = y := by
  unfold unzig zigN
  split
  · rw [if_pos (by omega)]; omega
  · rw [if_neg (by omega)]; omega
theorem unzig_zigN (x : Int) : unzig (zigN x) = x := by
  unfold unzig zigN
  split
  · rw [if_pos (by omega)]; omega
  · rw [if_neg (by omega)]; omega
def intQ (l : List UInt8) : Option (Int × List UInt8) := (numP l 0 0).map fun p => (unzig p.1, p.2)
theorem intQ_is {l r : List UInt8} {x : Int} (h : intQ l = some (x, r)) : l = intL x ++ r ∧ -9223372036854775808 ≤ x ∧ x ≤ 9223372036854775807 := by
  unfold intQ at h
  cases e : numP l 0 0 with
  | none => rw [e] at h; cases h
  | some p =>
    obtain ⟨y, r'⟩ := p
    rw [e] at h
    injection h with h
    injection h with h1 h2
    obtain ⟨h3, h4⟩ := numP_all e
    subst h1 h2
    refine ⟨?_, unzig_fits h4⟩
    unfold intL
    rw [zigN_unzig]
    exact h3
/-- A byte string of at most so many bytes. -/
def textQ (l : List UInt8) (m : Nat) : Option (List UInt8 × List UInt8) :=
  match numP l 0 0 with
  | some (n, r) => if n ≤ m ∧ n ≤ r.length then some (r.take n, r.drop n) else none
  | none => none
theorem textQ_is {l s r : List UInt8} {m : Nat} (h : textQ l m = some (s, r)) : l = textL s ++ r ∧ s.length ≤ m := by
  unfold textQ at h
  cases e : numP l 0 0 with
  | none => rw [e] at h; cases h
  | some p =>
    obtain ⟨n, r'⟩ := p
    rw [e] at h
    obtain ⟨h3, h4⟩ := numP_all e
    simp only at h
    by_cases hn : n ≤ m ∧ n ≤ r'.length
    · rw [if_pos hn] at h
      injection h with h
      injection h with h1 h2
      have hl : s.length = n := by rw [← h1, List.length_take]; omega
      refine ⟨?_, by omega⟩
      unfold textL
      rw [hl, ← h1, ← h2, List.append_assoc, List.take_append_drop]
      exact h3
    · rw [if_neg hn] at h; cases h
def valQ : List UInt8 → Option (V3 × List UInt8)
  | [] => none
  | c :: r => if c = 1 then (intQ r).map (fun p => (⟨1, p.1, ⟨#[]⟩⟩, p.2)) else if c = 2 then (textQ r 256).map (fun p => (symV p.1, p.2)) else none
theorem valQ_int (r : List UInt8) : valQ (1 :: r) = (intQ r).map (fun p => (⟨1, p.1, ⟨#[]⟩⟩, p.2)) := by rw [valQ, if_pos rfl]
theorem valQ_sym (r : List UInt8) : valQ (2 :: r) = (textQ r 256).map (fun p => (symV p.1, p.2)) := by rw [valQ, if_neg (by decide), if_pos rfl]
theorem valQ_none {c : UInt8} (r : List UInt8) (h1 : c ≠ 1) (h2 : c ≠ 2) : valQ (c :: r) = none := by rw [valQ, if_neg h1, if_neg h2]
theorem valQ_is {l r : List UInt8} {x : V3} (h : valQ l = some (x, r)) : l = oneL x ++ r ∧ MayV x ∧ -9223372036854775808 ≤ x.n ∧ x.n ≤ 9223372036854775807 := by
  cases l with
  | nil => cases h
  | cons c l =>
    by_cases h1 : c = 1
    · subst h1
      rw [valQ_int] at h
      cases e : intQ l with
      | none => rw [e] at h; cases h
      | some p =>
        obtain ⟨y, r'⟩ := p
        rw [e] at h
        injection h with h
        injection h with ha hb
        obtain ⟨h3, h4⟩ := intQ_is e
        subst ha hb
        refine ⟨?_, .inl ⟨rfl, Lib.toList_data _⟩, h4⟩
        unfold oneL
        rw [if_pos rfl, h3]
        rfl
    · by_cases h2 : c = 2
      · subst h2
        rw [valQ_sym] at h
        cases e : textQ l 256 with
        | none => rw [e] at h; cases h
        | some p =>
          obtain ⟨s, r'⟩ := p
          rw [e] at h
          injection h with h
          injection h with ha hb
          obtain ⟨h3, h4⟩ := textQ_is e
          subst ha hb
          refine ⟨?_, symV_may h4, by show (-9223372036854775808 : Int) ≤ 0; decide, by show (0 : Int) ≤ 9223372036854775807; decide⟩
          unfold oneL
          rw [if_neg (by show ¬ (2 : Int) = 1; decide), h3]
          rfl
      · rw [valQ_none l h1 h2] at h; cases h
def valsQ : Nat → List UInt8 → Option (List V3 × List UInt8)
  | 0, r => some ([], r)
  | n + 1, r => match valQ r with | some (x, r') => (valsQ n r').map (fun p => (x :: p.1, p.2)) | none => none
theorem valsQ_is : ∀ (n : Nat) (l r : List UInt8) (T : List V3), valsQ n l = some (T, r) → T.length = n ∧ l = T.flatMap oneL ++ r ∧ ∀ x ∈ T, MayV x ∧ -9223372036854775808 ≤ x.n ∧ x.n ≤ 9223372036854775807
  | 0, l, r, T => fun h => by
    injection h with h
    injection h with ha hb
    subst ha hb
    exact ⟨rfl, rfl, fun x hx => by cases hx⟩
  | n + 1, l, r, T => fun h => by
    rw [valsQ] at h
    cases e : valQ l with
    | none => rw [e] at h; cases h
    | some p =>
      obtain ⟨x, r'⟩ := p
      rw [e] at h
      cases e2 : valsQ n r' with
      | none => simp only [e2] at h; cases h
      | some q =>
        obtain ⟨T', r2⟩ := q
        simp only [e2] at h
        injection h with h
        injection h with ha hb
        obtain ⟨h1, h2, h3⟩ := valsQ_is n r' r2 T' e2
        obtain ⟨h4, h5⟩ := valQ_is e
        subst ha hb
        refine ⟨by simp [h1], ?_, fun y hy => ?_⟩
        · rw [h4, h2]; simp
        · rcases List.mem_cons.1 hy with rfl | hy
          · exact h5
          · exact h3 y hy
def tupQ : List UInt8 → Option (List V3 × List UInt8)
  | [] => none
  | c :: r => if 8 < c.toNat then none else valsQ c.toNat r
theorem tupQ_is {l r : List UInt8} {T : List V3} (h : tupQ l = some (T, r)) : l = tupL T ++ r ∧ MayT T ∧ ∀ x ∈ T, -9223372036854775808 ≤ x.n ∧ x.n ≤ 9223372036854775807 := by
  cases l with
  | nil => cases h
  | cons c l =>
    rw [tupQ] at h
    by_cases h8 : 8 < c.toNat
    · rw [if_pos h8] at h; cases h
    · rw [if_neg h8] at h
      obtain ⟨h1, h2, h3⟩ := valsQ_is _ _ _ _ h
      refine ⟨?_, ⟨by omega, fun x hx => (h3 x hx).1⟩, fun x hx => (h3 x hx).2⟩
      unfold tupL
      rw [h1, UInt8.ofNat_toNat, h2]
      rfl
/-- A tuple and its count. -/
def cntQ (l : List UInt8) : Option ((List V3 × Int) × List UInt8) := match tupQ l with | some (T, r) => (intQ r).map (fun p => ((T, p.1), p.2)) | none => none
theorem cntQ_is {l r : List UInt8} {T : List V3} {n : Int} (h : cntQ l = some ((T, n), r)) : l = (tupL T ++ intL n) ++ r ∧ MayT T ∧ (∀ x ∈ T, -9223372036854775808 ≤ x.n ∧ x.n ≤ 9223372036854775807) ∧ -9223372036854775808 ≤ n ∧ n ≤ 9223372036854775807 := by
  unfold cntQ at h
  cases e : tupQ l with
  | none => rw [e] at h; cases h
  | some p =>
    obtain ⟨T', r'⟩ := p
    rw [e] at h
    cases e2 : intQ r' with
    | none => simp only [e2] at h; cases h
    | some q =>
      obtain ⟨y, r2⟩ := q
      simp only [e2] at h
      injection h with h
      injection h with ha hb
      injection ha with ha1 ha2
      obtain ⟨h1, h2, h3⟩ := tupQ_is e
      obtain ⟨h4, h5⟩ := intQ_is e2
      subst ha1 ha2 hb
      exact ⟨by rw [h1, h4, List.append_assoc], h2, h3, h5⟩
end
section
open Go Go.RowKit

theorem and_one (y : Nat) (h : y < 18446744073709551616) : bits .and .u64 (y : Int) 1 = ((y % 2 : Nat) : Int) := by
  rw [show (1 : Int) = ((1 : Nat) : Int) from rfl, u64_and_nat _ _ h (by decide), Nat.and_one_is_mod]
set_option maxHeartbeats 2000000 in
set_option maxRecDepth 100000 in
theorem rdI_any (n₀ R : Nat) (l : List UInt8) (w : World) (h : RestAt n₀ w R l) : Calls Tryz.prog 200 #[.pointer (some ⟨R, 0, none⟩)] w (ReadEnd (fun x _ v => v = .int .i64 x) n₀ R (intQ l) w) := by
  have H := Lib.hid h
  clear h
  go_enter Tryz.func200, Tryz.ntmps200
  go_wp2_with fail
  refine (rdNum_any n₀ R l w H.out).mono ?_
  rintro e w1 ⟨hk, ⟨y, r, v, ho, rfl, rfl, hr⟩ | ⟨ho, rfl⟩⟩
  · have hy := (numP_all ho).2
    have HK := Lib.hid hk
    have HR := Lib.hid hr
    have HO : Hid (intQ l = some (unzig y, r)) := Lib.hid (by unfold intQ; rw [ho]; rfl)
    clear hk hr ho
    have ha := and_one y hy
    have hd : (y : Int) / 2 = ((y / 2 : Nat) : Int) := by omega
    have hx := i64_not (y / 2) (by omega)
    have hw : wrap64 ((y / 2 : Nat) : Int) = ((y / 2 : Nat) : Int) := by unfold wrap64; omega
    have HU := Lib.hid (show unzig y = if y % 2 = 1 then -1 - ((y / 2 : Nat) : Int) else ((y / 2 : Nat) : Int) from rfl)
    obtain ⟨q, hq⟩ : ∃ q, q = y / 2 := ⟨_, rfl⟩
    rw [← hq] at hd hx hw HU
    have HW := Lib.hid hw
    rcases Nat.mod_two_eq_zero_or_one y with h2 | h2
    · rw [h2] at ha HU
      clear hq h2 hy
      go_wp2_with fail
      go_ret
      exact ⟨HK.out, .inl ⟨_, _, _, HO.out, rfl, by rw [HU.out]; exact congrArg (Value.int .i64) HW.out, HR.out⟩⟩
    · rw [h2] at ha HU
      clear hq h2 hy
      go_wp2_with fail
      go_ret
      exact ⟨HK.out, .inl ⟨_, _, _, HO.out, rfl, by rw [HU.out]; rfl, HR.out⟩⟩
  · have HK := Lib.hid hk
    have HO : Hid (intQ l = none) := Lib.hid (by unfold intQ; rw [ho]; rfl)
    clear hk ho
    go_wp2_with fail
    exact ⟨rfl, HK.out, .inr ⟨HO.out, rfl⟩⟩

/-- Nothing is taken. -/
theorem slice_zero {n₀ : Nat} {w : World} {p : Option Addr} {cap : Nat} {l : List UInt8} (h : BytIn n₀ w (.slice p l.length cap) l) : BytIn n₀ w (.slice p 0 cap) [] := by
  rcases h with ⟨e, rfl⟩ | ⟨a, c, e, -⟩
  · exact .inl ⟨e, rfl⟩
  · injection e with e1 _ e3
    subst e1 e3
    exact .inr ⟨a, cap, rfl, fun j hj => by simp at hj⟩
set_option maxHeartbeats 1000000 in
set_option maxRecDepth 100000 in
theorem take_zero (n₀ R : Nat) (l : List UInt8) (w : World) (h : RestAt n₀ w R l) :
    Calls Tryz.prog 207 #[.pointer (some ⟨R, 0, none⟩), .int .u64 0] w (TakeEnd n₀ R l 0 w) := by
  obtain ⟨hR, p, cap, hb, hc, hm, hi⟩ := h
  unfold maxLen at hm
  have c0 : w.cell? ⟨R, 0, none⟩ = some (.slice p l.length cap) := cell_of_row w R 0 _ _ (0, 0) hb
  have f0 : w.frozen? ⟨R, 0, none⟩ = false := frozen_of_row w R 0 _ _ hb
  have hi1 : (l.length : Int) ≤ (cap : Int) := by omega
  have hi2 : (cap : Int) ≤ 9223372036854775807 := by omega
  have hi3 : (0 : Int) ≤ (l.length : Int) := by omega
  have hi5 : (0 : Int) ≤ (cap : Int) := by omega
  have HE : Hid (TakeEnd n₀ R l 0 w (.returned (.slice p 0 cap)) (w.setCell ⟨R, 0, none⟩ (.slice p l.length cap))) := Lib.hid
    ⟨p, cap, rfl, (slice_zero hi).set hR _, ⟨hR, p, cap, set_row hb, hc, by unfold maxLen; exact hm, hi.set hR _⟩, keep_set _ _ _ _⟩
  rcases hi with ⟨e, rfl⟩ | ⟨a, c', e, -⟩
  · injection e with e1 e2 e3
    subst e1 e3
    clear e2 hb
    go_enter Tryz.func207, Tryz.ntmps207
    go_wp2_with fail
    go_ret
    exact HE.out
  · injection e with e1 _ e3
    subst e1 e3
    clear hb
    go_enter Tryz.func207, Tryz.ntmps207
    go_wp2_with fail
    go_ret
    exact HE.out
theorem take_any (n₀ R : Nat) (l : List UInt8) (n : Nat) (w : World) (h : RestAt n₀ w R l) :
    Calls Tryz.prog 207 #[.pointer (some ⟨R, 0, none⟩), .int .u64 n] w fun e w' => (n ≤ l.length ∧ TakeEnd n₀ R l n w e w') ∨ (l.length < n ∧ e = .panicked badP ∧ w = w') := by
  rcases Nat.lt_or_ge l.length n with hn | hn
  · exact (take_no n₀ R l n w h hn).mono fun e w' he => .inr ⟨hn, he⟩
  · rcases Nat.eq_zero_or_pos n with rfl | h0
    · exact (take_zero n₀ R l w h).mono fun e w' he => .inl ⟨hn, he⟩
    · exact (take_yes n₀ R l n w h hn h0).mono fun e w' he => .inl ⟨hn, he⟩
end
end Go.Proofs.YtdjhfcopnhcljaaGreatDoor
