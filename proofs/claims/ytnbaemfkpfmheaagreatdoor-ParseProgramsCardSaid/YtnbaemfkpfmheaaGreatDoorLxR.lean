/-
  Contracts of the document's lexer: small, great, digit, inner, blank, gap, name, digits, quoted.
-/
import Derived.Test.YtnbaemfkpfmheaaGreatDoorLxC
namespace Go.Proofs.YtnbaemfkpfmheaaGreatDoor
open Go Go.RowKit

theorem ret_bool {a b : Bool} (h : a = b) : Ending.returned (.bool a) = .returned (.bool b) := by rw [h]
set_option maxHeartbeats 400000 in
theorem rsmall_any (c : UInt8) (w : World) : Calls Tryz.prog 97 #[.int .u8 c.toNat] w fun e w' => e = .returned (.bool (cls c == 1)) ∧ w = w' := by
  have hz : (cls c == 1) = decide (97 ≤ c.toNat ∧ c.toNat ≤ 122) := by
    unfold cls
    by_cases h : 97 ≤ c.toNat ∧ c.toNat ≤ 122
    · rw [decide_eq_true h]
      (repeat' split) <;> first | rfl | (exfalso; omega)
    · rw [decide_eq_false h]
      (repeat' split) <;> first | rfl | (exfalso; omega)
  rw [hz]
  by_cases h1 : 97 ≤ c.toNat
  · have h1' : (97 : Int) ≤ (c.toNat : Int) := by omega
    by_cases h2 : c.toNat ≤ 122
    · have h2' : (c.toNat : Int) ≤ 122 := by omega
      have hd : decide (97 ≤ c.toNat ∧ c.toNat ≤ 122) = true := decide_eq_true ⟨h1, h2⟩
      rw [hd]
      clear hz h1 h2 hd
      go_enter Tryz.func97, Tryz.ntmps97
      go_wp2_with fail
      go_ret
      exact ⟨rfl, rfl⟩
    · have h2' : ¬ (c.toNat : Int) ≤ 122 := by omega
      have h3' : (122 : Int) < (c.toNat : Int) := by omega
      have hd : decide (97 ≤ c.toNat ∧ c.toNat ≤ 122) = false := decide_eq_false (fun h => h2 h.2)
      rw [hd]
      clear hz h1 h2 hd
      go_enter Tryz.func97, Tryz.ntmps97
      go_wp2_with fail
      go_ret
      exact ⟨rfl, rfl⟩
  · have h1' : ¬ (97 : Int) ≤ (c.toNat : Int) := by omega
    have h3' : (c.toNat : Int) < 97 := by omega
    have hd : decide (97 ≤ c.toNat ∧ c.toNat ≤ 122) = false := decide_eq_false (fun h => h1 h.1)
    rw [hd]
    clear hz h1 hd
    go_enter Tryz.func97, Tryz.ntmps97
    go_wp2_with fail
    go_ret
    exact ⟨rfl, rfl⟩
set_option maxHeartbeats 400000 in
theorem rgreat_any (c : UInt8) (w : World) : Calls Tryz.prog 98 #[.int .u8 c.toNat] w fun e w' => e = .returned (.bool (cls c == 2)) ∧ w = w' := by
  have hz : (cls c == 2) = decide (65 ≤ c.toNat ∧ c.toNat ≤ 90) := by
    unfold cls
    by_cases h : 65 ≤ c.toNat ∧ c.toNat ≤ 90
    · rw [decide_eq_true h]
      (repeat' split) <;> first | rfl | (exfalso; omega)
    · rw [decide_eq_false h]
      (repeat' split) <;> first | rfl | (exfalso; omega)
  rw [hz]
  by_cases h1 : 65 ≤ c.toNat
  · have h1' : (65 : Int) ≤ (c.toNat : Int) := by omega
    by_cases h2 : c.toNat ≤ 90
    · have h2' : (c.toNat : Int) ≤ 90 := by omega
      have hd : decide (65 ≤ c.toNat ∧ c.toNat ≤ 90) = true := decide_eq_true ⟨h1, h2⟩
      rw [hd]
      clear hz h1 h2 hd
      go_enter Tryz.func98, Tryz.ntmps98
      go_wp2_with fail
      go_ret
      exact ⟨rfl, rfl⟩
    · have h2' : ¬ (c.toNat : Int) ≤ 90 := by omega
      have h3' : (90 : Int) < (c.toNat : Int) := by omega
      have hd : decide (65 ≤ c.toNat ∧ c.toNat ≤ 90) = false := decide_eq_false (fun h => h2 h.2)
      rw [hd]
      clear hz h1 h2 hd
      go_enter Tryz.func98, Tryz.ntmps98
      go_wp2_with fail
      go_ret
      exact ⟨rfl, rfl⟩
  · have h1' : ¬ (65 : Int) ≤ (c.toNat : Int) := by omega
    have h3' : (c.toNat : Int) < 65 := by omega
    have hd : decide (65 ≤ c.toNat ∧ c.toNat ≤ 90) = false := decide_eq_false (fun h => h1 h.1)
    rw [hd]
    clear hz h1 hd
    go_enter Tryz.func98, Tryz.ntmps98
    go_wp2_with fail
    go_ret
    exact ⟨rfl, rfl⟩
set_option maxHeartbeats 400000 in
theorem rdigit_any (c : UInt8) (w : World) : Calls Tryz.prog 100 #[.int .u8 c.toNat] w fun e w' => e = .returned (.bool (cls c == 4)) ∧ w = w' := by
  have hz : (cls c == 4) = decide (48 ≤ c.toNat ∧ c.toNat ≤ 57) := by
    unfold cls
    by_cases h : 48 ≤ c.toNat ∧ c.toNat ≤ 57
    · rw [decide_eq_true h]
      (repeat' split) <;> first | rfl | (exfalso; omega)
    · rw [decide_eq_false h]
      (repeat' split) <;> first | rfl | (exfalso; omega)
  rw [hz]
  by_cases h1 : 48 ≤ c.toNat
  · have h1' : (48 : Int) ≤ (c.toNat : Int) := by omega
    by_cases h2 : c.toNat ≤ 57
    · have h2' : (c.toNat : Int) ≤ 57 := by omega
      have hd : decide (48 ≤ c.toNat ∧ c.toNat ≤ 57) = true := decide_eq_true ⟨h1, h2⟩
      rw [hd]
      clear hz h1 h2 hd
      go_enter Tryz.func100, Tryz.ntmps100
      go_wp2_with fail
      go_ret
      exact ⟨rfl, rfl⟩
    · have h2' : ¬ (c.toNat : Int) ≤ 57 := by omega
      have h3' : (57 : Int) < (c.toNat : Int) := by omega
      have hd : decide (48 ≤ c.toNat ∧ c.toNat ≤ 57) = false := decide_eq_false (fun h => h2 h.2)
      rw [hd]
      clear hz h1 h2 hd
      go_enter Tryz.func100, Tryz.ntmps100
      go_wp2_with fail
      go_ret
      exact ⟨rfl, rfl⟩
  · have h1' : ¬ (48 : Int) ≤ (c.toNat : Int) := by omega
    have h3' : (c.toNat : Int) < 48 := by omega
    have hd : decide (48 ≤ c.toNat ∧ c.toNat ≤ 57) = false := decide_eq_false (fun h => h1 h.1)
    rw [hd]
    clear hz h1 hd
    go_enter Tryz.func100, Tryz.ntmps100
    go_wp2_with fail
    go_ret
    exact ⟨rfl, rfl⟩
set_option maxHeartbeats 1000000 in
theorem rinner_any (c : UInt8) (w : World) : Calls Tryz.prog 109 #[.int .u8 c.toNat] w fun e w' => e = .returned (.bool (inB c)) ∧ w = w' := by
  have HS := Lib.hid (rsmall_any c w)
  have HR := Lib.hid (rgreat_any c w)
  have HD := Lib.hid (rdigit_any c w)
  obtain ⟨z, hz⟩ : ∃ z, z = cls c := ⟨_, rfl⟩
  have hcs := cls_cases c
  have hi : inB c = (z != 0) := by unfold inB; rw [hz]
  have h95 : ((c.toNat : Int) == 95) = (z == 8) := by
    rw [hz]
    unfold cls
    by_cases h : c.toNat = 95
    · have h' : (c.toNat : Int) = 95 := by omega
      rw [if_neg (by omega), if_neg (by omega), if_pos h, h']
      rfl
    · have h' : ¬ (c.toNat : Int) = 95 := by omega
      rw [beq_eq_false_iff_ne.2 h']
      (repeat' split) <;> first | rfl | (exfalso; omega)
  rw [hi]
  rw [← hz] at HS HR HD hcs
  clear hz hi
  rcases hcs with rfl | rfl | rfl | rfl | rfl
  all_goals
    go_enter Tryz.func109, Tryz.ntmps109
    go_wp2_with (first
      | (go_at_call 97; refine HS.out.mono ?_; rintro e w1 ⟨rfl, rfl⟩)
      | (go_at_call 98; refine HR.out.mono ?_; rintro e w1 ⟨rfl, rfl⟩)
      | (go_at_call 100; refine HD.out.mono ?_; rintro e w1 ⟨rfl, rfl⟩))
    go_ret
    exact ⟨ret_bool (by first | rfl | exact h95), rfl⟩
set_option maxHeartbeats 1000000 in
theorem rblank_any (c : UInt8) (w : World) : Calls Tryz.prog 96 #[.int .u8 c.toNat] w fun e w' => e = .returned (.bool (isBlank c)) ∧ w = w' := by
  have e : ∀ d : UInt8, ((c.toNat : Int) == (d.toNat : Int)) = (c == d) := by
    intro d
    by_cases h : c = d
    · rw [h]; simp
    · rw [beq_eq_false_iff_ne.2 h, beq_eq_false_iff_ne.2]
      intro e
      exact h (UInt8.toNat_inj.1 (by omega))
  have h32 : ((c.toNat : Int) == 32) = (c == 32) := e 32
  have h9 : ((c.toNat : Int) == 9) = (c == 9) := e 9
  have h10 : ((c.toNat : Int) == 10) = (c == 10) := e 10
  have h13 : ((c.toNat : Int) == 13) = (c == 13) := e 13
  have hB : isBlank c = (c == 32 || c == 9 || c == 10 || c == 13) := rfl
  rw [hB]
  clear e hB
  cases g32 : (c == 32) <;> cases g9 : (c == 9) <;> cases g10 : (c == 10) <;> cases g13 : (c == 13)
  all_goals
    rw [g32] at h32
    rw [g9] at h9
    rw [g10] at h10
    rw [g13] at h13
    clear g32 g9 g10 g13
    go_enter Tryz.func96, Tryz.ntmps96
    go_wp2_with fail
    go_ret
    exact ⟨rfl, rfl⟩
set_option maxHeartbeats 1000000 in
set_option maxRecDepth 100000 in
theorem rname_any (s : ByteArray) (p : Nat) (w : World) (hm : s.size ≤ 1000000) (hp : p ≤ s.size) :
    Calls Tryz.prog 99 #[.string s, .int .i64 p] w fun e w' => e = .returned (.int .i64 ((p + ((s.data.toList.drop p).takeWhile inB).length : Nat) : Int)) ∧ w = w' := by
  obtain ⟨N, hN⟩ : ∃ N, N = p + ((s.data.toList.drop p).takeWhile inB).length := ⟨_, rfl⟩
  have HN := Lib.hid hN
  rw [← hN]
  clear hN
  go_enter Tryz.func99, Tryz.ntmps99
  go_wp2_with fail
  go_loop [1] (fun i => ∃ k : Nat, k ≤ s.size ∧ i = .int .i64 k ∧ Hid (N = k + ((s.data.toList.drop k).takeWhile inB).length)) (fun i => s.size - (intOf i).toNat)
  case atStart => exact ⟨p, hp, rfl, HN⟩
  case round =>
    obtain ⟨k, hk, rfl, HK⟩ := hrel
    by_cases hlt : k < s.size
    · have hlt' : (k : Int) < (s.size : Int) := by omega
      have HC := rinner_any s[k] w
      have hd : (cls s[k] == 4) = isDig s[k] := rfl
      try rw [hd] at HC
      clear hd
      cases hb : inB s[k] with
      | true =>
        rw [hb] at HC
        have HC := Lib.hid HC
        have HQ : Hid (N = k + 1 + ((s.data.toList.drop (k + 1)).takeWhile inB).length) := Lib.hid (by rw [HK.out, tw_step hlt, if_pos hb]; omega)
        clear hb
        go_wp2_with (go_at_call 109; refine HC.out.mono ?_; rintro e w1 ⟨rfl, rfl⟩)
        go_round
        case rel => exact ⟨k + 1, by omega, by go_num, HQ⟩
        case measure => simp [intOf]; omega
      | false =>
        rw [hb] at HC
        have HC := Lib.hid HC
        have HQ : Hid (N = k) := Lib.hid (by rw [HK.out, tw_step hlt, if_neg (by rw [hb]; decide)]; rfl)
        clear hb
        go_wp2_with (go_at_call 109; refine HC.out.mono ?_; rintro e w1 ⟨rfl, rfl⟩)
        go_ret
        exact ⟨ret_int (by rw [HQ.out]), rfl⟩
    · have hge : ¬ (k : Int) < (s.size : Int) := by omega
      have HQ : Hid (N = k) := Lib.hid (by rw [HK.out, tw_none (by omega)]; omega)
      go_wp2_with fail
      go_ret
      exact ⟨ret_int (by rw [HQ.out]), rfl⟩
set_option maxHeartbeats 1000000 in
set_option maxRecDepth 100000 in
theorem rdigits_any (s : ByteArray) (p : Nat) (w : World) (hm : s.size ≤ 1000000) (hp : p ≤ s.size) :
    Calls Tryz.prog 102 #[.string s, .int .i64 p] w fun e w' => e = .returned (.int .i64 ((p + ((s.data.toList.drop p).takeWhile isDig).length : Nat) : Int)) ∧ w = w' := by
  obtain ⟨N, hN⟩ : ∃ N, N = p + ((s.data.toList.drop p).takeWhile isDig).length := ⟨_, rfl⟩
  have HN := Lib.hid hN
  rw [← hN]
  clear hN
  go_enter Tryz.func102, Tryz.ntmps102
  go_wp2_with fail
  go_loop [1] (fun i => ∃ k : Nat, k ≤ s.size ∧ i = .int .i64 k ∧ Hid (N = k + ((s.data.toList.drop k).takeWhile isDig).length)) (fun i => s.size - (intOf i).toNat)
  case atStart => exact ⟨p, hp, rfl, HN⟩
  case round =>
    obtain ⟨k, hk, rfl, HK⟩ := hrel
    by_cases hlt : k < s.size
    · have hlt' : (k : Int) < (s.size : Int) := by omega
      have HC := rdigit_any s[k] w
      have hd : (cls s[k] == 4) = isDig s[k] := rfl
      try rw [hd] at HC
      clear hd
      cases hb : isDig s[k] with
      | true =>
        rw [hb] at HC
        have HC := Lib.hid HC
        have HQ : Hid (N = k + 1 + ((s.data.toList.drop (k + 1)).takeWhile isDig).length) := Lib.hid (by rw [HK.out, tw_step hlt, if_pos hb]; omega)
        clear hb
        go_wp2_with (go_at_call 100; refine HC.out.mono ?_; rintro e w1 ⟨rfl, rfl⟩)
        go_round
        case rel => exact ⟨k + 1, by omega, by go_num, HQ⟩
        case measure => simp [intOf]; omega
      | false =>
        rw [hb] at HC
        have HC := Lib.hid HC
        have HQ : Hid (N = k) := Lib.hid (by rw [HK.out, tw_step hlt, if_neg (by rw [hb]; decide)]; rfl)
        clear hb
        go_wp2_with (go_at_call 100; refine HC.out.mono ?_; rintro e w1 ⟨rfl, rfl⟩)
        go_ret
        exact ⟨ret_int (by rw [HQ.out]), rfl⟩
    · have hge : ¬ (k : Int) < (s.size : Int) := by omega
      have HQ : Hid (N = k) := Lib.hid (by rw [HK.out, tw_none (by omega)]; omega)
      go_wp2_with fail
      go_ret
      exact ⟨ret_int (by rw [HQ.out]), rfl⟩
set_option maxHeartbeats 2000000 in
set_option maxRecDepth 100000 in
theorem rgap_any (s : ByteArray) (p : Nat) (w : World) (hm : s.size ≤ 1000000) (hp : p ≤ s.size) :
    Calls Tryz.prog 84 #[.string s, .int .i64 p] w fun e w' => e = .returned (.int .i64 ((p + skC false (s.data.toList.drop p) : Nat) : Int)) ∧ w = w' := by
  obtain ⟨N, hN⟩ : ∃ N, N = p + skC false (s.data.toList.drop p) := ⟨_, rfl⟩
  have HN := Lib.hid hN
  rw [← hN]
  clear hN
  go_enter Tryz.func84, Tryz.ntmps84
  go_wp2_with fail
  go_loop [1, 5] (fun i b => ∃ (k : Nat) (c : Bool), k ≤ s.size ∧ i = .int .i64 k ∧ b = .bool c ∧ Hid (N = k + skC c (s.data.toList.drop k))) (fun i _ => s.size - (intOf i).toNat)
  case atStart => exact ⟨p, false, hp, rfl, rfl, HN⟩
  case round =>
    obtain ⟨k, b, hk, rfl, rfl, HK⟩ := hrel
    by_cases hlt : k < s.size
    · have hlt' : (k : Int) < (s.size : Int) := by omega
      have HS := Lib.hid (sk_step b hlt)
      have HC := rblank_any s[k] w
      cases h37 : ((s[k].toNat : Int) == 37) with
      | true =>
        have HQ : Hid (N = (k + 1) + skC true (s.data.toList.drop (k + 1))) := Lib.hid (by rw [HK.out, HS.out, if_pos (u8_is (d := 37) rfl h37)]; omega)
        have hbl : isBlank s[k] = false := by rw [u8_is (d := 37) rfl h37]; rfl
        rw [hbl] at HC
        have HC := Lib.hid HC
        clear hbl
        cases b
        all_goals
          go_wp2_with (go_at_call 96; refine HC.out.mono ?_; rintro e w1 ⟨rfl, rfl⟩)
          go_round
          case rel => exact ⟨k + 1, true, by omega, by go_num, rfl, HQ⟩
          case measure => simp [intOf]; omega
      | false =>
        have H37 := Lib.hid (u8_no (d := 37) rfl h37)
        cases h10 : ((s[k].toNat : Int) == 10) with
        | true =>
          have h10n : ((s[k].toNat : Int) != 10) = false := by unfold bne; rw [h10]; rfl
          have HQ : Hid (N = (k + 1) + skC false (s.data.toList.drop (k + 1))) := Lib.hid (by rw [HK.out, HS.out, if_neg H37.out, if_pos (u8_is (d := 10) rfl h10)]; omega)
          have hbl : isBlank s[k] = true := by rw [u8_is (d := 10) rfl h10]; rfl
          rw [hbl] at HC
          have HC := Lib.hid HC
          clear hbl
          cases b
          all_goals
            go_wp2_with (go_at_call 96; refine HC.out.mono ?_; rintro e w1 ⟨rfl, rfl⟩)
            go_round
            case rel => exact ⟨k + 1, false, by omega, by go_num, rfl, HQ⟩
            case measure => simp [intOf]; omega
        | false =>
          have h10n : ((s[k].toNat : Int) != 10) = true := by unfold bne; rw [h10]; rfl
          have H10 := Lib.hid (u8_no (d := 10) rfl h10)
          cases hbl : isBlank s[k] with
          | true =>
            rw [hbl] at HC
            have HC := Lib.hid HC
            have HQ : Hid (N = (k + 1) + skC b (s.data.toList.drop (k + 1))) := Lib.hid (by rw [HK.out, HS.out, if_neg H37.out, if_neg H10.out, if_pos (by rw [hbl, Bool.or_true])]; omega)
            clear hbl
            cases b
            all_goals
              go_wp2_with (go_at_call 96; refine HC.out.mono ?_; rintro e w1 ⟨rfl, rfl⟩)
              go_round
              case rel => exact ⟨k + 1, _, by omega, by go_num, rfl, HQ⟩
              case measure => simp [intOf]; omega
          | false =>
            rw [hbl] at HC
            have HC := Lib.hid HC
            cases b with
            | true =>
              have HQ : Hid (N = (k + 1) + skC true (s.data.toList.drop (k + 1))) := Lib.hid (by rw [HK.out, HS.out, if_neg H37.out, if_neg H10.out, if_pos (Bool.true_or _)]; omega)
              clear hbl
              go_wp2_with (go_at_call 96; refine HC.out.mono ?_; rintro e w1 ⟨rfl, rfl⟩)
              go_round
              case rel => exact ⟨k + 1, _, by omega, by go_num, rfl, HQ⟩
              case measure => simp [intOf]; omega
            | false =>
              have HQ : Hid (N = k) := Lib.hid (by rw [HK.out, HS.out, if_neg H37.out, if_neg H10.out, if_neg (by rw [hbl]; decide)]; rfl)
              clear hbl
              go_wp2_with (go_at_call 96; refine HC.out.mono ?_; rintro e w1 ⟨rfl, rfl⟩)
              go_ret
              exact ⟨ret_int (by rw [HQ.out]), rfl⟩
    · have hge : ¬ (k : Int) < (s.size : Int) := by omega
      have HQ : Hid (N = k) := Lib.hid (by rw [HK.out, sk_none b (by omega)]; rfl)
      go_wp2_with fail
      go_ret
      exact ⟨ret_int (by rw [HQ.out]), rfl⟩
/-- The place behind a symbol's text, or -1. -/
def quoI (l : List UInt8) (k : Nat) : Int := match quoEnd l with | some n => ((k + n : Nat) : Int) | none => -1
theorem quoI_nil (k : Nat) : quoI [] k = -1 := by unfold quoI quoEnd; rfl
theorem quoI_34 (r : List UInt8) (k : Nat) : quoI (34 :: r) k = ((k + 1 : Nat) : Int) := by unfold quoI quoEnd; rw [if_pos rfl]
theorem quoI_92 (k : Nat) : quoI [92] k = -1 := by unfold quoI quoEnd; rw [if_neg (by decide), if_pos rfl]
theorem quoI_esc (d : UInt8) (r : List UInt8) (k : Nat) : quoI (92 :: d :: r) k = quoI r (k + 2) := by
  unfold quoI
  rw [quo_esc]
  cases h : quoEnd r with
  | none => rfl
  | some n => show ((k + (n + 2) : Nat) : Int) = ((k + 2 + n : Nat) : Int); omega
theorem quoI_one {c : UInt8} (r : List UInt8) (k : Nat) (h1 : c ≠ 34) (h2 : c ≠ 92) : quoI (c :: r) k = quoI r (k + 1) := by
  unfold quoI
  rw [quo_one h1 h2]
  cases h : quoEnd r with
  | none => rfl
  | some n => show ((k + (n + 1) : Nat) : Int) = ((k + 1 + n : Nat) : Int); omega
set_option maxHeartbeats 1000000 in
set_option maxRecDepth 100000 in
theorem rquoted_any (s : ByteArray) (p : Nat) (w : World) (hm : s.size ≤ 1000000) (hp : p < s.size) :
    Calls Tryz.prog 103 #[.string s, .int .i64 p] w fun e w' => e = .returned (.int .i64 (quoI (s.data.toList.drop (p + 1)) (p + 1))) ∧ w = w' := by
  obtain ⟨N, hN⟩ : ∃ N, N = quoI (s.data.toList.drop (p + 1)) (p + 1) := ⟨_, rfl⟩
  have HN := Lib.hid hN
  rw [← hN]
  clear hN
  go_enter Tryz.func103, Tryz.ntmps103
  go_wp2_with fail
  go_loop [5] (fun i => ∃ k : Nat, k ≤ s.size + 1 ∧ i = .int .i64 k ∧ Hid (N = quoI (s.data.toList.drop k) k)) (fun i => s.size + 1 - (intOf i).toNat)
  case atStart => exact ⟨p + 1, by omega, by go_num, HN⟩
  case round =>
    obtain ⟨k, hk, rfl, HK⟩ := hrel
    by_cases hlt : k < s.size
    · have hlt' : (k : Int) < (s.size : Int) := by omega
      have HA := Lib.hid (lx_at s k hlt)
      cases h34 : ((s[k].toNat : Int) == 34) with
      | true =>
        have HQ : Hid (N = ((k + 1 : Nat) : Int)) := Lib.hid (by rw [HK.out, HA.out, u8_is (d := 34) rfl h34, quoI_34])
        go_wp2_with fail
        go_ret
        exact ⟨ret_int (by rw [HQ.out]; omega), rfl⟩
      | false =>
        have H34 := Lib.hid (u8_no (d := 34) rfl h34)
        cases h92 : ((s[k].toNat : Int) == 92) with
        | true =>
          have HQ : Hid (N = quoI (s.data.toList.drop (k + 2)) (k + 2)) := Lib.hid (by
            rw [HK.out, HA.out, u8_is (d := 92) rfl h92]
            by_cases h2 : k + 1 < s.size
            · rw [lx_at s (k + 1) h2, quoI_esc]
            · rw [lx_end s (k + 1) (by omega), lx_end s (k + 2) (by omega), quoI_92, quoI_nil])
          go_wp2_with fail
          go_round
          case rel => exact ⟨k + 2, by omega, by go_num, HQ⟩
          case measure => simp [intOf]; omega
        | false =>
          have HQ : Hid (N = quoI (s.data.toList.drop (k + 1)) (k + 1)) := Lib.hid (by rw [HK.out, HA.out, quoI_one _ _ H34.out (u8_no (d := 92) rfl h92)])
          go_wp2_with fail
          go_round
          case rel => exact ⟨k + 1, by omega, by go_num, HQ⟩
          case measure => simp [intOf]; omega
    · have hge : ¬ (k : Int) < (s.size : Int) := by omega
      have HQ : Hid (N = -1) := Lib.hid (by rw [HK.out, lx_end s k (by omega), quoI_nil])
      go_wp2_with fail
      go_ret
      exact ⟨ret_int (by rw [HQ.out]), rfl⟩
end Go.Proofs.YtnbaemfkpfmheaaGreatDoor
