/-
  Contracts of lex.classOf, span, skip, symbol, strings.Clone.
-/
import Derived.Test.YtnbaemfkpfmheaaGreatDoorText
import Derived.Test.YtnbaemfkpfmheaaGreatDoorLxQ
import Derived.Deep.DeepCutAuto
namespace Go.Proofs.YtnbaemfkpfmheaaGreatDoor
open Go Go.RowKit

theorem lx_at (s : ByteArray) (i : Nat) (h : i < s.size) : s.data.toList.drop i = s[i] :: s.data.toList.drop (i + 1) := by
  rw [List.drop_eq_getElem_cons (by rw [← Lib.size_eq]; exact h)]
  rfl
theorem lx_end (s : ByteArray) (i : Nat) (h : s.size ≤ i) : s.data.toList.drop i = [] := List.drop_eq_nil_iff.2 (by rw [← Lib.size_eq]; exact h)

set_option maxHeartbeats 400000 in
theorem classOf_any (c : UInt8) (w : World) (G : Glob w) : Calls Tryz.prog 111 #[.int .u8 c.toNat] w fun e w' => e = .returned (.int .u8 (cls c : Int)) ∧ w = w' := by
  have hb := byte_lt c
  have h0 : (0 : Int) ≤ (c.toNat : Int) := by omega
  have h1 : (c.toNat : Int) ≤ 255 := by omega
  by_cases hc : c.toNat < 123
  · have hc' : (c.toNat : Int) < 123 := by omega
    have hcell := G.lett.cell gLet c.toNat hc
    have hl := letTab_cls ⟨c.toNat, hc⟩
    rw [show UInt8.ofNat c.toNat = c from UInt8.ofNat_toNat] at hl
    rw [hl] at hcell
    clear hl hb
    go_enter Tryz.func111, Tryz.ntmps111
    go_wp2
    go_ret
    exact ⟨rfl, rfl⟩
  · have hc' : ¬ (c.toNat : Int) < 123 := by omega
    have hz : cls c = 0 := by
      unfold cls
      rw [if_neg (by omega), if_neg (by omega), if_neg (by omega), if_neg (by omega)]
    rw [hz]
    clear hb
    go_enter Tryz.func111, Tryz.ntmps111
    go_wp2
    go_ret
    exact ⟨rfl, rfl⟩

theorem tw_step {p : UInt8 → Bool} {s : ByteArray} {k : Nat} (h : k < s.size) : ((s.data.toList.drop k).takeWhile p).length = if p s[k] = true then ((s.data.toList.drop (k + 1)).takeWhile p).length + 1 else 0 := by
  rw [lx_at s k h]
  by_cases hp : p s[k] = true
  · rw [if_pos hp, List.takeWhile_cons, if_pos hp, List.length_cons]
  · rw [if_neg hp, List.takeWhile_cons, if_neg hp]
    rfl
theorem tw_none {p : UInt8 → Bool} {s : ByteArray} {k : Nat} (h : s.size ≤ k) : ((s.data.toList.drop k).takeWhile p).length = 0 := by
  rw [lx_end s k h]
  rfl
/-- A mask of classes tells what p tells. -/
def MaskOf (m : Int) (p : UInt8 → Bool) : Prop := ∀ c, (bits .and .u8 (cls c : Int) m == 0) = !p c
theorem cls_cases (c : UInt8) : cls c = 0 ∨ cls c = 1 ∨ cls c = 2 ∨ cls c = 4 ∨ cls c = 8 := by
  unfold cls
  (repeat' split) <;> simp
theorem mask_in : MaskOf 15 inB := by
  intro c
  unfold inB
  rcases cls_cases c with h | h | h | h | h <;> rw [h] <;> decide
theorem mask_dig : MaskOf 4 isDig := by
  intro c
  unfold isDig
  rcases cls_cases c with h | h | h | h | h <;> rw [h] <;> decide
set_option maxHeartbeats 1000000 in
set_option maxRecDepth 100000 in
theorem span_any (s : ByteArray) (m : Int) (p : UInt8 → Bool) (w : World) (hm : s.size ≤ 1000000) (hp : MaskOf m p) (G : Glob w) :
    Calls Tryz.prog 112 #[.string s, .int .u8 m] w fun e w' => e = .returned (.int .i64 ((s.data.toList.takeWhile p).length : Int)) ∧ w = w' := by
  have HP := Lib.hid hp
  have HG := Lib.hid G
  obtain ⟨N, hN⟩ : ∃ N, N = (s.data.toList.takeWhile p).length := ⟨_, rfl⟩
  have HN := Lib.hid hN
  rw [← hN]
  clear hp G hN
  go_enter Tryz.func112, Tryz.ntmps112
  go_wp2_with fail
  go_loop [8] (fun i => ∃ k : Nat, k ≤ s.size ∧ i = .int .i64 k ∧ Hid (N = k + ((s.data.toList.drop k).takeWhile p).length)) (fun i => s.size - (intOf i).toNat)
  case atStart => exact ⟨0, Nat.zero_le _, rfl, Lib.hid (by rw [HN.out]; simp)⟩
  case round =>
    obtain ⟨k, hk, rfl, HK⟩ := hrel
    by_cases hlt : k < s.size
    · have hlt' : (k : Int) < (s.size : Int) := by omega
      obtain ⟨z, hz⟩ : ∃ z, bits .and .u8 (cls s[k] : Int) m = z := ⟨_, rfl⟩
      cases hb : p s[k] with
      | true =>
        have h0 : (z == 0) = false := by rw [← hz, HP.out, hb]; rfl
        have HB := Lib.hid hb
        clear hb
        go_wp2_with (go_at_call 111; refine (classOf_any _ _ HG.out).mono ?_; rintro e w1 ⟨rfl, rfl⟩)
        go_round
        case rel => exact ⟨k + 1, by omega, by go_num, Lib.hid (by rw [HK.out, tw_step hlt, if_pos HB.out]; omega)⟩
        case measure => simp [intOf]; omega
      | false =>
        have h0 : (z == 0) = true := by rw [← hz, HP.out, hb]; rfl
        have HB := Lib.hid hb
        clear hb
        go_wp2_with (go_at_call 111; refine (classOf_any _ _ HG.out).mono ?_; rintro e w1 ⟨rfl, rfl⟩)
        go_ret
        exact ⟨ret_int (by rw [HK.out, tw_step hlt, if_neg (by rw [HB.out]; decide)]; rfl), rfl⟩
    · obtain rfl : k = s.size := by omega
      go_wp2_with fail
      go_ret
      exact ⟨ret_int (by rw [HK.out, tw_none (Nat.le_refl _)]; omega), rfl⟩

theorem sk_step {s : ByteArray} {k : Nat} (b : Bool) (h : k < s.size) : skC b (s.data.toList.drop k) =
    if s[k] = 37 then skC true (s.data.toList.drop (k + 1)) + 1 else if s[k] = 10 then skC false (s.data.toList.drop (k + 1)) + 1 else if (b || isBlank s[k]) = true then skC b (s.data.toList.drop (k + 1)) + 1 else 0 := by
  rw [lx_at s k h]
  conv => lhs; unfold skC
theorem sk_none {s : ByteArray} {k : Nat} (b : Bool) (h : s.size ≤ k) : skC b (s.data.toList.drop k) = 0 := by
  rw [lx_end s k h]
  unfold skC
  rfl
theorem u8_is {c d : UInt8} {n : Int} (hd : (d.toNat : Int) = n) (g : ((c.toNat : Int) == n) = true) : c = d := by
  have : (c.toNat : Int) = n := by simpa using g
  exact UInt8.toNat_inj.1 (by omega)
theorem u8_no {c d : UInt8} {n : Int} (hd : (d.toNat : Int) = n) (g : ((c.toNat : Int) == n) = false) : c ≠ d := by
  rintro rfl
  rw [hd] at g
  simp at g
set_option maxHeartbeats 1000000 in
set_option maxRecDepth 100000 in
theorem skip_any (s : ByteArray) (p : Nat) (w : World) (hm : s.size ≤ 1000000) (hp : p ≤ s.size) :
    Calls Tryz.prog 93 #[.string s, .int .i64 p] w fun e w' => e = .returned (.int .i64 ((p + skC false (s.data.toList.drop p) : Nat) : Int)) ∧ w = w' := by
  obtain ⟨N, hN⟩ : ∃ N, N = p + skC false (s.data.toList.drop p) := ⟨_, rfl⟩
  have HN := Lib.hid hN
  rw [← hN]
  clear hN
  go_enter Tryz.func93, Tryz.ntmps93
  go_wp2_with fail
  go_loop [1, 5] (fun i b => ∃ (k : Nat) (c : Bool), k ≤ s.size ∧ i = .int .i64 k ∧ b = .bool c ∧ Hid (N = k + skC c (s.data.toList.drop k))) (fun i _ => s.size - (intOf i).toNat)
  case atStart => exact ⟨p, false, hp, rfl, rfl, HN⟩
  case round =>
    obtain ⟨k, b, hk, rfl, rfl, HK⟩ := hrel
    by_cases hlt : k < s.size
    · have hlt' : (k : Int) < (s.size : Int) := by omega
      have HS := Lib.hid (sk_step b hlt)
      cases h37 : ((s[k].toNat : Int) == 37) with
      | true =>
        have HQ : Hid (N = (k + 1) + skC true (s.data.toList.drop (k + 1))) := Lib.hid (by rw [HK.out, HS.out, if_pos (u8_is (d := 37) rfl h37)]; omega)
        go_wp2_with fail
        go_round
        case rel => exact ⟨k + 1, true, by omega, by go_num, rfl, HQ⟩
        case measure => simp [intOf]; omega
      | false =>
        have H37 := Lib.hid (u8_no (d := 37) rfl h37)
        cases h10 : ((s[k].toNat : Int) == 10) with
        | true =>
          have HQ : Hid (N = (k + 1) + skC false (s.data.toList.drop (k + 1))) := Lib.hid (by rw [HK.out, HS.out, if_neg H37.out, if_pos (u8_is (d := 10) rfl h10)]; omega)
          go_wp2_with fail
          go_round
          case rel => exact ⟨k + 1, false, by omega, by go_num, rfl, HQ⟩
          case measure => simp [intOf]; omega
        | false =>
          have H10 := Lib.hid (u8_no (d := 10) rfl h10)
          have on : (b || isBlank s[k]) = true → Hid (N = (k + 1) + skC b (s.data.toList.drop (k + 1))) := fun e => Lib.hid (by rw [HK.out, HS.out, if_neg H37.out, if_neg H10.out, if_pos e]; omega)
          have blank : ∀ d : UInt8, s[k] = d → (d == 32 || d == 9 || d == 13) = true → (b || isBlank s[k]) = true := by
            rintro d rfl h
            unfold isBlank
            revert h
            cases (s[k] == 32) <;> cases (s[k] == 9) <;> cases (s[k] == 13) <;> simp
          cases h32 : ((s[k].toNat : Int) == 32) with
          | true =>
            have HQ := on (blank 32 (u8_is rfl h32) (by decide))
            go_wp2_with fail
            go_round
            case rel => exact ⟨k + 1, b, by omega, by go_num, rfl, HQ⟩
            case measure => simp [intOf]; omega
          | false =>
            cases h9 : ((s[k].toNat : Int) == 9) with
            | true =>
              have HQ := on (blank 9 (u8_is rfl h9) (by decide))
              go_wp2_with fail
              go_round
              case rel => exact ⟨k + 1, b, by omega, by go_num, rfl, HQ⟩
              case measure => simp [intOf]; omega
            | false =>
              cases h13 : ((s[k].toNat : Int) == 13) with
              | true =>
                have HQ := on (blank 13 (u8_is rfl h13) (by decide))
                go_wp2_with fail
                go_round
                case rel => exact ⟨k + 1, b, by omega, by go_num, rfl, HQ⟩
                case measure => simp [intOf]; omega
              | false =>
                have hbl : isBlank s[k] = false := by
                  unfold isBlank
                  rw [beq_false_of_ne (u8_no (d := 32) rfl h32), beq_false_of_ne (u8_no (d := 9) rfl h9), beq_false_of_ne H10.out, beq_false_of_ne (u8_no (d := 13) rfl h13)]
                  rfl
                cases b with
                | true =>
                  have HQ := on rfl
                  go_wp2_with fail
                  go_round
                  case rel => exact ⟨k + 1, true, by omega, by go_num, rfl, HQ⟩
                  case measure => simp [intOf]; omega
                | false =>
                  have HQ : Hid (N = k) := Lib.hid (by rw [HK.out, HS.out, if_neg H37.out, if_neg H10.out, if_neg (by rw [hbl]; decide)]; rfl)
                  go_wp2_with fail
                  go_ret
                  exact ⟨ret_int (by rw [HQ.out]), rfl⟩
    · obtain rfl : k = s.size := by omega
      have HQ : Hid (N = s.size) := Lib.hid (by rw [HK.out, sk_none b (Nat.le_refl _)]; rfl)
      go_wp2_with fail
      go_ret
      exact ⟨ret_int (by rw [HQ.out]), rfl⟩

/-- How many bytes there are up to the quote that ends, or at all. -/
def quoN (l : List UInt8) : Nat := (quoEnd l).getD l.length
theorem quoN_nil : quoN [] = 0 := by unfold quoN quoEnd; rfl
theorem quoN_34 (r : List UInt8) : quoN (34 :: r) = 1 := by unfold quoN quoEnd; rw [if_pos rfl]; rfl
theorem quoN_92 : quoN [92] = 1 := by unfold quoN quoEnd; rw [if_neg (by decide), if_pos rfl]; rfl
theorem quoN_esc (d : UInt8) (r : List UInt8) : quoN (92 :: d :: r) = quoN r + 2 := by
  unfold quoN
  conv => lhs; unfold quoEnd
  rw [if_neg (by decide), if_pos rfl]
  cases h : quoEnd r <;> simp [h]
theorem quoN_one {c : UInt8} (r : List UInt8) (h1 : c ≠ 34) (h2 : c ≠ 92) : quoN (c :: r) = quoN r + 1 := by
  unfold quoN
  conv => lhs; unfold quoEnd
  rw [if_neg h1, if_neg h2]
  cases h : quoEnd r <;> simp
set_option maxHeartbeats 1000000 in
set_option maxRecDepth 100000 in
theorem lsym_any (s : ByteArray) (w : World) (hm : s.size ≤ 1000000) (hp : 1 ≤ s.size) :
    Calls Tryz.prog 119 #[.string s] w fun e w' => e = .returned (.int .i64 ((quoN (s.data.toList.drop 1) + 1 : Nat) : Int)) ∧ w = w' := by
  obtain ⟨N, hN⟩ : ∃ N, N = quoN (s.data.toList.drop 1) + 1 := ⟨_, rfl⟩
  have HN := Lib.hid hN
  rw [← hN]
  clear hN
  go_enter Tryz.func119, Tryz.ntmps119
  go_wp2_with fail
  go_loop [3] (fun i => ∃ k : Nat, 1 ≤ k ∧ k ≤ s.size + 1 ∧ i = .int .i64 k ∧ Hid (N = if k ≤ s.size then k + quoN (s.data.toList.drop k) else s.size)) (fun i => s.size + 1 - (intOf i).toNat)
  case atStart => exact ⟨1, by omega, by omega, rfl, Lib.hid (by rw [HN.out, if_pos hp]; omega)⟩
  case round =>
    obtain ⟨k, hk1, hk, rfl, HK⟩ := hrel
    by_cases hlt : k < s.size
    · have hlt' : (k : Int) < (s.size : Int) := by omega
      have HA := Lib.hid (lx_at s k hlt)
      have HK2 : Hid (N = k + quoN (s.data.toList.drop k)) := Lib.hid (by rw [HK.out, if_pos (by omega)])
      cases h92 : ((s[k].toNat : Int) == 92) with
      | true =>
        have HQ : Hid (N = if k + 2 ≤ s.size then k + 2 + quoN (s.data.toList.drop (k + 2)) else s.size) := Lib.hid (by
          rw [HK2.out, HA.out, u8_is (d := 92) rfl h92]
          by_cases h2 : k + 1 < s.size
          · rw [lx_at s (k + 1) h2, quoN_esc, if_pos (by omega)]
            show k + (quoN (s.data.toList.drop (k + 2)) + 2) = _
            omega
          · rw [lx_end s (k + 1) (by omega), quoN_92, if_neg (by omega)]
            omega)
        go_wp2_with fail
        go_round
        case rel => exact ⟨k + 2, by omega, by omega, by go_num, HQ⟩
        case measure => simp [intOf]; omega
      | false =>
        have H92 := Lib.hid (u8_no (d := 92) rfl h92)
        cases h34 : ((s[k].toNat : Int) == 34) with
        | true =>
          have HQ : Hid (N = k + 1) := Lib.hid (by rw [HK2.out, HA.out, u8_is (d := 34) rfl h34, quoN_34])
          go_wp2_with fail
          go_ret
          exact ⟨ret_int (by rw [HQ.out]; omega), rfl⟩
        | false =>
          have HQ : Hid (N = if k + 1 ≤ s.size then k + 1 + quoN (s.data.toList.drop (k + 1)) else s.size) := Lib.hid (by
            rw [HK2.out, HA.out, quoN_one _ (u8_no (d := 34) rfl h34) H92.out, if_pos (by omega)]
            omega)
          go_wp2_with fail
          go_round
          case rel => exact ⟨k + 1, by omega, by omega, by go_num, HQ⟩
          case measure => simp [intOf]; omega
    · have HQ : Hid (N = s.size) := Lib.hid (by
        rw [HK.out]
        by_cases h : k ≤ s.size
        · rw [if_pos h, lx_end s k (by omega), quoN_nil]
          omega
        · rw [if_neg h])
      have hge : ¬ (k : Int) < (s.size : Int) := by omega
      go_wp2_with fail
      go_ret
      exact ⟨ret_int (by rw [HQ.out]), rfl⟩
end Go.Proofs.YtnbaemfkpfmheaaGreatDoor
