/-
  Contracts of the document's own reading of a number, an int and a byte string.
-/
import Derived.Test.YthnpiafpkllbpaaPkTx
import Derived.Test.YthnpiafpkllbpaaPkRf
namespace Go.Proofs.Ythnpiafpkllbpaa
open Go Go.RowKit

theorem numP_ten (l : List UInt8) (x : Nat) : numP l 10 x = none := by
  cases l with
  | nil => rfl
  | cons c r => rw [numP, if_pos rfl]
theorem numP_at {l : List UInt8} {k x : Nat} (h : k < l.length) : numP (l.drop k) k x = numP (l[k] :: l.drop (k + 1)) k x := by rw [List.drop_eq_getElem_cons h]
theorem byte_zero {c : UInt8} (h : c.toNat = 0) : c = 0 := UInt8.toNat_inj.1 (by simpa using h)
/-- The tenth byte is 1 at most. -/
theorem numP_nine {c : UInt8} {r : List UInt8} {x : Nat} (h : 1 < c.toNat) : numP (c :: r) 9 x = none := by
  have hc := c.toNat_lt
  rw [numP, if_neg (by decide)]
  by_cases hb : 18446744073709551616 ≤ c.toNat % 128 * 2 ^ (7 * 9) ∨ c = 0 ∧ 0 < 9
  · rw [if_pos hb]
  · rw [if_neg hb]
    have h2 : (2 : Nat) ^ (7 * 9) = 9223372036854775808 := by decide
    rw [h2] at hb
    rw [if_neg (by omega)]
    exact numP_ten _ _
theorem numP_zero {r : List UInt8} {k x : Nat} (hk : k ≠ 10) (h : 0 < k) : numP (0 :: r) k x = none := by
  rw [numP, if_neg hk, if_pos (.inr ⟨rfl, h⟩)]
theorem group_small {g k : Nat} (hk : k ≤ 9) (hg : g < 128) (h9 : k = 9 → g ≤ 1) : g * 2 ^ (7 * k) < 18446744073709551616 := by
  rcases Nat.lt_or_ge k 9 with h | h
  · have h1 : g * 2 ^ (7 * k) ≤ 127 * 2 ^ (7 * 8) := Nat.mul_le_mul (by omega) (Nat.pow_le_pow_right (by decide) (by omega))
    have h2 : 127 * (2 : Nat) ^ (7 * 8) = 9151314442816847872 := by decide
    omega
  · obtain rfl : k = 9 := by omega
    have h1 : g * 2 ^ (7 * 9) ≤ 1 * 2 ^ (7 * 9) := Nat.mul_le_mul_right _ (h9 rfl)
    have h2 : 1 * (2 : Nat) ^ (7 * 9) = 9223372036854775808 := by decide
    omega
theorem numP_next {c : UInt8} {r : List UInt8} {k x : Nat} (hk : k ≤ 9) (h9 : k = 9 → c.toNat ≤ 1) (h0 : ¬ (c = 0 ∧ 0 < k)) :
    numP (c :: r) k x = if c.toNat < 128 then some (x + c.toNat % 128 * 2 ^ (7 * k), r) else numP r (k + 1) (x + c.toNat % 128 * 2 ^ (7 * k)) := by
  have hs := group_small (g := c.toNat % 128) hk (Nat.mod_lt _ (by decide)) (fun e => by have := h9 e; omega)
  rw [numP, if_neg (by omega), if_neg (fun h => h.elim (by omega) h0)]
theorem pow_small {k : Nat} (hk : k ≤ 8) : (2 : Nat) ^ (7 * k) ≤ 72057594037927936 := by
  have h1 : (2 : Nat) ^ (7 * k) ≤ 2 ^ (7 * 8) := Nat.pow_le_pow_right (by decide) (by omega)
  have h2 : (2 : Nat) ^ (7 * 8) = 72057594037927936 := by decide
  omega
theorem pow_next (k : Nat) : (2 : Nat) ^ (7 * (k + 1)) = 2 ^ (7 * k) * 128 := by rw [show 7 * (k + 1) = 7 * k + 7 by omega, Nat.pow_add]
theorem u64_mul {g P Y : Nat} (h : Y = g * P) (hY : Y < 18446744073709551616) (G : Int) (hG : G = (g : Int)) : IntKind.u64.wrap (G * (P : Int)) = (Y : Int) := by
  rw [hG, wrap_u64', ← Int.natCast_mul, ← h]
  omega
/-- What the document's reading of a number answers. -/
def RNumEnd (l : List UInt8) (o : Option (Nat × List UInt8)) (w : World) (e : Ending) (w' : World) : Prop :=
  w = w' ∧ ((∃ x r, o = some (x, r) ∧ e = .returned (.tuple #[.int .u64 (x : Nat), .int .i64 ((l.length : Int) - (r.length : Int)), .int .i64 0])) ∨ (o = none ∧ e = .returned (.tuple #[.int .u64 0, .int .i64 0, .int .i64 30])))
theorem num_ret {l : List UInt8} {k x : Nat} {w : World} {o : Option (Nat × List UInt8)} (h : k < l.length) (ho : o = some (x, l.drop (k + 1))) {n : Int} (hn : n = (k : Int) + 1) : RNumEnd l o w (.returned (.tuple #[.int .u64 (x : Nat), .int .i64 n, .int .i64 0])) w := by
  refine ⟨rfl, .inl ⟨x, _, ho, ?_⟩⟩
  have : n = (l.length : Int) - ((l.drop (k + 1)).length : Int) := by rw [List.length_drop]; omega
  rw [this]
theorem num_bad {l : List UInt8} {w : World} {o : Option (Nat × List UInt8)} (ho : o = none) : RNumEnd l o w (.returned (.tuple #[.int .u64 0, .int .i64 0, .int .i64 30])) w := ⟨rfl, .inr ⟨ho, rfl⟩⟩
set_option maxHeartbeats 2000000 in
set_option maxRecDepth 100000 in
theorem rtakeNum_any (v : Value) (l : List UInt8) (n₀ : Nat) (w : World) (h : BytIn n₀ w v l) (hl : l.length ≤ 3000) : Calls Try.prog 7 #[v] w (RNumEnd l (numP l 0 0) w) := by
  have hl' : (l.length : Int) ≤ 3000 := by omega
  have HB := Lib.hid h
  obtain ⟨p, cap, rfl⟩ := h.shape
  clear h
  go_enter Try.func7, Try.ntmps7
  go_wp2_with fail
  go_loop [5, 6, 7] (fun x sc i => ∃ k y P : Nat, k ≤ 9 ∧ i = .int .i64 k ∧ x = .int .u64 (y : Nat) ∧ sc = .int .u64 (P : Nat) ∧ Hid (k ≤ l.length ∧ P = 2 ^ (7 * k) ∧ y < 2 ^ (7 * k) ∧ numP l 0 0 = numP (l.drop k) k y)) (fun _ _ i => 10 - (intOf i).toNat)
  case atStart => exact ⟨0, 0, 1, by decide, rfl, rfl, rfl, Lib.hid ⟨Nat.zero_le _, rfl, by decide, rfl⟩⟩
  case round =>
    obtain ⟨k, y, P, hk, rfl, rfl, rfl, HI⟩ := hrel
    have h0 : (0 : Int) ≤ (k : Int) := by omega
    have h10 : (k : Int) < 10 := by omega
    by_cases hlt : k < l.length
    · have hlt' : (k : Int) < (l.length : Int) := by omega
      rcases HB.out with ⟨e, e2⟩ | ⟨a, c', e, hc⟩
      · rw [e2] at hlt; simp at hlt
      injection e with e1 _ e3
      subst e1 e3
      have q0 : w.cell? (a.add k) = some (.int .u8 (l[k].toNat : Int)) := (hc k hlt).2
      have HS := Lib.hid (HI.out.2.2.2.trans (numP_at hlt))
      obtain ⟨c, hcc⟩ : ∃ c, c = l[k] := ⟨_, rfl⟩
      rw [← hcc] at q0 HS
      have hcl := c.toNat_lt
      have hc0 : (0 : Int) ≤ (c.toNat : Int) := by omega
      have hc1 : (c.toNat : Int) ≤ 255 := by omega
      clear hcc hc
      cases d9 : ((k : Int) == 9) with
      | true =>
        have hk9 : k = 9 := by have : (k : Int) = 9 := by simpa using d9
                               omega
        have HK9 := Lib.hid hk9
        have hk0' : (0 : Int) < (k : Int) := by omega
        by_cases hg : 1 < c.toNat
        · have hg' : (1 : Int) < (c.toNat : Int) := by omega
          have HE := Lib.hid (num_bad (l := l) (w := w) (HS.out.trans (by rw [hk9]; exact numP_nine hg)))
          clear hg hk9
          go_wp2_with fail
          go_ret3
          exact HE.out
        · have hg' : (c.toNat : Int) ≤ 1 := by omega
          cases dz : ((c.toNat : Int) == 0) with
          | true =>
            have HE := Lib.hid (num_bad (l := l) (w := w) (HS.out.trans (by rw [byte_is (d := 0) dz rfl]; exact numP_zero (by omega) (by omega))))
            clear hg hk9
            go_wp2_with fail
            go_ret3
            exact HE.out
          | false =>
            have hz : ¬ (c = 0 ∧ 0 < k) := fun h => by rw [h.1] at dz; simp at dz
            have HN := HS.out.trans (numP_next hk (fun _ => by omega) hz)
            rw [if_pos (by omega : c.toNat < 128)] at HN
            have HE := Lib.hid (num_ret (w := w) hlt HN (n := (k : Int) + 1) rfl)
            have hP := HI.out.2.1
            have hyy := HI.out.2.2.1
            have hf := group_fits (g := c.toNat % 128) (by omega : k < 10) hyy (group_small hk (Nat.mod_lt _ (by decide)) (fun _ => by omega))
            rw [← hP] at hf
            obtain ⟨Y, hY⟩ : ∃ Y, Y = c.toNat % 128 * P := ⟨_, rfl⟩
            rw [← hP, ← hY] at HE
            rw [← hY] at hf
            have hmul := u64_mul hY (by omega) ((c.toNat : Int) % 128) (by omega)
            have hsum : IntKind.u64.wrap ((y : Int) + (Y : Int)) = (y : Int) + (Y : Int) := by rw [wrap_u64']; omega
            have hw : IntKind.u64.wrap ((c.toNat : Int) % 128) = (c.toNat : Int) % 128 := by rw [wrap_u64']; omega
            have hlt7 : (c.toNat : Int) < 128 := by omega
            clear hg hY hP hf hyy hz HN hk9
            go_wp2_with fail
            go_ret3
            exact HE.out
      | false =>
        have h9 : k ≠ 9 := fun e => by rw [e] at d9; simp at d9
        have hk8 : k ≤ 8 := by omega
        by_cases hz : c = 0 ∧ 0 < k
        · have hk0 := hz.2
          have HE := Lib.hid (num_bad (l := l) (w := w) (HS.out.trans (by rw [hz.1]; exact numP_zero (by omega) hk0)))
          have hk0' : (0 : Int) < (k : Int) := by omega
          have dz : ((c.toNat : Int) == 0) = true := by rw [hz.1]; rfl
          clear h9 hz
          go_wp2_with fail
          go_ret3
          exact HE.out
        · have cz : (k : Int) ≤ 0 ∨ (0 : Int) < (k : Int) ∧ ((c.toNat : Int) == 0) = false := by
            rcases Nat.eq_zero_or_pos k with h | h
            · exact .inl (by omega)
            · refine .inr ⟨by omega, ?_⟩
              cases dz : ((c.toNat : Int) == 0) with
              | false => rfl
              | true => exact absurd ⟨byte_is dz rfl, h⟩ hz
          have HN := HS.out.trans (numP_next hk (fun e => absurd e h9) hz)
          have hP := HI.out.2.1
          have hyy := HI.out.2.2.1
          have hf := group_fits (g := c.toNat % 128) (by omega : k < 10) hyy (group_small hk (Nat.mod_lt _ (by decide)) (fun e => absurd e h9))
          have HNX := Lib.hid (group_next hyy (Nat.mod_lt c.toNat (by decide : 0 < 128)))
          have HPN := Lib.hid (show P * 128 = 2 ^ (7 * (k + 1)) by rw [pow_next, hP])
          have hps := pow_small hk8
          rw [← hP] at hf HN HNX hps
          obtain ⟨Y, hY⟩ : ∃ Y, Y = c.toNat % 128 * P := ⟨_, rfl⟩
          rw [← hY] at hf HN HNX
          have hmul := u64_mul hY (by omega) ((c.toNat : Int) % 128) (by omega)
          have hsum : IntKind.u64.wrap ((y : Int) + (Y : Int)) = (y : Int) + (Y : Int) := by rw [wrap_u64']; omega
          have hw : IntKind.u64.wrap ((c.toNat : Int) % 128) = (c.toNat : Int) % 128 := by rw [wrap_u64']; omega
          have hsc : IntKind.u64.wrap ((P : Int) * 128) = (P : Int) * 128 := by rw [wrap_u64']; omega
          by_cases h7 : c.toNat < 128
          · rw [if_pos h7] at HN
            have HE := Lib.hid (num_ret (w := w) hlt HN (n := (k : Int) + 1) rfl)
            have hlt7 : (c.toNat : Int) < 128 := by omega
            clear h7 hY hP hf hyy hz HN h9 hk8 hps
            rcases cz with hz0 | ⟨hz0, hz1⟩
            all_goals
              go_wp2_with fail
              go_ret3
              exact HE.out
          · rw [if_neg h7] at HN
            have HN' := Lib.hid HN
            have hlt7 : (128 : Int) ≤ (c.toNat : Int) := by omega
            clear h7 hY hP hf hyy hz HN h9 hps
            rcases cz with hz0 | ⟨hz0, hz1⟩
            all_goals
              go_wp2_with fail
              go_round
              case rel => exact ⟨k + 1, y + Y, P * 128, by omega, by go_num, by go_num, by go_num, Lib.hid ⟨by omega, HPN.out, HNX.out, HN'.out⟩⟩
              case measure => simp [intOf]; omega
    · have hge : (l.length : Int) ≤ (k : Int) := by omega
      have HE := Lib.hid (num_bad (l := l) (w := w) (HI.out.2.2.2.trans (by rw [List.drop_of_length_le (by omega)]; rfl)))
      go_wp2_with fail
      go_ret3
      exact HE.out
end Go.Proofs.Ythnpiafpkllbpaa
