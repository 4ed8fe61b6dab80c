/-
  Contract of the library's ParseUint at two bytes, base 16, 8 bits.
-/
import Derived.Test.YtnbaemfkpfmheaaGreatDoorText
import Derived.Test.YtnbaemfkpfmheaaGreatDoorPure
import Derived.IntWalk
import Derived.Outline
import Derived.Deep.DeepCutAuto
import Derived.LaidEql
import Derived.WideLaws
namespace Go.Proofs.YtnbaemfkpfmheaaGreatDoor
open Go Go.RowKit

theorem lower_any (c : Int) (w : World) : Calls Tryz.prog 146 #[.int .u8 c] w fun e w' => e = .returned (.int .u8 (bits .or .u8 c 32)) ∧ w = w' := by
  go_enter Tryz.func146, Tryz.ntmps146
  go_wp2
  go_ret
  exact ⟨rfl, rfl⟩

/-- What a byte is as a hexadecimal digit: by the tests that the library makes. -/
def HexClass (c : UInt8) : Prop :=
  (∃ v, hexV c = some v ∧ 48 ≤ c.toNat ∧ c.toNat ≤ 57 ∧ v + 48 = c.toNat) ∨
  (∃ v, hexV c = some v ∧ 57 < c.toNat ∧ 97 ≤ (c.toNat ||| 32) ∧ (c.toNat ||| 32) ≤ 102 ∧ v + 87 = (c.toNat ||| 32)) ∨
  (hexV c = none ∧ 57 < c.toNat ∧ 103 ≤ (c.toNat ||| 32) ∧ (c.toNat ||| 32) ≤ 122) ∨
  (hexV c = none ∧ 57 < c.toNat ∧ (c.toNat ||| 32) < 97) ∨
  (hexV c = none ∧ 57 < c.toNat ∧ 122 < (c.toNat ||| 32)) ∨
  (hexV c = none ∧ c.toNat < 48 ∧ (c.toNat ||| 32) < 97)
def hexClassB (c : UInt8) : Bool :=
  match hexV c with
  | some v => (decide (48 ≤ c.toNat ∧ c.toNat ≤ 57 ∧ v + 48 = c.toNat)) || decide (57 < c.toNat ∧ 97 ≤ (c.toNat ||| 32) ∧ (c.toNat ||| 32) ≤ 102 ∧ v + 87 = (c.toNat ||| 32))
  | none => decide (57 < c.toNat ∧ 103 ≤ (c.toNat ||| 32) ∧ (c.toNat ||| 32) ≤ 122) || decide (57 < c.toNat ∧ (c.toNat ||| 32) < 97) || decide (57 < c.toNat ∧ 122 < (c.toNat ||| 32)) || decide (c.toNat < 48 ∧ (c.toNat ||| 32) < 97)
theorem hexClassB_all : ∀ n : Fin 256, hexClassB (UInt8.ofNat n.val) = true := by decide +kernel
theorem hexClass_any (c : UInt8) : HexClass c := by
  have h := hexClassB_all ⟨c.toNat, byte_lt c⟩
  simp only [UInt8.ofNat_toNat] at h
  unfold hexClassB at h
  unfold HexClass
  cases hv : hexV c with
  | some v =>
    rw [hv] at h
    simp only [Bool.or_eq_true, decide_eq_true_eq] at h
    rcases h with ⟨a, b, d⟩ | ⟨a, b, d, e⟩
    · exact .inl ⟨v, rfl, a, b, d⟩
    · exact .inr (.inl ⟨v, rfl, a, b, d, e⟩)
  | none =>
    rw [hv] at h
    simp only [Bool.or_eq_true, decide_eq_true_eq] at h
    rcases h with ((⟨a, b, d⟩ | ⟨a, b⟩) | ⟨a, b⟩) | ⟨a, b⟩
    · exact .inr (.inr (.inl ⟨rfl, a, b, d⟩))
    · exact .inr (.inr (.inr (.inl ⟨rfl, a, b⟩)))
    · exact .inr (.inr (.inr (.inr (.inl ⟨rfl, a, b⟩))))
    · exact .inr (.inr (.inr (.inr (.inr ⟨rfl, a, b⟩))))
theorem or_32 (c : UInt8) : bits BinOp.or IntKind.u8 (c.toNat : Int) 32 = ((c.toNat ||| 32 : Nat) : Int) := by
  rw [show (32 : Int) = ((32 : Nat) : Int) from rfl]
  exact u8_or_nat _ _ (byte_lt c) (by decide)
/-- What the first digits of two spell. -/
def Pfx (s : ByteArray) (hs : s.size = 2) : Nat → Nat → Prop
  | 0, acc => acc = 0
  | 1, acc => hexV (s[0]'(by omega)) = some acc
  | _, acc => ∃ a b, hexV (s[0]'(by omega)) = some a ∧ hexV (s[1]'(by omega)) = some b ∧ acc = 16 * a + b
/-- What the call answers. -/
def HexEnd (s : ByteArray) (hs : s.size = 2) (w : World) (e : Ending) (w' : World) : Prop :=
  ((∃ a b, hexV (s[0]'(by omega)) = some a ∧ hexV (s[1]'(by omega)) = some b ∧ e = .returned (.tuple #[.int .u64 ((16 * a + b : Nat) : Int), .nilIface])) ∨
   ((hexV (s[0]'(by omega)) = none ∨ hexV (s[1]'(by omega)) = none) ∧ e = .returned (.tuple #[.int .u64 0, .iface 189 (.int .i64 2)]))) ∧ Below w.heap.size w w'
theorem hexV_lt {c : UInt8} {v : Nat} (h : hexV c = some v) : v < 16 := by
  unfold hexV at h
  (repeat' split at h) <;> first | (cases h; done) | (simp only [Option.some.injEq] at h; omega)

/-- The tests on a byte, as numbers; what the byte is as a digit stays hidden. -/
theorem byte_facts (c : UInt8) : ∃ x L : Nat, c.toNat = x ∧ bits BinOp.or IntKind.u8 (x : Int) 32 = (L : Int) ∧
    ((∃ v, Hid (hexV c = some v) ∧ (48 : Int) ≤ x ∧ (x : Int) ≤ 57 ∧ Hid (v + 48 = x)) ∨
     (∃ v, Hid (hexV c = some v) ∧ ((x : Int) == 95) = false ∧ (57 : Int) < x ∧ (97 : Int) ≤ L ∧ (L : Int) ≤ 102 ∧ Hid (v + 87 = L)) ∨
     (Hid (hexV c = none) ∧ ((x : Int) == 95) = false ∧ (57 : Int) < x ∧ (103 : Int) ≤ L ∧ (L : Int) ≤ 122) ∨
     (Hid (hexV c = none) ∧ (57 : Int) < x ∧ (L : Int) < 97) ∨
     (Hid (hexV c = none) ∧ (57 : Int) < x ∧ (122 : Int) < L) ∨
     (Hid (hexV c = none) ∧ (x : Int) < 48 ∧ (L : Int) < 97)) := by
  have h95 : c.toNat = 95 → (c.toNat ||| 32) = 127 := fun h => by rw [h]; rfl
  have n95 : (c.toNat ||| 32) ≤ 122 → ((c.toNat : Int) == 95) = false := fun h => by
    rw [beq_eq_false_iff_ne]
    intro e
    have := h95 (by omega)
    omega
  refine ⟨c.toNat, c.toNat ||| 32, rfl, or_32 c, ?_⟩
  rcases hexClass_any c with ⟨v, h, a, b, d⟩ | ⟨v, h, a, b, d, e⟩ | ⟨h, a, b, d⟩ | ⟨h, a, b⟩ | ⟨h, a, b⟩ | ⟨h, a, b⟩
  · exact .inl ⟨v, Lib.hid h, by omega, by omega, Lib.hid d⟩
  · exact .inr (.inl ⟨v, Lib.hid h, n95 (by omega), by omega, by omega, by omega, Lib.hid e⟩)
  · exact .inr (.inr (.inl ⟨Lib.hid h, n95 (by omega), by omega, by omega, by omega⟩))
  · exact .inr (.inr (.inr (.inl ⟨Lib.hid h, by omega, by omega⟩)))
  · exact .inr (.inr (.inr (.inr (.inl ⟨Lib.hid h, by omega, by omega⟩))))
  · exact .inr (.inr (.inr (.inr (.inr ⟨Lib.hid h, by omega, by omega⟩))))

set_option maxHeartbeats 4000000 in
set_option maxRecDepth 100000 in
theorem inner_any (s : ByteArray) (w : World) (hs : s.size = 2) :
    Calls Tryz.prog 136 #[.string s, .int .i64 16, .int .i64 8] w (HexEnd s hs w) := by
  have hne : s.toList.isEmpty = false := by
    rw [Lib.toList_data]
    cases h : s.data.toList with
    | nil => have := Lib.size_eq s; rw [h, hs] at this; cases this
    | cons a b => rfl
  have hcv := Lib.run_convert_string_bytes (P := Tryz.prog) w 9 168 5 s Tryz.underlying9 Tryz.underlying168 Tryz.underlying5
  have hcell := fun j hj => Lib.bytesWorld_cell w 5 s j hj
  have hbw : Below w.heap.size w (Lib.bytesWorld w 5 s) := Lib.bytesWorld_below _ _ _
  rw [hs] at hcv hcell
  generalize Lib.bytesWorld w 5 s = wb at *
  generalize grownCap w 2 0 5 = cp at *
  have c0 : wb.cell? ⟨w.heap.size, 0, none⟩ = some (.int .u8 (s[0]'(by omega)).toNat) := by
    have := hcell 0 (by decide)
    rw [this]
    simp [List.getD, hs]
    rfl
  have c1 : wb.cell? ⟨w.heap.size, 1, none⟩ = some (.int .u8 (s[1]'(by omega)).toNat) := by
    have := hcell 1 (by decide)
    rw [this]
    simp [List.getD, hs]
    rfl
  clear hcell
  go_enter Tryz.func136, Tryz.ntmps136
  go_wp2
  go_loop [12, 13, 101] (fun u n i => ∃ k acc : Nat, k ≤ 2 ∧ u = .bool false ∧ i = .int .i64 k ∧ n = .int .u64 acc ∧ Pfx s hs k acc) (fun _ _ i => 2 - (intOf i).toNat)
  case atStart => exact ⟨0, 0, by decide, rfl, rfl, rfl, rfl⟩
  case round =>
    obtain ⟨k, acc, hk, rfl, rfl, rfl, hp⟩ := hrel
    obtain rfl | rfl | rfl : k = 0 ∨ k = 1 ∨ k = 2 := by omega
    · obtain rfl : acc = 0 := hp
      obtain ⟨x, L, hx, hL, hcl⟩ := byte_facts (s[0]'(by omega))
      rw [hx] at c0
      clear c1 hx
      rcases hcl with ⟨v, H, g1, g2, E⟩ | ⟨v, H, g0, g1, g2, g3, E⟩ | ⟨H, g0, g1, g2, g3⟩ | ⟨H, g1, g2⟩ | ⟨H, g1, g2⟩ | ⟨H, g1, g2⟩
      · go_wp2_with (go_at_call 146; refine (lower_any _ _).mono ?_; rintro e w1 ⟨rfl, rfl⟩)
        go_round
        case rel => exact ⟨1, v, by decide, rfl, rfl, by first | rfl | (have := E.out; congr 1; omega), H.out⟩
        case measure => simp [intOf]
      · go_wp2_with (go_at_call 146; refine (lower_any _ _).mono ?_; rintro e w1 ⟨rfl, rfl⟩)
        go_round
        case rel => exact ⟨1, v, by decide, rfl, rfl, by first | rfl | (have := E.out; congr 1; omega), H.out⟩
        case measure => simp [intOf]
      · go_wp2_with (go_at_call 146; refine (lower_any _ _).mono ?_; rintro e w1 ⟨rfl, rfl⟩)
        all_goals
          go_ret2
          exact ⟨.inr ⟨.inl H.out, rfl⟩, hbw⟩
      · go_wp2_with (go_at_call 146; refine (lower_any _ _).mono ?_; rintro e w1 ⟨rfl, rfl⟩)
        all_goals
          go_ret2
          exact ⟨.inr ⟨.inl H.out, rfl⟩, hbw⟩
      · go_wp2_with (go_at_call 146; refine (lower_any _ _).mono ?_; rintro e w1 ⟨rfl, rfl⟩)
        all_goals
          go_ret2
          exact ⟨.inr ⟨.inl H.out, rfl⟩, hbw⟩
      · go_wp2_with (go_at_call 146; refine (lower_any _ _).mono ?_; rintro e w1 ⟨rfl, rfl⟩)
        all_goals
          go_ret2
          exact ⟨.inr ⟨.inl H.out, rfl⟩, hbw⟩
    · have HP := Lib.hid (show hexV (s[0]'(by omega)) = some acc from hp)
      have ha : (acc : Int) ≤ 15 := by have := hexV_lt HP.out; omega
      have ha0 : (0 : Int) ≤ (acc : Int) := by omega
      generalize hAd : (acc : Int) = A at *
      have HA := Lib.hid hAd
      clear hAd
      obtain ⟨x, L, hx, hL, hcl⟩ := byte_facts (s[1]'(by omega))
      rw [hx] at c1
      clear c0 hx hp
      rcases hcl with ⟨v, H, g1, g2, E⟩ | ⟨v, H, g0, g1, g2, g3, E⟩ | ⟨H, g0, g1, g2, g3⟩ | ⟨H, g1, g2⟩ | ⟨H, g1, g2⟩ | ⟨H, g1, g2⟩
      · go_wp2_with (go_at_call 146; refine (lower_any _ _).mono ?_; rintro e w1 ⟨rfl, rfl⟩)
        go_round
        case rel => exact ⟨2, 16 * acc + v, by decide, rfl, rfl, by have := E.out; have := HA.out; congr 1; omega, ⟨acc, v, HP.out, H.out, rfl⟩⟩
        case measure => simp [intOf]
      · go_wp2_with (go_at_call 146; refine (lower_any _ _).mono ?_; rintro e w1 ⟨rfl, rfl⟩)
        go_round
        case rel => exact ⟨2, 16 * acc + v, by decide, rfl, rfl, by have := E.out; have := HA.out; congr 1; omega, ⟨acc, v, HP.out, H.out, rfl⟩⟩
        case measure => simp [intOf]
      · go_wp2_with (go_at_call 146; refine (lower_any _ _).mono ?_; rintro e w1 ⟨rfl, rfl⟩)
        all_goals
          go_ret2
          exact ⟨.inr ⟨.inr H.out, rfl⟩, hbw⟩
      · go_wp2_with (go_at_call 146; refine (lower_any _ _).mono ?_; rintro e w1 ⟨rfl, rfl⟩)
        all_goals
          go_ret2
          exact ⟨.inr ⟨.inr H.out, rfl⟩, hbw⟩
      · go_wp2_with (go_at_call 146; refine (lower_any _ _).mono ?_; rintro e w1 ⟨rfl, rfl⟩)
        all_goals
          go_ret2
          exact ⟨.inr ⟨.inr H.out, rfl⟩, hbw⟩
      · go_wp2_with (go_at_call 146; refine (lower_any _ _).mono ?_; rintro e w1 ⟨rfl, rfl⟩)
        all_goals
          go_ret2
          exact ⟨.inr ⟨.inr H.out, rfl⟩, hbw⟩
    · obtain ⟨a, b, h0, h1, rfl⟩ := hp
      have H0 := Lib.hid h0
      have H1 := Lib.hid h1
      clear h0 h1
      go_wp2
      go_ret2
      exact ⟨.inl ⟨a, b, H0.out, H1.out, rfl⟩, hbw⟩
end Go.Proofs.YtnbaemfkpfmheaaGreatDoor
