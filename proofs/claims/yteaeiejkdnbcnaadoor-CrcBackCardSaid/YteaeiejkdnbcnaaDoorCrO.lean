/-
  Contracts of crc.Open, crc.decoded, and the document's get and Open.
-/
import Derived.Test.YteaeiejkdnbcnaaDoorCrC
namespace Go.Proofs.YteaeiejkdnbcnaaDoor
open Go Go.RowKit

/-- The number of four bytes. -/
def decN (l : List UInt8) : Nat := (l.getD 0 0).toNat + 256 * (l.getD 1 0).toNat + 65536 * (l.getD 2 0).toNat + 16777216 * (l.getD 3 0).toNat
/-- A slice value reads as some bytes, of which four are named. -/
theorem four_cells {n₀ : Nat} {w : World} {p : Option Addr} {n c : Nat} {l : List UInt8} (h : BytIn n₀ w (.slice p n c) l) (h4 : 4 ≤ l.length) :
    n = l.length ∧ ∃ a, p = some a ∧ ∃ c0 c1 c2 c3 : UInt8, (l.getD 0 0 = c0 ∧ l.getD 1 0 = c1 ∧ l.getD 2 0 = c2 ∧ l.getD 3 0 = c3) ∧ w.cell? a = some (.int .u8 (c0.toNat : Int)) ∧ w.cell? ⟨a.block, a.off + 1, none⟩ = some (.int .u8 (c1.toNat : Int)) ∧ w.cell? ⟨a.block, a.off + 2, none⟩ = some (.int .u8 (c2.toNat : Int)) ∧ w.cell? ⟨a.block, a.off + 3, none⟩ = some (.int .u8 (c3.toNat : Int)) := by
  rcases h with ⟨e, rfl⟩ | ⟨a, cap, e, h⟩
  · simp at h4
  · injection e with e1 e2
    refine ⟨e2, a, e1, _, _, _, _, ⟨rfl, rfl, rfl, rfl⟩, ?_, ?_, ?_, ?_⟩
    all_goals
      rw [List.getD_eq_getElem?_getD, List.getElem?_eq_getElem (by omega), Option.getD_some]
    · have := (h 0 (by omega)).2
      have e0 : a.add 0 = a := by unfold Addr.add; simp
      rwa [e0] at this
    · have := (h 1 (by omega)).2
      have e0 : a.add 1 = ⟨a.block, a.off + 1, none⟩ := by unfold Addr.add; simp
      rwa [e0] at this
    · have := (h 2 (by omega)).2
      have e0 : a.add 2 = ⟨a.block, a.off + 2, none⟩ := by unfold Addr.add; simp
      rwa [e0] at this
    · have := (h 3 (by omega)).2
      have e0 : a.add 3 = ⟨a.block, a.off + 3, none⟩ := by unfold Addr.add; simp
      rwa [e0] at this
theorem or_byte (A x k : Nat) (hA : A < 2 ^ k) (hx : x * 2 ^ k < 4294967296) (hA2 : A < 4294967296) : bits .or .u32 (A : Int) ((x * 2 ^ k : Nat) : Int) = ((A + x * 2 ^ k : Nat) : Int) := by
  rw [u32_or_nat _ _ hA2 hx, Nat.or_comm, nat_join k _ _ (Nat.mul_mod_left _ _) hA, Nat.add_comm]
theorem or_four (c0 c1 c2 c3 : UInt8) : bits .or .u32 (bits .or .u32 (bits .or .u32 ((c0.toNat : Int) % 4294967296) ((c1.toNat : Int) % 4294967296 * 256 % 4294967296)) ((c2.toNat : Int) % 4294967296 * 65536 % 4294967296)) ((c3.toNat : Int) % 4294967296 * 16777216 % 4294967296) =
    ((c0.toNat + 256 * c1.toNat + 65536 * c2.toNat + 16777216 * c3.toNat : Nat) : Int) := by
  have b0 := c0.toNat_lt
  have b1 := c1.toNat_lt
  have b2 := c2.toNat_lt
  have b3 := c3.toNat_lt
  generalize c0.toNat = x0 at *
  generalize c1.toNat = x1 at *
  generalize c2.toNat = x2 at *
  generalize c3.toNat = x3 at *
  rw [show (x0 : Int) % 4294967296 = (x0 : Nat) by omega, show (x1 : Int) % 4294967296 * 256 % 4294967296 = ((x1 * 2 ^ 8 : Nat) : Int) by omega,
    show (x2 : Int) % 4294967296 * 65536 % 4294967296 = ((x2 * 2 ^ 16 : Nat) : Int) by omega, show (x3 : Int) % 4294967296 * 16777216 % 4294967296 = ((x3 * 2 ^ 24 : Nat) : Int) by omega,
    or_byte x0 x1 8 (by omega) (by omega) (by omega), or_byte _ x2 16 (by omega) (by omega) (by omega), or_byte _ x3 24 (by omega) (by omega) (by omega)]
  omega
theorem or_zero (c : UInt8) : bits .or .u32 0 ((c.toNat : Int) % 4294967296) = (c.toNat : Int) % 4294967296 := by
  have b0 := c.toNat_lt
  rw [show (c.toNat : Int) % 4294967296 = (c.toNat : Nat) by omega, show (0 : Int) = ((0 : Nat) : Int) from rfl, u32_or_nat _ _ (by decide) (by omega), Nat.zero_or]
theorem or_dec {l : List UInt8} {c0 c1 c2 c3 : UInt8} (h : l.getD 0 0 = c0 ∧ l.getD 1 0 = c1 ∧ l.getD 2 0 = c2 ∧ l.getD 3 0 = c3) :
    bits .or .u32 (bits .or .u32 (bits .or .u32 ((c0.toNat : Int) % 4294967296) ((c1.toNat : Int) % 4294967296 * 256 % 4294967296)) ((c2.toNat : Int) % 4294967296 * 65536 % 4294967296)) ((c3.toNat : Int) % 4294967296 * 16777216 % 4294967296) = (decN l : Nat) := by
  obtain ⟨rfl, rfl, rfl, rfl⟩ := h
  exact or_four _ _ _ _
theorem decN_lt (l : List UInt8) : decN l < 4294967296 := by
  unfold decN
  have b0 := (l.getD 0 0).toNat_lt
  have b1 := (l.getD 1 0).toNat_lt
  have b2 := (l.getD 2 0).toNat_lt
  have b3 := (l.getD 3 0).toNat_lt
  omega
theorem decN_enc (x : Reg) : decN (encL x) = x.toNat := by
  have := x.isLt
  unfold decN encL encB
  simp only [List.getD_cons_zero, List.getD_cons_succ, UInt8.toNat_ofNat']
  omega
theorem enc_decN {l : List UInt8} (h : l.length = 4) : encL (BitVec.ofNat 32 (decN l)) = l := by
  match l, h with
  | [a, b, c, d], _ =>
    have b0 := a.toNat_lt
    have b1 := b.toNat_lt
    have b2 := c.toNat_lt
    have b3 := d.toNat_lt
    unfold decN encL encB
    simp only [List.getD_cons_zero, List.getD_cons_succ, BitVec.toNat_ofNat]
    have e (x : UInt8) (n : Nat) (h : n % 256 = x.toNat) : UInt8.ofNat n = x := UInt8.toNat_inj.1 (by rw [UInt8.toNat_ofNat']; exact h)
    rw [e a _ (by omega), e b _ (by omega), e c _ (by omega), e d _ (by omega)]
theorem decN_iff {l : List UInt8} (h : l.length = 4) (x : Reg) : decN l = x.toNat ↔ l = encL x := by
  constructor
  · intro e
    rw [← enc_decN h, e, BitVec.ofNat_toNat, BitVec.setWidth_eq]
  · intro e
    rw [e, decN_enc]
set_option maxHeartbeats 1000000 in
set_option maxRecDepth 100000 in
theorem get_any (v : Value) (l : List UInt8) (w : World) (h : BytIn w.heap.size w v l) (h4 : 4 ≤ l.length) (hl : l.length ≤ 9223372036854775807) :
    Calls Tryd.prog 35 #[v] w fun e w' => e = .returned (.int .u32 (decN l : Nat)) ∧ ∃ n, w' = w.drewN n := by
  obtain ⟨p, c, rfl⟩ := h.shape
  obtain ⟨-, a, rfl, c0, c1, c2, c3, hc, k0, k1, k2, k3⟩ := four_cells h h4
  have HC := Lib.hid hc
  have g0 : (0 : Int) < (l.length : Int) := by omega
  have n0 : 0 < l.length := by omega
  have n1 : 1 < l.length := by omega
  have n2 : 2 < l.length := by omega
  have n3 : 3 < l.length := by omega
  have g1 : (1 : Int) < (l.length : Int) := by omega
  have g2 : (2 : Int) < (l.length : Int) := by omega
  have g3 : (3 : Int) < (l.length : Int) := by omega
  have g5 : (l.length : Int) ≤ 9223372036854775807 := by omega
  clear hc h h4 hl
  go_enter Tryd.func35, Tryd.ntmps35
  go_wp2_with fail
  go_quiet (fail)
  go_wp2_with fail
  go_ret
  exact ⟨ret_int (or_dec HC.out), _, rfl⟩
set_option maxHeartbeats 1000000 in
set_option maxRecDepth 100000 in
theorem dec_any (v : Value) (l : List UInt8) (w : World) (h : BytIn w.heap.size w v l) (h4 : 4 ≤ l.length) (hl : l.length ≤ 9223372036854775807) :
    Calls Tryd.prog 42 #[v] w fun e w' => e = .returned (.int .u32 (decN l : Nat)) ∧ w = w' := by
  obtain ⟨p, c, rfl⟩ := h.shape
  obtain ⟨-, a, rfl, c0, c1, c2, c3, hc, k0, k1, k2, k3⟩ := four_cells h h4
  have HC := Lib.hid hc
  have g0 : (0 : Int) < (l.length : Int) := by omega
  have n0 : 0 < l.length := by omega
  have n1 : 1 < l.length := by omega
  have n2 : 2 < l.length := by omega
  have n3 : 3 < l.length := by omega
  have g1 : (1 : Int) < (l.length : Int) := by omega
  have g2 : (2 : Int) < (l.length : Int) := by omega
  have g3 : (3 : Int) < (l.length : Int) := by omega
  have g5 : (l.length : Int) ≤ 9223372036854775807 := by omega
  clear hc h h4 hl
  go_enter Tryd.func42, Tryd.ntmps42
  go_wp2_with fail
  refine wp_loop_rounds 5 ?_
  iterate 5 (rw [rounds_succ]; go_wp2_with fail)
  go_ret
  exact ⟨ret_int (by rw [or_zero]; exact or_dec HC.out), rfl⟩
end Go.Proofs.YteaeiejkdnbcnaaDoor
