/-
  Contracts of the document's own hex, one and digits.
-/
import Derived.Test.YtnbaemfkpfmheaaGreatDoorText
import Derived.Deep.RegionHeld3
import Derived.Deep.RegionWith
namespace Go.Proofs.YtnbaemfkpfmheaaGreatDoor
open Go Go.RowKit

theorem hexD_lo {x : Nat} (h : x < 10) : (hexD x).toNat = 48 + x := by
  unfold hexD
  rw [if_pos h, UInt8.toNat_ofNat']
  omega
theorem hexD_hi {x : Nat} (h : 10 ≤ x) (g : x < 16) : (hexD x).toNat = 87 + x := by
  unfold hexD
  rw [if_neg (by omega), UInt8.toNat_ofNat']
  omega
set_option maxHeartbeats 400000 in
theorem hex_any (x : Nat) (hx : x < 16) (w : World) :
    Calls Tryz.prog 131 #[.int .u8 x] w fun e w' => e = .returned (.int .u8 (hexD x).toNat) ∧ w = w' := by
  have h0 : (0 : Int) ≤ (x : Int) := by omega
  have h1 : (x : Int) ≤ 15 := by omega
  go_enter Tryz.func131, Tryz.ntmps131
  go_wp2
  · have hlt : (x : Int) < 10 := by assumption
    go_ret
    exact ⟨ret_int (by rw [hexD_lo (by omega)]; omega), rfl⟩
  · have hge : (10 : Int) ≤ (x : Int) := by assumption
    go_ret
    exact ⟨ret_int (by rw [hexD_hi (by omega) (by omega)]; omega), rfl⟩
/-- A decimal digit. -/
def dgt (n : Nat) : UInt8 := UInt8.ofNat (48 + n)
theorem dec_small {n : Nat} (h : n < 10) : Lib.decDigits n = [dgt n] := by rw [Lib.decDigits, dif_pos h]; rfl
theorem dec_big {n : Nat} (h : ¬ n < 10) : Lib.decDigits n = Lib.decDigits (n / 10) ++ [dgt (n % 10)] := by rw [Lib.decDigits, dif_neg h]; rfl
theorem dec_len : ∀ (k n : Nat), n < 10 ^ (k + 1) → (Lib.decDigits n).length ≤ k + 1
  | 0, n, h => by rw [dec_small (by simpa using h)]; simp
  | k + 1, n, h => by
    rw [Nat.pow_succ] at h
    by_cases g : n < 10
    · rw [dec_small g]; simp
    · rw [dec_big g, List.length_append]
      have := dec_len k (n / 10) (by omega)
      simp
      omega
theorem dig_nat {d : Nat} (h : d < 10) : ((dgt d).toNat : Int) = 48 + (d : Int) := by
  unfold dgt
  rw [UInt8.toNat_ofNat']
  omega
theorem str_append (a b : List UInt8) : (⟨a.toArray⟩ : ByteArray) ++ ⟨b.toArray⟩ = ⟨(a ++ b).toArray⟩ := by
  apply str_ext
  rw [Lib.toList_data, Lib.toList_data, ByteArray.data_append]
  simp
/-- string(b) of one byte. -/
theorem conv_one (W : World) (g : Nat) (c : UInt8) (v : Int) (hv : (c.toNat : Int) = v) (hc : W.cell? ⟨g, 0, none⟩ = some (.int .u8 v)) :
    (convert 168 9 (.slice (some ⟨g, 0, none⟩) 1 1)).run Tryz.prog W = .ok (.string ⟨#[c]⟩) W := by
  have h := run_convert_bytes_back (P := Tryz.prog) W 168 9 5 ⟨g, 0, none⟩ 1 [c] Tryz.underlying168 Tryz.underlying5 Tryz.underlying9 (fun j hj => by
    have : j = 0 := by simpa using hj
    subst this
    rw [← hv] at hc
    simpa [Addr.add] using hc)
  exact h

theorem wrap_u64_in {x : Int} (h0 : 0 ≤ x) (h1 : x < 18446744073709551616) : IntKind.u64.wrap x = x := by
  rw [IntKind.wrap_u64]; omega
theorem wrap_u8_in {x : Int} (h0 : 0 ≤ x) (h1 : x < 256) : IntKind.u8.wrap x = x := by
  rw [IntKind.wrap_u8']; omega
/-- A number of 64 bits. -/
def U64 (n : Nat) : Prop := n < 18446744073709551616
theorem dec_len20 {n : Nat} (h : U64 n) : (Lib.decDigits n).length ≤ 20 := dec_len 19 n (Nat.lt_trans h (by decide))

set_option maxHeartbeats 400000 in
set_option maxRecDepth 100000 in
theorem digits_small (n : Nat) (hn : n < 10) (w : World) :
    Calls Tryz.prog 124 #[.int .u64 n] w fun e w' => e = .returned (.string ⟨(Lib.decDigits n).toArray⟩) ∧ Below w.heap.size w w' := by
  have h0 : (0 : Int) ≤ (n : Int) := by omega
  have h1 : (n : Int) < 10 := by omega
  have HD := Lib.hid (dec_small hn)
  have hcv := fun W g => conv_one W g (dgt n) (48 + (n : Int)) (dig_nat hn)
  go_enter Tryz.func124, Tryz.ntmps124
  go_wp2
  go_ret
  exact ⟨by rw [HD.out]; rfl, by repeat (first | exact Below.refl _ _ | refine Below.drew ?_ | refine Below.alloc ?_ (by simp) _)⟩
set_option maxHeartbeats 1000000 in
set_option maxRecDepth 100000 in
theorem digits_any (n : Nat) : U64 n → ∀ (w : World),
    Calls Tryz.prog 124 #[.int .u64 n] w fun e w' => e = .returned (.string ⟨(Lib.decDigits n).toArray⟩) ∧ Below w.heap.size w w' := by
  induction n using Nat.strongRecOn with
  | _ n ih =>
  intro hU w
  by_cases hn : n < 10
  · exact digits_small n hn w
  have e10 : ((n / 10 : Nat) : Int) = (n : Int) / 10 := by omega
  have IH := Lib.hid (ih (n / 10) (by omega) (show U64 (n / 10) from Nat.lt_of_le_of_lt (Nat.div_le_self _ _) hU))
  rw [e10] at IH
  clear ih e10
  have HD := Lib.hid (dec_big hn)
  have hln := dec_len20 (show U64 (n / 10) from Nat.lt_of_le_of_lt (Nat.div_le_self _ _) hU)
  have h0 : (0 : Int) ≤ (n : Int) := by omega
  have h1 : (10 : Int) ≤ (n : Int) := by omega
  have h2 : (0 : Int) ≤ (n : Int) % 10 := by omega
  have h3 : (n : Int) % 10 < 10 := by omega
  have hcv := fun W g => conv_one W g (dgt (n % 10)) (48 + (n : Int) % 10) (by rw [dig_nat (by omega)]; omega)
  have e1 : IntKind.u64.wrap ((n : Int) / 10) = (n : Int) / 10 := wrap_u64_in (by omega) (by have : n < 18446744073709551616 := hU; omega)
  have e2 : (n : Int).tmod 10 = (n : Int) % 10 := Int.tmod_eq_emod_of_nonneg (by omega)
  have e3 : IntKind.u64.wrap (48 + (n : Int) % 10) = 48 + (n : Int) % 10 := wrap_u64_in (by omega) (by omega)
  have e4 : IntKind.u8.wrap (48 + (n : Int) % 10) = 48 + (n : Int) % 10 := wrap_u8_in (by omega) (by omega)
  clear h2 h3
  go_enter Tryz.func124, Tryz.ntmps124
  go_wp2_with fail
  go_region_with (go_at_call 124; refine (IH.out _).mono ?_; rintro e w1 ⟨rfl, hb⟩; obtain ⟨hc, hf⟩ := bcell hb)
  all_goals
    go_wp2
    go_ret
    refine ⟨?_, ?_⟩
    · rw [HD.out, ← str_append]; rfl
    · first
      | exact (((Below.refl _ _).drew).trans (hb.mono (Nat.le_refl _))).alloc hb.size _
      | exact ((below_box w _).drew).trans (hb.mono (by simp))

/-- What the document's 'one' hands back: a row of bytes of its own, whole. -/
def OneRow (l : List UInt8) (w : World) (e : Ending) (w' : World) : Prop :=
  ∃ g : Nat, e = .returned (.slice (some ⟨g, 0, none⟩) l.length l.length) ∧ w.heap.size ≤ g ∧ (∀ j u, (Lib.byteCells l)[j]? = some u → w'.cell? ((⟨g, 0, none⟩ : Addr).add j) = some u) ∧ Below w.heap.size w w'
theorem OneRow.mk_ {w : World} {l : List UInt8} {cs : Array Value} {t n : Nat} (hn : n = l.length) (h : Lib.byteCells l = cs.toList) :
    OneRow l w (.returned (.slice (some ⟨w.heap.size, 0, none⟩) n n)) (w.alloc (.cells cs t)) := by
  subst hn
  exact ⟨_, rfl, Nat.le_refl _, fun j u hj => lit_cells w cs t j u (by rw [← h]; exact hj), below_box _ _⟩

set_option maxHeartbeats 1000000 in
set_option maxRecDepth 100000 in
theorem one_any (c : UInt8) (w : World) :
    Calls Tryz.prog 125 #[.int .u8 c.toNat] w (OneRow (oneB c) w) := by
  have hb := byte_lt c
  have h0 : (0 : Int) ≤ (c.toNat : Int) := by omega
  have h1 : (c.toNat : Int) ≤ 255 := by omega
  have e1 : ((c.toNat / 16 : Nat) : Int) = (c.toNat : Int) / 16 := by omega
  have e2 : ((c.toNat % 16 : Nat) : Int) = (c.toNat : Int) % 16 := by omega
  have H1 := Lib.hid (hex_any (c.toNat / 16) (by omega))
  have H2 := Lib.hid (hex_any (c.toNat % 16) (by omega))
  rw [e1] at H1
  rw [e2] at H2
  clear e1 e2 hb
  have tok : True := trivial
  go_enter Tryz.func125, Tryz.ntmps125
  go_wp2_with (first
    | (go_at_call 131; have _t := tok; refine (H1.out _).mono ?_; rintro e w1 ⟨rfl, rfl⟩; clear tok)
    | (go_at_call 131; refine (H2.out _).mono ?_; rintro e w1 ⟨rfl, rfl⟩))
  all_goals go_ret
  · exact OneRow.mk_ (by rw [oneB_34 (by assumption)]; rfl) (by rw [oneB_34 (by assumption)]; rfl)
  · exact OneRow.mk_ (by rw [oneB_92 (by assumption) (by assumption)]; rfl) (by rw [oneB_92 (by assumption) (by assumption)]; rfl)
  · exact OneRow.mk_ (by rw [oneB_10 (by assumption)]; rfl) (by rw [oneB_10 (by assumption)]; rfl)
  · exact OneRow.mk_ (by rw [oneB_9 (by assumption)]; rfl) (by rw [oneB_9 (by assumption)]; rfl)
  · exact OneRow.mk_ (by rw [oneB_plain (by assumption) (by assumption) (by assumption) (by assumption) (by assumption)]; rfl) (by rw [oneB_plain (by assumption) (by assumption) (by assumption) (by assumption) (by assumption)]; rfl)
  · exact OneRow.mk_ (by rw [oneB_hex (by assumption) (by assumption) (by assumption) (.inr (by assumption))]; rfl) (by rw [oneB_hex (by assumption) (by assumption) (by assumption) (.inr (by assumption))]; rfl)
  · exact OneRow.mk_ (by rw [oneB_hex (by assumption) (by assumption) (by assumption) (.inl (by assumption))]; rfl) (by rw [oneB_hex (by assumption) (by assumption) (by assumption) (.inl (by assumption))]; rfl)
end Go.Proofs.YtnbaemfkpfmheaaGreatDoor
