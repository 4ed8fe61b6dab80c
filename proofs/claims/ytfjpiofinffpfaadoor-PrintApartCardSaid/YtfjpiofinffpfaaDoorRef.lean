/-
  Contracts of the document's own hex, one and digits.
-/
import Derived.Test.YtfjpiofinffpfaaDoorText
import Derived.Deep.RegionHeld3
import Derived.Deep.RegionWith
namespace Go.Proofs.YtfjpiofinffpfaaDoor
open Go Go.RowKit

theorem hexD_lo {x : Nat} (h : x < 10) : (hexD x).toNat = 48 + x := by
  unfold hexD
  rw [if_pos h, UInt8.toNat_ofNat']
  omega
theorem hexD_hi {x : Nat} (h : 10 ≤ x) (g : x < 16) : (hexD x).toNat = 87 + x := by
  unfold hexD
  rw [if_neg (by omega), UInt8.toNat_ofNat']
  omega
/-- A decimal digit. -/
def dgt (n : Nat) : UInt8 := UInt8.ofNat (48 + n)
theorem dec_small {n : Nat} (h : n < 10) : Lib.decDigits n = [dgt n] := by rw [Lib.decDigits, dif_pos h]; rfl
theorem dec_big {n : Nat} (h : ¬ n < 10) : Lib.decDigits n = Lib.decDigits (n / 10) ++ [dgt (n % 10)] := by rw [Lib.decDigits, dif_neg h]; rfl
theorem dec_len : ∀ (k n : Nat), n < 10 ^ (k + 1) → (Lib.decDigits n).length ≤ k + 1
  | 0, n, h => by rw [dec_small (by simpa using h)]; simp
  | k + 1, n, h => by
    rw [Nat.pow_succ] at h
    by_cases g : n < 10
    · rw [dec_small g]; simp
    · rw [dec_big g, List.length_append]
      have := dec_len k (n / 10) (by omega)
      simp
      omega
theorem dig_nat {d : Nat} (h : d < 10) : ((dgt d).toNat : Int) = 48 + (d : Int) := by
  unfold dgt
  rw [UInt8.toNat_ofNat']
  omega
theorem str_append (a b : List UInt8) : (⟨a.toArray⟩ : ByteArray) ++ ⟨b.toArray⟩ = ⟨(a ++ b).toArray⟩ := by
  apply str_ext
  rw [Lib.toList_data, Lib.toList_data, ByteArray.data_append]
  simp
/-- string(b) of one byte. -/
theorem conv_one (W : World) (g : Nat) (c : UInt8) (v : Int) (hv : (c.toNat : Int) = v) (hc : W.cell? ⟨g, 0, none⟩ = some (.int .u8 v)) :
    (convert 102 9 (.slice (some ⟨g, 0, none⟩) 1 1)).run Tryd.prog W = .ok (.string ⟨#[c]⟩) W := by
  have h := run_convert_bytes_back (P := Tryd.prog) W 102 9 5 ⟨g, 0, none⟩ 1 [c] Tryd.underlying102 Tryd.underlying5 Tryd.underlying9 (fun j hj => by
    have : j = 0 := by simpa using hj
    subst this
    rw [← hv] at hc
    simpa [Addr.add] using hc)
  exact h

theorem wrap_u64_in {x : Int} (h0 : 0 ≤ x) (h1 : x < 18446744073709551616) : IntKind.u64.wrap x = x := by
  rw [IntKind.wrap_u64]; omega
theorem wrap_u8_in {x : Int} (h0 : 0 ≤ x) (h1 : x < 256) : IntKind.u8.wrap x = x := by
  rw [IntKind.wrap_u8']; omega
/-- A number of 64 bits. -/
def U64 (n : Nat) : Prop := n < 18446744073709551616
theorem dec_len20 {n : Nat} (h : U64 n) : (Lib.decDigits n).length ≤ 20 := dec_len 19 n (Nat.lt_trans h (by decide))

/-- What the document's 'one' hands back: a row of bytes of its own, whole. -/
def OneRow (l : List UInt8) (w : World) (e : Ending) (w' : World) : Prop :=
  ∃ g : Nat, e = .returned (.slice (some ⟨g, 0, none⟩) l.length l.length) ∧ w.heap.size ≤ g ∧ (∀ j u, (Lib.byteCells l)[j]? = some u → w'.cell? ((⟨g, 0, none⟩ : Addr).add j) = some u) ∧ Below w.heap.size w w'
theorem OneRow.mk_ {w : World} {l : List UInt8} {cs : Array Value} {t n : Nat} (hn : n = l.length) (h : Lib.byteCells l = cs.toList) :
    OneRow l w (.returned (.slice (some ⟨w.heap.size, 0, none⟩) n n)) (w.alloc (.cells cs t)) := by
  subst hn
  exact ⟨_, rfl, Nat.le_refl _, fun j u hj => lit_cells w cs t j u (by rw [← h]; exact hj), below_box _ _⟩

end Go.Proofs.YtfjpiofinffpfaaDoor
