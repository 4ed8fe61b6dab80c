/-
  Contracts of crc.encoded, the document's four and get, crc.decoded; bytes.Equal, bytes.Clone.
-/
import Derived.Test.YteaeiejkdnbcnaaDoorCrE
import Derived.Lib.AppendZeros
namespace Go.Proofs.YteaeiejkdnbcnaaDoor
open Go Go.RowKit

/-- A number's bytes, least significant first. -/
def encB (x : Reg) (i : Nat) : UInt8 := UInt8.ofNat (x.toNat / 256 ^ i)
def encL (x : Reg) : List UInt8 := [encB x 0, encB x 1, encB x 2, encB x 3]
theorem encB_int (x : Reg) (i : Nat) : ((encB x i).toNat : Int) = rg x / 256 ^ i % 256 := by
  unfold encB rg
  rw [UInt8.toNat_ofNat']
  rw [Int.natCast_emod, Int.natCast_ediv, Int.natCast_pow]
  rfl
theorem encL_v (x : Reg) : bytesV (encL x) = [.int .u8 (rg x % 256), .int .u8 (rg x / 256 % 256), .int .u8 (rg x / 65536 % 256), .int .u8 (rg x / 16777216)] := by
  have hlo := rg_lo x
  have hhi := rg_hi x
  have h0 := encB_int x 0
  have h1 := encB_int x 1
  have h2 := encB_int x 2
  have h3 := encB_int x 3
  unfold encL bytesV
  simp only [List.map_cons, List.map_nil]
  rw [h0, h1, h2, h3, show (256 : Int) ^ 0 = 1 by decide, show (256 : Int) ^ 1 = 256 by decide, show (256 : Int) ^ 2 = 65536 by decide, show (256 : Int) ^ 3 = 16777216 by decide, Int.ediv_one, Int.emod_eq_of_lt (a := rg x / 16777216) (by omega) (by omega)]
theorem encL_len (x : Reg) : (encL x).length = 4 := rfl
set_option maxHeartbeats 1000000 in
set_option maxRecDepth 100000 in
theorem four_any (x : Reg) (w : World) :
    Calls Tryd.prog 39 #[regV x] w (EndB (encL x) w) := by
  have hlo := rg_lo x
  have hhi := rg_hi x
  go_enter Tryd.func39, Tryd.ntmps39
  go_wp2_with fail
  go_ret
  exact ⟨_, rfl, OwnB.lit w.heap.size w _ (encL x) 4 (Nat.le_refl _) rfl (by rw [encL_len]; decide) (encL_v x).symm, (Below.refl _ _).alloc (Nat.le_refl _) _⟩
set_option maxHeartbeats 1000000 in
set_option maxRecDepth 100000 in
theorem enc_any (x : Reg) (w : World) :
    Calls Tryd.prog 33 #[regV x] w (EndB (encL x) w) := by
  have hlo := rg_lo x
  have hhi := rg_hi x
  have hmk : ∀ w, (Instr.makeSlice 22 (.int .i64 4) (.int .i64 4)).run Tryd.prog w = .ok (.slice (some ⟨w.heap.size, 0, none⟩) 4 4) (w.alloc (.cells #[.int .u8 0, .int .u8 0, .int .u8 0, .int .u8 0] 5)) := fun _ => by kernel_rfl
  go_enter Tryd.func33, Tryd.ntmps33
  go_wp2_with fail
  refine wp_loop_rounds 5 ?_
  iterate 5 (rw [rounds_succ]; go_wp2_with fail)
  go_ret
  exact ⟨_, rfl, OwnB.lit w.heap.size w _ (encL x) 4 (Nat.le_refl _) rfl (by rw [encL_len]; decide) (encL_v x).symm, (Below.refl _ _).alloc (Nat.le_refl _) _⟩

theorem len_room {l : List UInt8} : l.length ≤ 140737488351232 → l.length ≤ 9223372036854775807 := by omega
/-- A byte slice that reads, and has room enough to be cut. -/
def ByC (n₀ : Nat) (w : World) (v : Value) (l : List UInt8) : Prop := BytIn n₀ w v l ∧ ∃ p cap, v = .slice p l.length cap ∧ l.length ≤ cap ∧ cap ≤ maxLen
theorem OwnB.byC {B : Nat} {w : World} {v : Value} {l : List UInt8} (h : OwnB B w v l) : ByC w.heap.size w v l := by
  refine ⟨h.in_, ?_⟩
  rcases h.2 with ⟨rfl, hx⟩ | ⟨g, cap, cur, rfl, hB, hg, hc, hm, rest⟩
  · have : l.length = 0 := hx
    exact ⟨none, 0, by rw [this], by omega, Nat.zero_le _⟩
  · exact ⟨_, cap, rfl, hc, hm⟩
theorem ByC.below {n₀ : Nat} {w w' : World} {v : Value} {l : List UInt8} (h : ByC n₀ w v l) (hb : Below n₀ w w') : ByC n₀ w' v l := ⟨h.1.below hb, h.2⟩
theorem ByC.mono {n₀ n₁ : Nat} {w : World} {v : Value} {l : List UInt8} (h : ByC n₀ w v l) (hn : n₀ ≤ n₁) : ByC n₁ w v l := ⟨h.1.mono hn, h.2⟩
/-- Are two rows of bytes the same? -/
def sameB (l m : List UInt8) : Bool := l == m
theorem sameB_iff {l m : List UInt8} : sameB l m = true ↔ l = m := by unfold sameB; exact beq_iff_eq
theorem bool_ret {a b : Bool} (h : a = b) : Ending.returned (.bool a) = .returned (.bool b) := by rw [h]
set_option maxHeartbeats 1000000 in
set_option maxRecDepth 100000 in
theorem equal_any (v1 v2 : Value) (l m : List UInt8) (n₀ : Nat) (w : World) (h1 : BytIn n₀ w v1 l) (h2 : BytIn n₀ w v2 m) :
    Calls Tryd.prog 32 #[v1, v2] w fun e w' => e = .returned (.bool (sameB l m)) ∧ w = w' := by
  have r1 := run_str w n₀ v1 l h1
  have r2 := run_str w n₀ v2 m h2
  clear h1 h2
  go_enter Tryd.func32, Tryd.ntmps32
  go_wp2_with fail
  go_ret
  exact ⟨bool_ret rfl, rfl⟩
set_option maxHeartbeats 1000000 in
set_option maxRecDepth 100000 in
theorem clone_any (v : Value) (l : List UInt8) (w : World) (h : BytIn w.heap.size w v l) (hl : l.length ≤ 100000000000000) :
    Calls Tryd.prog 34 #[v] w (EndB l w) := by
  have HL := Lib.hid hl
  clear hl
  rcases h with ⟨rfl, rfl⟩ | ⟨a, cap, rfl, hb⟩
  · have hnil : ∀ W : World, (binOp .eql 22 (.slice none 0 0) (.slice none 0 0)).run Tryd.prog W = .ok (.bool true) W := fun W => Lib.run_eql_slice_nil (P := Tryd.prog) W 22 5 none 0 0 0 0 Tryd.underlying22
    go_enter Tryd.func34, Tryd.ntmps34
    go_wp2_with fail
    go_ret
    exact ⟨_, rfl, OwnB.nil _ _, Below.refl _ _⟩
  · have hnil : ∀ W : World, (binOp .eql 22 (.slice (some a) l.length cap) (.slice none 0 0)).run Tryd.prog W = .ok (.bool false) W := fun W => Lib.run_eql_slice_nil (P := Tryd.prog) W 22 5 (some a) l.length cap 0 0 Tryd.underlying22
    have HB : Hid (BytIn (w.heap.size + 1) (w.alloc (.cells #[] 5)) (.slice (some a) l.length cap) l) := Lib.hid (BytIn.mono (BytIn.below (n₀ := w.heap.size) (.inr ⟨a, cap, rfl, hb⟩) ((Below.refl _ _).alloc (Nat.le_refl _) _)) (Nat.le_succ _))
    clear hb
    have HO : Hid (OwnB w.heap.size (w.alloc (.cells #[] 5)) (.slice (some ⟨w.heap.size, 0, none⟩) 0 0) []) := Lib.hid (OwnB.lit w.heap.size w #[] [] 0 (Nat.le_refl _) rfl (by decide) rfl)
    have HW : Hid (Below w.heap.size w (w.alloc (.cells #[] 5))) := Lib.hid ((Below.refl _ _).alloc (Nat.le_refl _) _)
    go_enter Tryd.func34, Tryd.ntmps34
    go_wp2_with (at_builtin; refine wpList_app rfl (.tmp 5) (.tmp 6) rfl w.heap.size (w.heap.size + 1) w _ _ [] l rfl rfl HO.out HB.out (by rw [List.length_nil, Nat.zero_add]; exact HL.out) HW.out (Nat.le_refl _) ?_; intro v' w1 ho hb)
    go_ret
    exact ⟨v', rfl, ho, hb⟩
theorem grow_room {n : Nat} (h : n ≤ 100000000000000) : n * 1 ≤ 281474976710656 := by omega
set_option maxHeartbeats 1000000 in
set_option maxRecDepth 100000 in
theorem grow_any (n : Nat) (w : World) (h0 : 0 < n) (hn : n ≤ 100000000000000) :
    Calls Tryd.prog 44 #[.slice none 0 0, .int .i64 n] w (EndB [] w) := by
  obtain ⟨i0, hi, hz0, hz1, hz2⟩ := info_parts Tryd.infoB
  have hrz := fun ty => Lib.run_append_nil_zeros (P := Tryd.prog) w 22 3 ty 5 i0 (.int .u8 0) .i64 .i64 Tryd.underlying22 Tryd.underlying3 hi hz0 n h0 (by rw [hz1]; decide) (by omega) (by rw [hz2]; omega)
  have hG := grownCap_ge w n 0 5
  have hG2 := grownCap_le_maxLen w n 0 5 (by unfold maxLen; omega)
  obtain ⟨G, hGe⟩ : ∃ G, G = grownCap w n 0 5 := ⟨_, rfl⟩
  rw [← hGe] at hG hG2
  simp only [← hGe] at hrz
  obtain ⟨C, hC⟩ : ∃ C, C = Builtin.zeroCells (Value.int .u8 0).cells n ++ Builtin.zeroCells (Value.int .u8 0).cells (G - n) := ⟨_, rfl⟩
  rw [← hC] at hrz
  have HO : Hid (OwnB w.heap.size (w.drew.alloc (.cells C 5)) (.slice (some ⟨w.heap.size, 0, none⟩) 0 G) []) := Lib.hid ⟨rfl, .inr ⟨_, G, C, rfl, Nat.le_refl _, heap_alloc_new w.drew _, Nat.zero_le _, hG2, by rw [hC, Array.size_append, size_zeroCells, size_zeroCells]; simp [Value.cells]; omega, by simp [bytesV]⟩⟩
  unfold maxLen at hG2
  clear hGe hC hi hz0 hz1 hz2
  have h1 : (n : Int) > 0 := by omega
  have h2 : (n : Int) ≤ 100000000000000 := by omega
  go_enter Tryd.func44, Tryd.ntmps44
  go_wp2_with (at_builtin; refine Lib.wpList_append_run _ rfl _ _ _ _ rfl _ _ rfl rfl _ _ (hrz _) ?_)
  all_goals (go_ret; exact ⟨_, rfl, HO.out, ((Below.refl _ _).drew).alloc (Nat.le_refl _) _⟩)
end Go.Proofs.YteaeiejkdnbcnaaDoor
