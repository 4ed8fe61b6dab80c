/-
  Contracts of crc.encoded, the document's four and get, crc.decoded; bytes.Equal, bytes.Clone.
  Contract of slices.Concat at two rows of bytes; of crc.Seal and the document's Seal.
  Plain facts on runs: an entry's bytes, pages, a run's bytes. No program is named here.
-/
import Derived.Test.YtdjhfcopnhcljaaGreatDoorW03
import Derived.Lib.AppendZeros
import Derived.Test.YtdjhfcopnhcljaaGreatDoorW01
namespace Go.Proofs.YtdjhfcopnhcljaaGreatDoor
section
open Go Go.RowKit

/-- A number's bytes, least significant first. -/
def encB (x : Reg) (i : Nat) : UInt8 := UInt8.ofNat (x.toNat / 256 ^ i)
def encL (x : Reg) : List UInt8 := [encB x 0, encB x 1, encB x 2, encB x 3]
theorem encB_int (x : Reg) (i : Nat) : ((encB x i).toNat : Int) = rg x / 256 ^ i % 256 := by
  unfold encB rg
  rw [UInt8.toNat_ofNat']
  rw [Int.natCast_emod, Int.natCast_ediv, Int.natCast_pow]
  rfl
theorem encL_v (x : Reg) : bytesV (encL x) = [.int .u8 (rg x % 256), .int .u8 (rg x / 256 % 256), .int .u8 (rg x / 65536 % 256), .int .u8 (rg x / 16777216)] := by
  have hlo := rg_lo x
  have hhi := rg_hi x
  have h0 := encB_int x 0
  have h1 := encB_int x 1
  have h2 := encB_int x 2
  have h3 := encB_int x 3
  unfold encL bytesV
  simp only [List.map_cons, List.map_nil]
  rw [h0, h1, h2, h3, show (256 : Int) ^ 0 = 1 by decide, show (256 : Int) ^ 1 = 256 by decide, show (256 : Int) ^ 2 = 65536 by decide, show (256 : Int) ^ 3 = 16777216 by decide, Int.ediv_one, Int.emod_eq_of_lt (a := rg x / 16777216) (by omega) (by omega)]
theorem encL_len (x : Reg) : (encL x).length = 4 := rfl
set_option maxHeartbeats 1000000 in
set_option maxRecDepth 100000 in
theorem four_any (x : Reg) (w : World) :
    Calls Tryz.prog 99 #[regV x] w (EndB (encL x) w) := by
  have hlo := rg_lo x
  have hhi := rg_hi x
  go_enter Tryz.func99, Tryz.ntmps99
  go_wp2_with fail
  go_ret
  exact ⟨_, rfl, OwnB.lit w.heap.size w _ (encL x) 4 (Nat.le_refl _) rfl (by rw [encL_len]; decide) (encL_v x).symm, (Below.refl _ _).alloc (Nat.le_refl _) _⟩
set_option maxHeartbeats 1000000 in
set_option maxRecDepth 100000 in
theorem cenc_any (x : Reg) (w : World) :
    Calls Tryz.prog 137 #[regV x] w (EndB (encL x) w) := by
  have hlo := rg_lo x
  have hhi := rg_hi x
  have hmk : ∀ w, (Instr.makeSlice 24 (.int .i64 4) (.int .i64 4)).run Tryz.prog w = .ok (.slice (some ⟨w.heap.size, 0, none⟩) 4 4) (w.alloc (.cells #[.int .u8 0, .int .u8 0, .int .u8 0, .int .u8 0] 5)) := fun _ => by kernel_rfl
  go_enter Tryz.func137, Tryz.ntmps137
  go_wp2_with fail
  refine wp_loop_rounds 5 ?_
  iterate 5 (rw [rounds_succ]; go_wp2_with fail)
  go_ret
  exact ⟨_, rfl, OwnB.lit w.heap.size w _ (encL x) 4 (Nat.le_refl _) rfl (by rw [encL_len]; decide) (encL_v x).symm, (Below.refl _ _).alloc (Nat.le_refl _) _⟩

theorem len_room {l : List UInt8} : l.length ≤ 140737488351232 → l.length ≤ 9223372036854775807 := by omega
/-- A byte slice that reads, and has room enough to be cut. -/
def ByC (n₀ : Nat) (w : World) (v : Value) (l : List UInt8) : Prop := BytIn n₀ w v l ∧ ∃ p cap, v = .slice p l.length cap ∧ l.length ≤ cap ∧ cap ≤ maxLen
theorem OwnB.byC {B : Nat} {w : World} {v : Value} {l : List UInt8} (h : OwnB B w v l) : ByC w.heap.size w v l := by
  refine ⟨h.in_, ?_⟩
  rcases h.2 with ⟨rfl, hx⟩ | ⟨g, cap, cur, rfl, hB, hg, hc, hm, rest⟩
  · have : l.length = 0 := hx
    exact ⟨none, 0, by rw [this], by omega, Nat.zero_le _⟩
  · exact ⟨_, cap, rfl, hc, hm⟩
theorem ByC.below {n₀ : Nat} {w w' : World} {v : Value} {l : List UInt8} (h : ByC n₀ w v l) (hb : Below n₀ w w') : ByC n₀ w' v l := ⟨h.1.below hb, h.2⟩
theorem ByC.mono {n₀ n₁ : Nat} {w : World} {v : Value} {l : List UInt8} (h : ByC n₀ w v l) (hn : n₀ ≤ n₁) : ByC n₁ w v l := ⟨h.1.mono hn, h.2⟩
/-- Are two rows of bytes the same? -/
def sameB (l m : List UInt8) : Bool := l == m
theorem sameB_iff {l m : List UInt8} : sameB l m = true ↔ l = m := by unfold sameB; exact beq_iff_eq
theorem bool_ret {a b : Bool} (h : a = b) : Ending.returned (.bool a) = .returned (.bool b) := by rw [h]
set_option maxHeartbeats 1000000 in
set_option maxRecDepth 100000 in
theorem equal_any (v1 v2 : Value) (l m : List UInt8) (n₀ : Nat) (w : World) (h1 : BytIn n₀ w v1 l) (h2 : BytIn n₀ w v2 m) :
    Calls Tryz.prog 54 #[v1, v2] w fun e w' => e = .returned (.bool (sameB l m)) ∧ w = w' := by
  have r1 := run_str w n₀ v1 l h1
  have r2 := run_str w n₀ v2 m h2
  clear h1 h2
  go_enter Tryz.func54, Tryz.ntmps54
  go_wp2_with fail
  go_ret
  exact ⟨bool_ret rfl, rfl⟩
set_option maxHeartbeats 1000000 in
set_option maxRecDepth 100000 in
theorem clone_any (v : Value) (l : List UInt8) (w : World) (h : BytIn w.heap.size w v l) (hl : l.length ≤ 100000000000000) :
    Calls Tryz.prog 176 #[v] w (EndB l w) := by
  have HL := Lib.hid hl
  clear hl
  rcases h with ⟨rfl, rfl⟩ | ⟨a, cap, rfl, hb⟩
  · have hnil : ∀ W : World, (binOp .eql 24 (.slice none 0 0) (.slice none 0 0)).run Tryz.prog W = .ok (.bool true) W := fun W => Lib.run_eql_slice_nil (P := Tryz.prog) W 24 5 none 0 0 0 0 Tryz.underlying24
    go_enter Tryz.func176, Tryz.ntmps176
    go_wp2_with fail
    go_ret
    exact ⟨_, rfl, OwnB.nil _ _, Below.refl _ _⟩
  · have hnil : ∀ W : World, (binOp .eql 24 (.slice (some a) l.length cap) (.slice none 0 0)).run Tryz.prog W = .ok (.bool false) W := fun W => Lib.run_eql_slice_nil (P := Tryz.prog) W 24 5 (some a) l.length cap 0 0 Tryz.underlying24
    have HB : Hid (BytIn (w.heap.size + 1) (w.alloc (.cells #[] 5)) (.slice (some a) l.length cap) l) := Lib.hid (BytIn.mono (BytIn.below (n₀ := w.heap.size) (.inr ⟨a, cap, rfl, hb⟩) ((Below.refl _ _).alloc (Nat.le_refl _) _)) (Nat.le_succ _))
    clear hb
    have HO : Hid (OwnB w.heap.size (w.alloc (.cells #[] 5)) (.slice (some ⟨w.heap.size, 0, none⟩) 0 0) []) := Lib.hid (OwnB.lit w.heap.size w #[] [] 0 (Nat.le_refl _) rfl (by decide) rfl)
    have HW : Hid (Below w.heap.size w (w.alloc (.cells #[] 5))) := Lib.hid ((Below.refl _ _).alloc (Nat.le_refl _) _)
    go_enter Tryz.func176, Tryz.ntmps176
    go_wp2_with (at_builtin; refine wpList_app rfl (.tmp 5) (.tmp 6) rfl w.heap.size (w.heap.size + 1) w _ _ [] l rfl rfl HO.out HB.out (by rw [List.length_nil, Nat.zero_add]; exact HL.out) HW.out (Nat.le_refl _) ?_; intro v' w1 ho hb)
    go_ret
    exact ⟨v', rfl, ho, hb⟩
theorem grow_room {n : Nat} (h : n ≤ 100000000000000) : n * 1 ≤ 281474976710656 := by omega
set_option maxHeartbeats 1000000 in
set_option maxRecDepth 100000 in
theorem grow_any (n : Nat) (w : World) (h0 : 0 < n) (hn : n ≤ 100000000000000) :
    Calls Tryz.prog 139 #[.slice none 0 0, .int .i64 n] w (EndB [] w) := by
  obtain ⟨i0, hi, hz0, hz1, hz2⟩ := info_parts Tryz.infoB
  have hrz := fun ty => Lib.run_append_nil_zeros (P := Tryz.prog) w 24 3 ty 5 i0 (.int .u8 0) .i64 .i64 Tryz.underlying24 Tryz.underlying3 hi hz0 n h0 (by rw [hz1]; decide) (by omega) (by rw [hz2]; omega)
  have hG := grownCap_ge w n 0 5
  have hG2 := grownCap_le_maxLen w n 0 5 (by unfold maxLen; omega)
  obtain ⟨G, hGe⟩ : ∃ G, G = grownCap w n 0 5 := ⟨_, rfl⟩
  rw [← hGe] at hG hG2
  simp only [← hGe] at hrz
  obtain ⟨C, hC⟩ : ∃ C, C = Builtin.zeroCells (Value.int .u8 0).cells n ++ Builtin.zeroCells (Value.int .u8 0).cells (G - n) := ⟨_, rfl⟩
  rw [← hC] at hrz
  have HO : Hid (OwnB w.heap.size (w.drew.alloc (.cells C 5)) (.slice (some ⟨w.heap.size, 0, none⟩) 0 G) []) := Lib.hid ⟨rfl, .inr ⟨_, G, C, rfl, Nat.le_refl _, heap_alloc_new w.drew _, Nat.zero_le _, hG2, by rw [hC, Array.size_append, size_zeroCells, size_zeroCells]; simp [Value.cells]; omega, by simp [bytesV]⟩⟩
  unfold maxLen at hG2
  clear hGe hC hi hz0 hz1 hz2
  have h1 : (n : Int) > 0 := by omega
  have h2 : (n : Int) ≤ 100000000000000 := by omega
  go_enter Tryz.func139, Tryz.ntmps139
  go_wp2_with (at_builtin; refine Lib.wpList_append_run _ rfl _ _ _ _ rfl _ _ rfl rfl _ _ (hrz _) ?_)
  all_goals (go_ret; exact ⟨_, rfl, HO.out, ((Below.refl _ _).drew).alloc (Nat.le_refl _) _⟩)
end
section
open Go Go.RowKit

set_option maxHeartbeats 1000000 in
set_option maxRecDepth 100000 in
theorem grow_none (w : World) :
    Calls Tryz.prog 139 #[.slice none 0 0, .int .i64 0] w (EndB [] w) := by
  go_enter Tryz.func139, Tryz.ntmps139
  go_wp2_with fail
  go_ret
  exact ⟨_, rfl, OwnB.nil _ _, Below.refl _ _⟩
theorem grow_all (n : Nat) (w : World) (hn : n ≤ 100000000000000) :
    Calls Tryz.prog 139 #[.slice none 0 0, .int .i64 n] w (EndB [] w) := by
  rcases Nat.eq_zero_or_pos n with rfl | h
  · exact grow_none w
  · exact grow_any n w h hn
/-- Block b holds two slice values, which read as bytes. -/
def TwoB (w : World) (b : Nat) (l m : List UInt8) : Prop :=
  ∃ p c q d, b < w.heap.size ∧ w.cell? ⟨b, 0, none⟩ = some (.slice p l.length c) ∧ w.cell? ⟨b, 1, none⟩ = some (.slice q m.length d) ∧ BytIn w.heap.size w (.slice p l.length c) l ∧ BytIn w.heap.size w (.slice q m.length d) m
set_option maxHeartbeats 1000000 in
set_option maxRecDepth 100000 in
theorem concat_any (b : Nat) (l m : List UInt8) (w : World) (h : TwoB w b l m) (hl : l.length + m.length ≤ 100000000000000) :
    Calls Tryz.prog 97 #[.slice (some ⟨b, 0, none⟩) 2 2] w (EndB (l ++ m) w) := by
  obtain ⟨p, c, q, d, hb, h0, h1, hi, hj⟩ := h
  have HI := Lib.hid hi
  have HJ := Lib.hid hj
  have HB := Lib.hid hb
  have HLn := Lib.hid hl
  have hl1 : (l.length : Int) ≤ 100000000000000 := by omega
  have hl2 : (l.length : Int) + (m.length : Int) ≤ 100000000000000 := by omega
  have hl3 : (0 : Int) ≤ (l.length : Int) := by omega
  have hl4 : (0 : Int) ≤ (l.length : Int) + (m.length : Int) := by omega
  clear hi hj hl hb
  go_enter Tryz.func97, Tryz.ntmps97
  go_wp2_with fail
  refine wp_loop_rounds 3 ?_
  iterate 3 (rw [rounds_succ]; go_wp2_with fail)
  have ESum : Hid ((l.length : Int) + (m.length : Int) = ((l.length + m.length : Nat) : Int)) := Lib.hid (by omega)
  rw [ESum.out]
  refine (grow_all _ _ HLn.out).mono ?_
  rintro e w1 ⟨v1, rfl, ho1, hb1⟩
  have c0 : w1.cell? ⟨b, 0, none⟩ = some (.slice p l.length c) := (hb1.cell (p := ⟨b, 0, none⟩) HB.out).trans h0
  have HO1 := Lib.hid ho1
  have HB1 := Lib.hid hb1
  have HI1 := Lib.hid (HI.out.below hb1)
  clear ho1 hb1 h0
  go_wp2_with fail
  refine wp_loop_rounds 3 ?_
  rw [rounds_succ]
  go_wp2_with (at_builtin; refine wpList_app rfl (.tmp 31) (.tmp 32) rfl w.heap.size w.heap.size w _ _ [] l rfl rfl HO1.out HI1.out (by have := HLn.out; rw [List.length_nil]; omega) HB1.out (Nat.le_refl _) ?_; intro v2 w2 ho2 hb2)
  have c1 : w2.cell? ⟨b, 1, none⟩ = some (.slice q m.length d) := (hb2.cell (p := ⟨b, 1, none⟩) HB.out).trans h1
  have HO2 := Lib.hid ho2
  have HB2 := Lib.hid hb2
  have HJ2 := Lib.hid (HJ.out.below hb2)
  clear ho2 hb2 h1 c0
  rw [rounds_succ]
  go_wp2_with (at_builtin; refine wpList_app rfl (.tmp 31) (.tmp 32) rfl w.heap.size w.heap.size w _ _ l m rfl rfl HO2.out HJ2.out HLn.out HB2.out (Nat.le_refl _) ?_; intro v3 w3 ho3 hb3)
  have HO3 := Lib.hid ho3
  have HB3 := Lib.hid hb3
  clear ho3 hb3
  rw [rounds_succ]
  go_wp2_with fail
  go_ret
  exact ⟨_, rfl, HO3.out, HB3.out⟩
theorem TwoB.lit {w1 : World} {p : Option Addr} {c : Nat} {q : Option Addr} {d : Nat} {l m : List UInt8} (h1 : BytIn w1.heap.size w1 (.slice p l.length c) l) (h2 : BytIn w1.heap.size w1 (.slice q m.length d) m) :
    TwoB (w1.alloc (.cells #[.slice p l.length c, .slice q m.length d] 24)) w1.heap.size l m := by
  refine ⟨p, c, q, d, by simp, ?_, ?_, ?_, ?_⟩
  · rw [cell_of_row _ w1.heap.size 0 _ _ (0, 0) (heap_alloc_new w1 _)]; rfl
  · rw [cell_of_row _ w1.heap.size 1 _ _ (0, 0) (heap_alloc_new w1 _)]; rfl
  · exact (h1.below ((Below.refl _ _).alloc (Nat.le_refl _) _)).mono (by simp)
  · exact (h2.below ((Below.refl _ _).alloc (Nat.le_refl _) _)).mono (by simp)
/-- Sealed bytes. -/
def sealL (l : List UInt8) : List UInt8 := l ++ encL (sumL l)
theorem sealL_len (l : List UInt8) : (sealL l).length = l.length + 4 := by unfold sealL; rw [List.length_append, encL_len]
theorem EndB.up {l : List UInt8} {w W : World} {e : Ending} {w' : World} (hb : Below w.heap.size w W) (h : EndB l W e w') : EndB l w e w' := by
  obtain ⟨v, rfl, ho, hb'⟩ := h
  exact ⟨v, rfl, ho.mono hb.size, hb.trans (hb'.mono hb.size)⟩
set_option maxHeartbeats 1000000 in
set_option maxRecDepth 100000 in
theorem seal_any (v : Value) (l : List UInt8) (w : World) (h : BytIn w.heap.size w v l) (hl : l.length ≤ 90000000000000) (G : Glob w) :
    Calls Tryz.prog 95 #[v] w (EndB (sealL l) w) := by
  have HS := Lib.hid (sum_any v l w h (by omega) G)
  have H := Lib.hid h
  have HL := Lib.hid hl
  obtain ⟨p, c, rfl⟩ := h.shape
  clear h hl G
  go_enter Tryz.func95, Tryz.ntmps95
  go_wp2_with fail
  refine HS.out.mono ?_
  rintro e w' ⟨rfl, rfl⟩
  go_wp2_with fail
  refine (cenc_any _ _).mono ?_
  rintro e w1 ⟨v1, rfl, ho1, hb1⟩
  obtain ⟨q, d, rfl⟩ := ho1.in_.shape
  have HT := Lib.hid (TwoB.lit (w1 := w1) (p := p) (c := c) (q := q) (d := d) ((H.out.below hb1).mono hb1.size) ho1.in_)
  have HB1 := Lib.hid (show Below w.heap.size w (w1.alloc (.cells #[.slice p l.length c, .slice q (encL (sumL l)).length d] 24)) from hb1.alloc hb1.size _)
  clear ho1 hb1
  go_wp2_with fail
  refine (concat_any _ l (encL (sumL l)) _ HT.out (by have := HL.out; rw [encL_len]; omega)).mono ?_
  intro e w2 he
  obtain ⟨v2, rfl, ho2, hb2⟩ := EndB.up HB1.out he
  have HO2 := Lib.hid ho2
  have HB2 := Lib.hid hb2
  clear ho2 hb2 he
  go_wp2_with fail
  go_ret
  exact ⟨_, rfl, HO2.out, HB2.out⟩
set_option maxHeartbeats 1000000 in
set_option maxRecDepth 100000 in
theorem rseal_any (v : Value) (l : List UInt8) (w : World) (h : BytIn w.heap.size w v l) (hl : l.length ≤ 90000000000000) :
    Calls Tryz.prog 40 #[v] w (EndB (sealL l) w) := by
  have H := Lib.hid h
  have HL := Lib.hid hl
  obtain ⟨p, c, rfl⟩ := h.shape
  clear h hl
  have HO : Hid (OwnB w.heap.size (w.alloc (.cells #[] 5)) (.slice (some ⟨w.heap.size, 0, none⟩) 0 0) []) := Lib.hid (OwnB.lit w.heap.size w #[] [] 0 (Nat.le_refl _) rfl (by decide) rfl)
  have HW : Hid (Below w.heap.size w (w.alloc (.cells #[] 5))) := Lib.hid ((Below.refl _ _).alloc (Nat.le_refl _) _)
  have HI := Lib.hid (H.out.below HW.out)
  go_enter Tryz.func40, Tryz.ntmps40
  go_wp2_with (at_builtin; refine wpList_app rfl (.tmp 3) (.tmp 4) rfl w.heap.size w.heap.size w _ _ [] l rfl rfl HO.out HI.out (by have := HL.out; rw [List.length_nil]; omega) HW.out (Nat.le_refl _) ?_; intro v' w1 ho hb)
  have HO1 := Lib.hid ho
  have HB1 := Lib.hid hb
  clear ho hb
  refine (rsum_any _ l _ ((H.out.below HB1.out).mono HB1.out.size) (by have := HL.out; omega)).mono ?_
  rintro e w' ⟨rfl, rfl⟩
  go_wp2_with fail
  refine (four_any _ _).mono ?_
  rintro e w2 ⟨v2, rfl, ho2, hb2⟩
  have HO2 := Lib.hid (HO1.out.below hb2)
  have HI2 := Lib.hid ho2.in_
  have HB2 := Lib.hid (HB1.out.trans (hb2.mono HB1.out.size))
  clear ho2 hb2
  go_wp2_with (at_builtin; refine wpList_app rfl (.tmp 5) (.tmp 8) rfl w.heap.size w2.heap.size w _ _ l (encL (sumL l)) rfl rfl HO2.out HI2.out (by have := HL.out; rw [encL_len]; omega) HB2.out (Nat.le_refl _) ?_; intro v3 w3 ho3 hb3)
  have HO3 := Lib.hid ho3
  have HB3 := Lib.hid hb3
  clear ho3 hb3
  go_wp2_with fail
  go_ret
  exact ⟨_, rfl, HO3.out, HB3.out⟩
end
section
open Go Go.RowKit

abbrev Ct := List V3 × Int
/-- A counted tuple's bytes. -/
def cntL (c : Ct) : List UInt8 := tupL c.1 ++ intL c.2
/-- The pages of what is left, behind the entries of a page that is begun. -/
def pgRest : List Ct → List Ct → List (List Ct)
  | P, [] => if P = [] then [] else [P]
  | P, c :: r => if P ≠ [] ∧ 256 < (P.flatMap cntL).length + (cntL c).length then P :: pgRest [c] r else pgRest (P ++ [c]) r
/-- The pages of a run. -/
def pagesL (E : List Ct) : List (List Ct) := pgRest [] E
/-- A page's bytes. -/
def pageL (P : List Ct) : List UInt8 := sealL (numL P.length ++ P.flatMap cntL)
def headT (P : List Ct) : List V3 := (P.headD ([], 0)).1
/-- What the index tells of a page. -/
def spanL (P : List Ct) : List UInt8 := numL (pageL P).length ++ textL (keyT (headT P))
def le4 (n : Nat) : List UInt8 := [UInt8.ofNat n, UInt8.ofNat (n / 256), UInt8.ofNat (n / 65536), UInt8.ofNat (n / 16777216)]
def indexL (E : List Ct) : List UInt8 := sealL (numL (pagesL E).length ++ numL E.length ++ (pagesL E).flatMap spanL)
def tailL (E : List Ct) : List UInt8 := sealL (le4 (indexL E).length)
/-- A run's bytes. -/
def runL (E : List Ct) : List UInt8 := (pagesL E).flatMap pageL ++ indexL E ++ tailL E
theorem pgRest_flat : ∀ (r P : List Ct), (pgRest P r).flatten = P ++ r
  | [], P => by
    unfold pgRest
    by_cases h : P = []
    · rw [if_pos h, h]; rfl
    · rw [if_neg h]; simp
  | c :: r, P => by
    unfold pgRest
    split
    · rw [List.flatten_cons, pgRest_flat r [c]]; simp
    · rw [pgRest_flat r (P ++ [c])]; simp
theorem pagesL_flat (E : List Ct) : (pagesL E).flatten = E := by unfold pagesL; rw [pgRest_flat]; rfl
theorem pgRest_ne : ∀ (r P : List Ct), ∀ Q ∈ pgRest P r, Q ≠ []
  | [], P => by
    unfold pgRest
    intro Q hQ
    by_cases h : P = []
    · rw [if_pos h] at hQ; cases hQ
    · rw [if_neg h, List.mem_singleton] at hQ; rw [hQ]; exact h
  | c :: r, P => by
    unfold pgRest
    intro Q hQ
    split at hQ
    · rename_i h
      rcases List.mem_cons.1 hQ with rfl | hQ
      · exact h.1
      · exact pgRest_ne r [c] Q hQ
    · exact pgRest_ne r (P ++ [c]) Q hQ
theorem pgRest_len : ∀ (r P : List Ct), (pgRest P r).length ≤ P.length + r.length
  | [], P => by
    unfold pgRest
    by_cases h : P = []
    · rw [if_pos h]; simp
    · rw [if_neg h]; have := List.length_pos_iff.2 h; simp; omega
  | c :: r, P => by
    unfold pgRest
    split
    · rename_i h
      have := pgRest_len r [c]
      have := List.length_pos_iff.2 h.1
      simp at *; omega
    · have := pgRest_len r (P ++ [c])
      simp at *; omega
end
end Go.Proofs.YtdjhfcopnhcljaaGreatDoor
