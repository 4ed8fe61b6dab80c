/-
  Walk of the law LexLong.
-/
import Derived.Test.YtiokdlomfmkkoaaDoorLxWl
import Derived.Laws.IdiomStrings
import Derived.Lib.BufferRead
namespace Go.Proofs.YtiokdlomfmkkoaaDoor
open Go Go.RowKit

theorem skC_32 : ∀ n : Nat, skC false (List.replicate n 32) = n
  | 0 => rfl
  | n + 1 => by
    rw [List.replicate_succ]
    unfold skC
    rw [if_neg (by decide), if_neg (by decide), if_pos (by decide), skC_32 n]
theorem words_32 (n : Nat) : wordsL (List.replicate n 32) = ([], 0, if n ≤ 65536 then 0 else 2) := by
  by_cases h : n ≤ 65536
  · have e : lexS valL (List.replicate n 32) 0 = ([], none) := lexS_end (by rw [skC_32, List.drop_eq_nil_iff, List.length_replicate]; exact Nat.le_refl _) 0
    rw [if_pos h]
    unfold wordsL
    rw [if_neg (by rw [List.length_replicate]; omega), e]
  · rw [if_neg h]
    unfold wordsL
    rw [if_pos (by rw [List.length_replicate]; omega)]
/-- A block of N bytes, the first k of them blanks. -/
def Row32 (g N k : Nat) (w : World) : Prop := ∃ cs : Array Value, w.heap[g]? = some (.cells cs 5 (0, 0)) ∧ cs.size = N ∧ ∀ i, i < k → cs[i]? = some (.int .u8 32)
theorem Row32.step {g N k : Nat} {w : World} (h : Row32 g N k w) (hk : k < N) : Row32 g N (k + 1) (w.setCell ⟨g, k, none⟩ (.int .u8 32)) := by
  obtain ⟨cs, h1, h2, h3⟩ := h
  refine ⟨cs.setIfInBounds k (.int .u8 32), by rw [Go.heap_setCell_same _ _ _ _ _ _ h1], by simpa using h2, fun i hi => ?_⟩
  by_cases e : i = k
  · subst e
    simp [h2, hk]
  · rw [Array.getElem?_setIfInBounds_ne (Ne.symm e)]
    exact h3 i (by omega)
set_option maxHeartbeats 2000000 in
set_option maxRecDepth 100000 in
theorem lexLong_walk (n : Nat) (w : World) (hn : n ≤ 255) (G : Glob w) :
    Calls Tryd.prog 4 #[.int .u8 (n : Nat)] w fun e w' => e = .returned (.bool true) ∧ Below w.heap.size w w' := by
  have HG := Lib.hid G
  obtain ⟨i0, hi, hz0, hz1, hz2⟩ := info_parts Tryd.infoByte
  have HI := Lib.hid hi
  have HZ0 := Lib.hid hz0
  have HZ1 := Lib.hid hz1
  have HZ2 := Lib.hid hz2
  have q1 : (0 : Int) ≤ (n : Int) := by omega
  have q2 : (n : Int) ≤ 255 := by omega
  obtain ⟨N, hN⟩ : ∃ N, N = 65436 + n := ⟨_, rfl⟩
  have hNi : (65436 : Int) + (n : Int) = (N : Int) := by omega
  have hN1 : N ≤ 65691 := by omega
  have hN2 : 1 ≤ N := by omega
  have HWd := Lib.hid (words_32 N)
  clear G hi hz0 hz1 hz2 hN
  go_enter Tryd.func4, Tryd.ntmps4
  go_wp2_with fail
  refine (awake_true w HG.out).mono ?_
  rintro e w1 ⟨rfl, hb1⟩
  have HB1 := Lib.hid hb1
  clear hb1
  go_wp2_with (at_make; refine wpList_make_full w1 rfl _ _ 30 rfl w1.heap.size 5 i0 (.int .u8 0) 1 Tryd.underlying30 HI.out HZ0.out HZ1.out .i64 .i64 (N : Int) (N : Int) N rfl rfl rfl rfl (by rw [HZ2.out]; omega) (by unfold maxLen; omega) (Nat.le_refl _) ?_; intro w2 ho2 hb2)
  have hR0 : Row32 w1.heap.size N 0 w2 := by
    rcases ho2.2 with ⟨e, -⟩ | ⟨g, cap, cur, e, -, hg, -, -, hcs, -⟩
    · cases e
    · cases e
      exact ⟨cur, hg, by omega, fun i h => by omega⟩
  have HR0 := Lib.hid hR0
  have HB2 := Lib.hid (HB1.out.grown hb2 HB1.out.size (fun k e => by cases e))
  have hgw := HB1.out.size
  obtain ⟨g, hg⟩ : ∃ g, g = w1.heap.size := ⟨_, rfl⟩
  rw [← hg] at HR0 hgw ⊢
  clear hR0 ho2 hb2 hg
  go_loopw [4] (fun i wr => ∃ k : Nat, k ≤ N ∧ i = .int .i64 k ∧ Hid (Row32 g N k wr) ∧ Hid (Below w.heap.size w wr)) (fun i _ => N - (intOf i).toNat)
  case atStart => exact ⟨0, Nat.zero_le _, rfl, HR0, HB2⟩
  case round =>
    obtain ⟨k, hk, rfl, HR, HB⟩ := hrel
    by_cases hlt : k < N
    · have hlt' : (k : Int) < (N : Int) := by omega
      obtain ⟨cs, h1, h2, h3⟩ := HR.out
      have hck : cs[k]? = some (cs[k]'(by omega)) := Array.getElem?_eq_getElem (by omega)
      have c0 : wr.cell? ⟨g, k, none⟩ = some (cs[k]'(by omega)) := by rw [cell_of_row wr g k _ _ (0, 0) h1, hck]
      have f0 := frozen_of_row wr g k _ _ h1
      clear h3 hck
      go_wp2_with fail
      go_roundw
      case rel => exact ⟨k + 1, by omega, by go_num, Lib.hid (HR.out.step hlt), Lib.hid (HB.out.setCell (by simpa using hgw) _)⟩
      case measure => simp [intOf]; omega
    · obtain rfl : k = N := by omega
      have hcv := run_convert_bytes_back (P := Tryd.prog) wr 30 9 5 ⟨g, 0, none⟩ k (List.replicate k 32) Tryd.underlying30 Tryd.underlying5 Tryd.underlying9 (fun j hj => by
        obtain ⟨cs, h1, h2, h3⟩ := HR.out
        rw [List.length_replicate] at hj
        rw [addr_add, Nat.zero_add, cell_of_row wr g j _ _ (0, 0) h1, h3 j hj]
        simp)
      rw [List.length_replicate] at hcv
      have HW := Lib.hid (words_any ⟨(List.replicate k 32).toArray⟩ wr (by rw [Lib.size_eq]; simp; omega) (HG.out.below HB.out))
      rw [show (⟨(List.replicate k 32).toArray⟩ : ByteArray).data.toList = List.replicate k 32 by simp, HWd.out] at HW
      obtain ⟨S, hS⟩ : ∃ S : ByteArray, S = ⟨(List.replicate k 32).toArray⟩ := ⟨_, rfl⟩
      rw [← hS] at hcv HW
      clear hS HWd
      by_cases hz : k ≤ 65536
      · rw [if_pos hz] at HW
        have hz1 : (k : Int) ≤ 65536 := by omega
        go_wp2_with (go_at_call 10; refine HW.out.mono ?_; rintro e w3 ⟨⟨v3, rfl, ho⟩, hb⟩; have HB3 := Lib.hid hb; obtain ⟨p3, c3, e3, -⟩ := ho.in_ (fun _ => True) (fun _ _ => trivial); subst e3; clear ho hb)
        go_ret
        exact ⟨by simp, HB.out.trans (HB3.out.mono HB.out.size)⟩
      · rw [if_neg hz] at HW
        have hz1 : ¬ (k : Int) ≤ 65536 := by omega
        have hz2 : (65536 : Int) < (k : Int) := by omega
        go_wp2_with (go_at_call 10; refine HW.out.mono ?_; rintro e w3 ⟨⟨v3, rfl, ho⟩, hb⟩; have HB3 := Lib.hid hb; obtain ⟨p3, c3, e3, -⟩ := ho.in_ (fun _ => True) (fun _ _ => trivial); subst e3; clear ho hb)
        go_ret
        exact ⟨by simp; omega, HB.out.trans (HB3.out.mono HB.out.size)⟩
end Go.Proofs.YtiokdlomfmkkoaaDoor
