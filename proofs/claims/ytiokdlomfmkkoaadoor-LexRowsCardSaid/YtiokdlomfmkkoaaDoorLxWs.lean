/-
  Contracts of lex.Where and the document's Where, of lex.Same and the document's Same at any tokens.
-/
import Derived.Test.YtiokdlomfmkkoaaDoorLxWr
import Derived.Laws.StructEq
namespace Go.Proofs.YtiokdlomfmkkoaaDoor
open Go Go.RowKit

theorem data_bang (s : ByteArray) (i : Nat) (h : i < s.size) : s.data[i]! = s[i] := by
  rw [getElem!_pos s.data i h]
  rfl
theorem lastIdx_cut (s : ByteArray) (c : Int) (p : Nat) (hp : p ≤ s.size) : ∀ k, k ≤ p → Lib.lastIdx (s.extract 0 p) c k = Lib.lastIdx s c k
  | 0, _ => rfl
  | k + 1, h => by
    have e : (s.extract 0 p).data[k]! = s.data[k]! := by
      rw [data_bang _ k (by rw [ByteArray.size_extract]; omega), data_bang _ k (by omega)]
      rw [ByteArray.getElem_extract]
      simp
    unfold Lib.lastIdx
    rw [e, lastIdx_cut s c p hp k (by omega)]
theorem lastIdx_le (s : ByteArray) (c : Int) : ∀ k : Nat, -1 ≤ Lib.lastIdx s c k ∧ Lib.lastIdx s c k < (k : Int)
  | 0 => by unfold Lib.lastIdx; omega
  | k + 1 => by
    have := lastIdx_le s c k
    unfold Lib.lastIdx
    split <;> omega
/-- The line of a place, and which byte of it. -/
def lineN (s : ByteArray) (p : Nat) : Int := 1 + ((s.data.toList.take p).count 10 : Nat)
def colN (s : ByteArray) (p : Nat) : Int := p - Lib.lastIdx s 10 p
theorem count_step (s : ByteArray) (k : Nat) (h : k < s.size) : (s.data.toList.take (k + 1)).count 10 = (s.data.toList.take k).count 10 + (if s[k] = 10 then 1 else 0) := by
  rw [take_snoc s k h, List.count_append]
  by_cases e : s[k] = 10
  · rw [if_pos e, e]
    rfl
  · rw [if_neg e]
    simp [e]
theorem idx_step (s : ByteArray) (k : Nat) (h : k < s.size) : Lib.lastIdx s 10 (k + 1) = if ((s[k].toNat : Int) == 10) = true then (k : Int) else Lib.lastIdx s 10 k := by
  conv => lhs; unfold Lib.lastIdx
  rw [data_bang s k h]
  simp only [beq_iff_eq]
set_option maxHeartbeats 1000000 in
set_option maxRecDepth 100000 in
theorem where_in (s : ByteArray) (p : Nat) (w : World) (hm : s.size ≤ 3000) (hp : p ≤ s.size) :
    Calls Tryd.prog 14 #[.string s, .int .i64 (p : Nat)] w fun e w' => e = .returned (.tuple #[.int .i64 (lineN s p), .int .i64 (colN s p), .int .i64 0]) ∧ w' = w := by
  have hlt : ¬ (p : Int) < 0 := by omega
  have hle : (p : Int) ≤ (s.size : Int) := by omega
  have hle2 : ¬ (s.size : Int) < (p : Int) := by omega
  obtain ⟨B, hB⟩ : ∃ B, s.extract 0 p = B := ⟨_, rfl⟩
  have hBs : B.size = p := by rw [← hB, ByteArray.size_extract]; omega
  have hBd : B.data.toList = s.data.toList.take p := by
    have h0 := cut_list s 0 p
    rw [Nat.zero_add, List.drop_zero] at h0
    rw [← hB, h0]
  have h1 := Tryd.strings_Count_one B 10 w
  have h2 := Tryd.strings_LastIndexByte B 10 (by omega) w
  unfold Lib.countByte at h1
  unfold Lib.lastIndexByte at h2
  rw [hBs, ← hB, lastIdx_cut s 10 p hp p (Nat.le_refl _)] at h2
  rw [hB] at h2
  rw [hBd] at h1
  have hl := lastIdx_le s 10 p
  have HL : Hid (lineN s p = 1 + ((s.data.toList.take p).count 10 : Nat) ∧ colN s p = p - Lib.lastIdx s 10 p) := Lib.hid ⟨rfl, rfl⟩
  have hc9 : (s.data.toList.take p).count 10 ≤ 3000 := by have := List.count_le_length (a := (10 : UInt8)) (l := s.data.toList.take p); rw [List.length_take, ← Lib.size_eq] at this; omega
  obtain ⟨c, hc⟩ : ∃ c, c = (s.data.toList.take p).count 10 := ⟨_, rfl⟩
  obtain ⟨j, hj⟩ : ∃ j, j = Lib.lastIdx s 10 p := ⟨_, rfl⟩
  rw [← hc] at h1 HL hc9
  rw [← hj] at h2 HL hl
  obtain ⟨X, hX⟩ : ∃ X, X = lineN s p := ⟨_, rfl⟩
  obtain ⟨Y, hY⟩ : ∃ Y, Y = colN s p := ⟨_, rfl⟩
  rw [← hX, ← hY] at HL ⊢
  have H1 := Lib.hid h1
  have H2 := Lib.hid h2
  have hw1 : wrap64 (1 + (c : Int)) = 1 + (c : Int) := IntWalk.wrap64_in _ (by omega)
  have hw2 : wrap64 ((p : Int) - j) = (p : Int) - j := IntWalk.wrap64_in _ (by omega)
  clear h1 h2 hc hj hX hY hBd hBs
  go_enter Tryd.func14, Tryd.ntmps14
  go_wp2_with (first
    | (go_at_call 25; refine H1.out.mono ?_; rintro e w1 ⟨rfl, rfl⟩)
    | (go_at_call 26; refine H2.out.mono ?_; rintro e w1 ⟨rfl, rfl⟩))
  refine bodyPost_ret (v := .tuple #[.int .i64 (1 + (c : Int)), .int .i64 ((p : Int) - j), .int .i64 0]) (by simp [results, Tryd.results14, go_sem]) rfl ⟨by rw [HL.out.1, HL.out.2], rfl⟩
set_option maxHeartbeats 1000000 in
set_option maxRecDepth 100000 in
theorem rwhere_in (s : ByteArray) (p : Nat) (w : World) (hm : s.size ≤ 3000) (hp : p ≤ s.size) :
    Calls Tryd.prog 15 #[.string s, .int .i64 (p : Nat)] w fun e w' => e = .returned (.tuple #[.int .i64 (lineN s p), .int .i64 (colN s p), .int .i64 0]) ∧ w' = w := by
  have hlt : ¬ (p : Int) < 0 := by omega
  have hle : (p : Int) ≤ (s.size : Int) := by omega
  have hle2 : ¬ (s.size : Int) < (p : Int) := by omega
  obtain ⟨X, hX⟩ : ∃ X, X = lineN s p := ⟨_, rfl⟩
  obtain ⟨Y, hY⟩ : ∃ Y, Y = colN s p := ⟨_, rfl⟩
  rw [← hX, ← hY]
  have HX := Lib.hid hX
  have HY := Lib.hid hY
  clear hX hY
  go_enter Tryd.func15, Tryd.ntmps15
  go_wp2_with fail
  go_loop [7, 8, 9] (fun a b i => ∃ k c : Nat, ∃ f : Nat, k ≤ p ∧ i = .int .i64 k ∧ a = .int .i64 ((1 + c : Nat) : Int) ∧ b = .int .i64 f ∧ f ≤ k ∧ c ≤ k ∧ Hid (c = (s.data.toList.take k).count 10) ∧ Hid ((f : Int) = Lib.lastIdx s 10 k + 1)) (fun _ _ i => p - (intOf i).toNat)
  case atStart => exact ⟨0, 0, 0, Nat.zero_le _, rfl, rfl, rfl, Nat.le_refl _, Nat.le_refl _, Lib.hid rfl, Lib.hid rfl⟩
  case round =>
    obtain ⟨k, c, f, hk, rfl, rfl, rfl, hf, hc, HC, HF⟩ := hrel
    by_cases hkp : k < p
    · have hkp' : (k : Int) < (p : Int) := by omega
      have hks : k < s.size := by omega
      have hks' : (k : Int) < (s.size : Int) := by omega
      have H3 := Lib.hid (count_step s k hks)
      have H4 := Lib.hid (idx_step s k hks)
      cases h10 : ((s[k].toNat : Int) == 10) with
      | true =>
        have HQ : Hid (c + 1 = (s.data.toList.take (k + 1)).count 10) := Lib.hid (by rw [H3.out, if_pos (u8_is (d := 10) rfl h10), HC.out])
        have HR : Hid (((k + 1 : Nat) : Int) = Lib.lastIdx s 10 (k + 1) + 1) := Lib.hid (by rw [H4.out, if_pos h10]; omega)
        go_wp2_with fail
        go_round
        case rel => exact ⟨k + 1, c + 1, k + 1, by omega, by go_num, by go_num, by go_num, by omega, by omega, HQ, HR⟩
        case measure => simp [intOf]; omega
      | false =>
        have HQ : Hid (c = (s.data.toList.take (k + 1)).count 10) := Lib.hid (by rw [H3.out, if_neg (u8_no (d := 10) rfl h10), HC.out]; rfl)
        have HR : Hid ((f : Int) = Lib.lastIdx s 10 (k + 1) + 1) := Lib.hid (by rw [H4.out, if_neg (by rw [h10]; decide), HF.out])
        go_wp2_with fail
        go_round
        case rel => exact ⟨k + 1, c, f, by omega, by go_num, rfl, rfl, by omega, by omega, HQ, HR⟩
        case measure => simp [intOf]; omega
    · obtain rfl : k = p := by omega
      have hge : ¬ (k : Int) < (k : Int) := by omega
      have HQ : Hid (X = ((1 + c : Nat) : Int) ∧ Y = (k : Int) - f + 1) := Lib.hid ⟨by rw [HX.out, HC.out]; unfold lineN; omega, by rw [HY.out]; unfold colN; have := HF.out; omega⟩
      have hw1 : wrap64 ((k : Int) - (f : Int)) = (k : Int) - (f : Int) := IntWalk.wrap64_in _ (by omega)
      have hw2 : wrap64 ((k : Int) - (f : Int) + 1) = (k : Int) - (f : Int) + 1 := IntWalk.wrap64_in _ (by omega)
      go_wp2_with fail
      refine bodyPost_ret (v := .tuple #[.int .i64 (1 + (c : Int)), .int .i64 ((k : Int) - f + 1), .int .i64 0]) (by simp [results, Tryd.results15, go_sem]) rfl ⟨by rw [HQ.out.1, HQ.out.2]; simp, rfl⟩
def noWhere (s : ByteArray) (x : Int) : Prop := x < 0 ∨ (s.size : Int) < x
set_option maxHeartbeats 1000000 in
set_option maxRecDepth 100000 in
theorem where_no (s : ByteArray) (x : Int) (w : World) (h : noWhere s x) :
    Calls Tryd.prog 14 #[.string s, .int .i64 x] w fun e w' => e = .returned (.tuple #[.int .i64 0, .int .i64 0, .int .i64 5]) ∧ w' = w := by
  rcases h with h | h
  · go_enter Tryd.func14, Tryd.ntmps14
    go_wp2_with fail
    refine bodyPost_ret (v := .tuple #[.int .i64 0, .int .i64 0, .int .i64 5]) (by simp [results, Tryd.results14, go_sem]) rfl ⟨rfl, rfl⟩
  · have h2 : ¬ x < 0 := by omega
    go_enter Tryd.func14, Tryd.ntmps14
    go_wp2_with fail
    refine bodyPost_ret (v := .tuple #[.int .i64 0, .int .i64 0, .int .i64 5]) (by simp [results, Tryd.results14, go_sem]) rfl ⟨rfl, rfl⟩
set_option maxHeartbeats 1000000 in
set_option maxRecDepth 100000 in
theorem rwhere_no (s : ByteArray) (x : Int) (w : World) (h : noWhere s x) :
    Calls Tryd.prog 15 #[.string s, .int .i64 x] w fun e w' => e = .returned (.tuple #[.int .i64 0, .int .i64 0, .int .i64 5]) ∧ w' = w := by
  rcases h with h | h
  · go_enter Tryd.func15, Tryd.ntmps15
    go_wp2_with fail
    refine bodyPost_ret (v := .tuple #[.int .i64 0, .int .i64 0, .int .i64 5]) (by simp [results, Tryd.results15, go_sem]) rfl ⟨rfl, rfl⟩
  · have h2 : ¬ x < 0 := by omega
    go_enter Tryd.func15, Tryd.ntmps15
    go_wp2_with fail
    refine bodyPost_ret (v := .tuple #[.int .i64 0, .int .i64 0, .int .i64 5]) (by simp [results, Tryd.results15, go_sem]) rfl ⟨rfl, rfl⟩

/-! Same -/
def sameK (x y : Wz) : Bool := x.kind == y.kind && x.text == y.text && x.val.1 == y.val.1 && x.val.2.1 == y.val.2.1 && x.val.2.2.toList == y.val.2.2.toList
theorem sameK_self (x : Wz) : sameK x x = true := by
  unfold sameK
  simp
set_option maxHeartbeats 2000000 in
set_option maxRecDepth 100000 in
theorem same_any (x y : Wz) (w : World) :
    Calls Tryd.prog 18 #[wzV x, wzV y] w fun e w' => e = .returned (.bool (sameK x y)) ∧ Below w.heap.size w w' := by
  obtain ⟨k, T, ⟨a, b, c⟩, p⟩ := x
  obtain ⟨k', T', ⟨a', b', c'⟩, p'⟩ := y
  unfold wzV sameK
  simp only
  go_enter Tryd.func18, Tryd.ntmps18
  go_wp2_with fail
  all_goals (go_ret; exact ⟨ret_bool (by simp_all), below_2 _ _ _⟩)
set_option maxHeartbeats 2000000 in
set_option maxRecDepth 100000 in
theorem rsamez_any (x y : Wz) (w : World) :
    Calls Tryd.prog 19 #[wzV x, wzV y] w fun e w' => e = .returned (.bool (sameK x y)) ∧ Below w.heap.size w w' := by
  obtain ⟨k, T, ⟨a, b, c⟩, p⟩ := x
  obtain ⟨k', T', ⟨a', b', c'⟩, p'⟩ := y
  unfold wzV sameK
  simp only
  cases h1 : (k == k') <;> cases h2 : (T == T')
  all_goals
    have h2' : ((⟨T.toArray⟩ : ByteArray).toList == (⟨T'.toArray⟩ : ByteArray).toList) = (T == T') := by rw [Lib.toList_data, Lib.toList_data]
    rw [h2] at h2'
    go_enter Tryd.func19, Tryd.ntmps19
    go_wp2_with fail
  all_goals (go_ret; exact ⟨ret_bool (by simp_all), below_2 _ _ _⟩)
end Go.Proofs.YtiokdlomfmkkoaaDoor
