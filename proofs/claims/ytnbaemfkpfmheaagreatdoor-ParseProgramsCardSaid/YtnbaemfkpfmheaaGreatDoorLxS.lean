/-
  Contracts of the document's mark, value and word.
-/
import Derived.Test.YtnbaemfkpfmheaaGreatDoorLxR
import Derived.BigQuiet
import Derived.Deep.RegionHeld3
namespace Go.Proofs.YtnbaemfkpfmheaaGreatDoor
open Go Go.RowKit

/-- How many bytes a mark has, or 0. -/
def markN (c : UInt8) (r : List UInt8) : Nat :=
  if (c = 58 ∧ r.head? = some 45) ∨ ((c = 60 ∨ c = 62 ∨ c = 33) ∧ r.head? = some 61) then 2
  else if c = 40 ∨ c = 41 ∨ c = 44 ∨ c = 46 ∨ c = 43 ∨ c = 45 ∨ c = 61 ∨ c = 58 ∨ c = 60 ∨ c = 62 then 1 else 0
/-- The shape of what is no name, no int and no symbol. -/
theorem shape_markR {c : UInt8} {r : List UInt8} (h0 : cls c = 0) (h1 : c ≠ 34) (h2 : c = 45 → (r.takeWhile isDig).length = 0) : shapeL c r = ((if markN c r = 0 then 0 else 6), markN c r) := by
  rw [shapeL_other (by omega) (by omega) (by omega) (by omega)]
  unfold shapeO markN
  rw [if_neg h1]
  by_cases a1 : c = 33
  · subst a1
    by_cases b : r.head? = some 61 <;> simp [b]
  · by_cases a2 : c = 45
    · subst a2
      simp [h2 rfl]
    · by_cases a3 : c = 58
      · subst a3
        by_cases b : r.head? = some 45 <;> simp [b]
      · by_cases a4 : c = 60
        · subst a4
          by_cases b : r.head? = some 61 <;> simp [b]
        · by_cases a5 : c = 62
          · subst a5
            by_cases b : r.head? = some 61 <;> simp [b]
          · by_cases a6 : c = 40 ∨ c = 41 ∨ c = 44 ∨ c = 46 ∨ c = 43 ∨ c = 61
            · rcases a6 with h | h | h | h | h | h <;> subst h <;> simp
            · have : ¬ (c = 40 ∨ c = 41 ∨ c = 44 ∨ c = 46 ∨ c = 43 ∨ c = 45 ∨ c = 61 ∨ c = 58 ∨ c = 60 ∨ c = 62) := by
                rintro (h | h | h | h | h | h | h | h | h | h)
                · exact a6 (.inl h)
                · exact a6 (.inr (.inl h))
                · exact a6 (.inr (.inr (.inl h)))
                · exact a6 (.inr (.inr (.inr (.inl h))))
                · exact a6 (.inr (.inr (.inr (.inr (.inl h)))))
                · exact a2 h
                · exact a6 (.inr (.inr (.inr (.inr (.inr h)))))
                · exact a3 h
                · exact a4 h
                · exact a5 h
              simp [a1, a2, a3, a4, a5, a6]
theorem markN_58y (r : List UInt8) (h : r.head? = some 45) : markN 58 r = 2 := by
  unfold markN
  simp [h]
theorem markN_58n (r : List UInt8) (h : ¬ r.head? = some 45) : markN 58 r = 1 := by
  unfold markN
  simp [h]
theorem markN_60y (r : List UInt8) (h : r.head? = some 61) : markN 60 r = 2 := by
  unfold markN
  simp [h]
theorem markN_60n (r : List UInt8) (h : ¬ r.head? = some 61) : markN 60 r = 1 := by
  unfold markN
  simp [h]
theorem markN_62y (r : List UInt8) (h : r.head? = some 61) : markN 62 r = 2 := by
  unfold markN
  simp [h]
theorem markN_62n (r : List UInt8) (h : ¬ r.head? = some 61) : markN 62 r = 1 := by
  unfold markN
  simp [h]
theorem markN_33y (r : List UInt8) (h : r.head? = some 61) : markN 33 r = 2 := by
  unfold markN
  simp [h]
theorem markN_33n (r : List UInt8) (h : ¬ r.head? = some 61) : markN 33 r = 0 := by
  unfold markN
  simp [h]
/-- Two bytes of a text, or none. -/
theorem mtwo_is (s : ByteArray) (p : Nat) (hp : p < s.size) (T : ByteArray) (hT : T = if s.size - p < 2 then ⟨#[]⟩ else s.extract p (p + 2)) (a b : UInt8) :
    (T.toList == [a, b]) = (decide (s[p] = a) && decide ((s.data.toList.drop (p + 1)).head? = some b)) := by
  subst hT
  by_cases h : s.size - p < 2
  · rw [if_pos h, lx_end s (p + 1) (by omega), emp_toList]
    simp
  · rw [if_neg h]
    have e : (s.extract p (p + 2)).toList = (s.data.toList.drop p).take 2 := by
      rw [Lib.toList_data, cut_list]
    have hd := lx_at s (p + 1) (by omega)
    rw [e, lx_at s p hp, hd]
    simp only [List.take_succ_cons, List.take_zero, List.head?_cons, Option.some.injEq]
    by_cases ha : s[p] = a <;> by_cases hb : s[p + 1] = b <;> simp [ha, hb]

set_option maxHeartbeats 4000000 in
set_option maxRecDepth 100000 in
theorem mark40L (s : ByteArray) (p : Nat) (w : World) (hm : s.size ≤ 1000000) (hp : p < s.size) (hl : ¬ s.size - p < 2) (hc : s[p] = 40) :
    Calls Tryz.prog 104 #[.string s, .int .i64 p] w fun e w' => e = .returned (.int .i64 ((markN s[p] (s.data.toList.drop (p + 1)) : Nat) : Int)) ∧ w = w' := by
  obtain ⟨N, hN⟩ : ∃ N, N = markN s[p] (s.data.toList.drop (p + 1)) := ⟨_, rfl⟩
  rw [← hN]
  have hlt' : (p : Int) < (s.size : Int) := by omega
  have hw1 : wrap64 ((s.size : Int) - (p : Int)) = (s.size : Int) - (p : Int) := IntWalk.wrap64_in _ (by omega)
  have hge : (2 : Int) ≤ (s.size : Int) - (p : Int) := by omega
  have hle2 : (p : Int) + 2 ≤ (s.size : Int) := by omega
  obtain ⟨T, hT⟩ : ∃ T, s.extract p (p + 2) = T := ⟨_, rfl⟩
  have HT := Lib.hid (mtwo_is s p hp T (by rw [if_neg hl, hT]))
  have hE58 : (T.toList == [58, 45]) = false := (HT.out 58 45).trans (by rw [hc]; rfl)
  have hE60 : (T.toList == [60, 61]) = false := (HT.out 60 61).trans (by rw [hc]; rfl)
  have hE62 : (T.toList == [62, 61]) = false := (HT.out 62 61).trans (by rw [hc]; rfl)
  have hE33 : (T.toList == [33, 61]) = false := (HT.out 33 61).trans (by rw [hc]; rfl)
  have HE : Hid (N = 1) := Lib.hid (by rw [hN, hc]; unfold markN; simp)
  have hb40 : ((s[p].toNat : Int) == 40) = true := by rw [hc]; rfl
  clear hN hc hl HT
  go_enter Tryz.func104, Tryz.ntmps104
  go_wp2_with fail
  go_ret
  exact ⟨ret_int (by rw [HE.out]; rfl), rfl⟩
set_option maxHeartbeats 4000000 in
set_option maxRecDepth 100000 in
theorem mark40S (s : ByteArray) (p : Nat) (w : World) (hm : s.size ≤ 1000000) (hp : p < s.size) (hl : s.size - p < 2) (hc : s[p] = 40) :
    Calls Tryz.prog 104 #[.string s, .int .i64 p] w fun e w' => e = .returned (.int .i64 ((markN s[p] (s.data.toList.drop (p + 1)) : Nat) : Int)) ∧ w = w' := by
  obtain ⟨N, hN⟩ : ∃ N, N = markN s[p] (s.data.toList.drop (p + 1)) := ⟨_, rfl⟩
  rw [← hN]
  have hlt' : (p : Int) < (s.size : Int) := by omega
  have hw1 : wrap64 ((s.size : Int) - (p : Int)) = (s.size : Int) - (p : Int) := IntWalk.wrap64_in _ (by omega)
  have hge : ¬ (2 : Int) ≤ (s.size : Int) - (p : Int) := by omega
  have hge2 : (s.size : Int) - (p : Int) < 2 := by omega
  obtain ⟨T, hT⟩ : ∃ T : ByteArray, T = ⟨#[]⟩ := ⟨_, rfl⟩
  have HT := Lib.hid (mtwo_is s p hp T (by rw [if_pos hl, hT]))
  have hE58 : (T.toList == [58, 45]) = false := (HT.out 58 45).trans (by rw [hc]; rfl)
  have hE60 : (T.toList == [60, 61]) = false := (HT.out 60 61).trans (by rw [hc]; rfl)
  have hE62 : (T.toList == [62, 61]) = false := (HT.out 62 61).trans (by rw [hc]; rfl)
  have hE33 : (T.toList == [33, 61]) = false := (HT.out 33 61).trans (by rw [hc]; rfl)
  have HE : Hid (N = 1) := Lib.hid (by rw [hN, hc]; unfold markN; simp)
  have hb40 : ((s[p].toNat : Int) == 40) = true := by rw [hc]; rfl
  subst hT
  clear hN hc hl HT hE58 hE60 hE62 hE33
  go_enter Tryz.func104, Tryz.ntmps104
  go_wp2_with fail
  go_ret
  exact ⟨ret_int (by rw [HE.out]; rfl), rfl⟩
set_option maxHeartbeats 4000000 in
set_option maxRecDepth 100000 in
theorem mark41L (s : ByteArray) (p : Nat) (w : World) (hm : s.size ≤ 1000000) (hp : p < s.size) (hl : ¬ s.size - p < 2) (hc : s[p] = 41) :
    Calls Tryz.prog 104 #[.string s, .int .i64 p] w fun e w' => e = .returned (.int .i64 ((markN s[p] (s.data.toList.drop (p + 1)) : Nat) : Int)) ∧ w = w' := by
  obtain ⟨N, hN⟩ : ∃ N, N = markN s[p] (s.data.toList.drop (p + 1)) := ⟨_, rfl⟩
  rw [← hN]
  have hlt' : (p : Int) < (s.size : Int) := by omega
  have hw1 : wrap64 ((s.size : Int) - (p : Int)) = (s.size : Int) - (p : Int) := IntWalk.wrap64_in _ (by omega)
  have hge : (2 : Int) ≤ (s.size : Int) - (p : Int) := by omega
  have hle2 : (p : Int) + 2 ≤ (s.size : Int) := by omega
  obtain ⟨T, hT⟩ : ∃ T, s.extract p (p + 2) = T := ⟨_, rfl⟩
  have HT := Lib.hid (mtwo_is s p hp T (by rw [if_neg hl, hT]))
  have hE58 : (T.toList == [58, 45]) = false := (HT.out 58 45).trans (by rw [hc]; rfl)
  have hE60 : (T.toList == [60, 61]) = false := (HT.out 60 61).trans (by rw [hc]; rfl)
  have hE62 : (T.toList == [62, 61]) = false := (HT.out 62 61).trans (by rw [hc]; rfl)
  have hE33 : (T.toList == [33, 61]) = false := (HT.out 33 61).trans (by rw [hc]; rfl)
  have HE : Hid (N = 1) := Lib.hid (by rw [hN, hc]; unfold markN; simp)
  have hb40 : ((s[p].toNat : Int) == 40) = false := by rw [hc]; rfl
  have hb41 : ((s[p].toNat : Int) == 41) = true := by rw [hc]; rfl
  clear hN hc hl HT
  go_enter Tryz.func104, Tryz.ntmps104
  go_wp2_with fail
  go_ret
  exact ⟨ret_int (by rw [HE.out]; rfl), rfl⟩
set_option maxHeartbeats 4000000 in
set_option maxRecDepth 100000 in
theorem mark41S (s : ByteArray) (p : Nat) (w : World) (hm : s.size ≤ 1000000) (hp : p < s.size) (hl : s.size - p < 2) (hc : s[p] = 41) :
    Calls Tryz.prog 104 #[.string s, .int .i64 p] w fun e w' => e = .returned (.int .i64 ((markN s[p] (s.data.toList.drop (p + 1)) : Nat) : Int)) ∧ w = w' := by
  obtain ⟨N, hN⟩ : ∃ N, N = markN s[p] (s.data.toList.drop (p + 1)) := ⟨_, rfl⟩
  rw [← hN]
  have hlt' : (p : Int) < (s.size : Int) := by omega
  have hw1 : wrap64 ((s.size : Int) - (p : Int)) = (s.size : Int) - (p : Int) := IntWalk.wrap64_in _ (by omega)
  have hge : ¬ (2 : Int) ≤ (s.size : Int) - (p : Int) := by omega
  have hge2 : (s.size : Int) - (p : Int) < 2 := by omega
  obtain ⟨T, hT⟩ : ∃ T : ByteArray, T = ⟨#[]⟩ := ⟨_, rfl⟩
  have HT := Lib.hid (mtwo_is s p hp T (by rw [if_pos hl, hT]))
  have hE58 : (T.toList == [58, 45]) = false := (HT.out 58 45).trans (by rw [hc]; rfl)
  have hE60 : (T.toList == [60, 61]) = false := (HT.out 60 61).trans (by rw [hc]; rfl)
  have hE62 : (T.toList == [62, 61]) = false := (HT.out 62 61).trans (by rw [hc]; rfl)
  have hE33 : (T.toList == [33, 61]) = false := (HT.out 33 61).trans (by rw [hc]; rfl)
  have HE : Hid (N = 1) := Lib.hid (by rw [hN, hc]; unfold markN; simp)
  have hb40 : ((s[p].toNat : Int) == 40) = false := by rw [hc]; rfl
  have hb41 : ((s[p].toNat : Int) == 41) = true := by rw [hc]; rfl
  subst hT
  clear hN hc hl HT hE58 hE60 hE62 hE33
  go_enter Tryz.func104, Tryz.ntmps104
  go_wp2_with fail
  go_ret
  exact ⟨ret_int (by rw [HE.out]; rfl), rfl⟩
set_option maxHeartbeats 4000000 in
set_option maxRecDepth 100000 in
theorem mark44L (s : ByteArray) (p : Nat) (w : World) (hm : s.size ≤ 1000000) (hp : p < s.size) (hl : ¬ s.size - p < 2) (hc : s[p] = 44) :
    Calls Tryz.prog 104 #[.string s, .int .i64 p] w fun e w' => e = .returned (.int .i64 ((markN s[p] (s.data.toList.drop (p + 1)) : Nat) : Int)) ∧ w = w' := by
  obtain ⟨N, hN⟩ : ∃ N, N = markN s[p] (s.data.toList.drop (p + 1)) := ⟨_, rfl⟩
  rw [← hN]
  have hlt' : (p : Int) < (s.size : Int) := by omega
  have hw1 : wrap64 ((s.size : Int) - (p : Int)) = (s.size : Int) - (p : Int) := IntWalk.wrap64_in _ (by omega)
  have hge : (2 : Int) ≤ (s.size : Int) - (p : Int) := by omega
  have hle2 : (p : Int) + 2 ≤ (s.size : Int) := by omega
  obtain ⟨T, hT⟩ : ∃ T, s.extract p (p + 2) = T := ⟨_, rfl⟩
  have HT := Lib.hid (mtwo_is s p hp T (by rw [if_neg hl, hT]))
  have hE58 : (T.toList == [58, 45]) = false := (HT.out 58 45).trans (by rw [hc]; rfl)
  have hE60 : (T.toList == [60, 61]) = false := (HT.out 60 61).trans (by rw [hc]; rfl)
  have hE62 : (T.toList == [62, 61]) = false := (HT.out 62 61).trans (by rw [hc]; rfl)
  have hE33 : (T.toList == [33, 61]) = false := (HT.out 33 61).trans (by rw [hc]; rfl)
  have HE : Hid (N = 1) := Lib.hid (by rw [hN, hc]; unfold markN; simp)
  have hb40 : ((s[p].toNat : Int) == 40) = false := by rw [hc]; rfl
  have hb41 : ((s[p].toNat : Int) == 41) = false := by rw [hc]; rfl
  have hb44 : ((s[p].toNat : Int) == 44) = true := by rw [hc]; rfl
  clear hN hc hl HT
  go_enter Tryz.func104, Tryz.ntmps104
  go_wp2_with fail
  go_ret
  exact ⟨ret_int (by rw [HE.out]; rfl), rfl⟩
set_option maxHeartbeats 4000000 in
set_option maxRecDepth 100000 in
theorem mark44S (s : ByteArray) (p : Nat) (w : World) (hm : s.size ≤ 1000000) (hp : p < s.size) (hl : s.size - p < 2) (hc : s[p] = 44) :
    Calls Tryz.prog 104 #[.string s, .int .i64 p] w fun e w' => e = .returned (.int .i64 ((markN s[p] (s.data.toList.drop (p + 1)) : Nat) : Int)) ∧ w = w' := by
  obtain ⟨N, hN⟩ : ∃ N, N = markN s[p] (s.data.toList.drop (p + 1)) := ⟨_, rfl⟩
  rw [← hN]
  have hlt' : (p : Int) < (s.size : Int) := by omega
  have hw1 : wrap64 ((s.size : Int) - (p : Int)) = (s.size : Int) - (p : Int) := IntWalk.wrap64_in _ (by omega)
  have hge : ¬ (2 : Int) ≤ (s.size : Int) - (p : Int) := by omega
  have hge2 : (s.size : Int) - (p : Int) < 2 := by omega
  obtain ⟨T, hT⟩ : ∃ T : ByteArray, T = ⟨#[]⟩ := ⟨_, rfl⟩
  have HT := Lib.hid (mtwo_is s p hp T (by rw [if_pos hl, hT]))
  have hE58 : (T.toList == [58, 45]) = false := (HT.out 58 45).trans (by rw [hc]; rfl)
  have hE60 : (T.toList == [60, 61]) = false := (HT.out 60 61).trans (by rw [hc]; rfl)
  have hE62 : (T.toList == [62, 61]) = false := (HT.out 62 61).trans (by rw [hc]; rfl)
  have hE33 : (T.toList == [33, 61]) = false := (HT.out 33 61).trans (by rw [hc]; rfl)
  have HE : Hid (N = 1) := Lib.hid (by rw [hN, hc]; unfold markN; simp)
  have hb40 : ((s[p].toNat : Int) == 40) = false := by rw [hc]; rfl
  have hb41 : ((s[p].toNat : Int) == 41) = false := by rw [hc]; rfl
  have hb44 : ((s[p].toNat : Int) == 44) = true := by rw [hc]; rfl
  subst hT
  clear hN hc hl HT hE58 hE60 hE62 hE33
  go_enter Tryz.func104, Tryz.ntmps104
  go_wp2_with fail
  go_ret
  exact ⟨ret_int (by rw [HE.out]; rfl), rfl⟩
set_option maxHeartbeats 4000000 in
set_option maxRecDepth 100000 in
theorem mark46L (s : ByteArray) (p : Nat) (w : World) (hm : s.size ≤ 1000000) (hp : p < s.size) (hl : ¬ s.size - p < 2) (hc : s[p] = 46) :
    Calls Tryz.prog 104 #[.string s, .int .i64 p] w fun e w' => e = .returned (.int .i64 ((markN s[p] (s.data.toList.drop (p + 1)) : Nat) : Int)) ∧ w = w' := by
  obtain ⟨N, hN⟩ : ∃ N, N = markN s[p] (s.data.toList.drop (p + 1)) := ⟨_, rfl⟩
  rw [← hN]
  have hlt' : (p : Int) < (s.size : Int) := by omega
  have hw1 : wrap64 ((s.size : Int) - (p : Int)) = (s.size : Int) - (p : Int) := IntWalk.wrap64_in _ (by omega)
  have hge : (2 : Int) ≤ (s.size : Int) - (p : Int) := by omega
  have hle2 : (p : Int) + 2 ≤ (s.size : Int) := by omega
  obtain ⟨T, hT⟩ : ∃ T, s.extract p (p + 2) = T := ⟨_, rfl⟩
  have HT := Lib.hid (mtwo_is s p hp T (by rw [if_neg hl, hT]))
  have hE58 : (T.toList == [58, 45]) = false := (HT.out 58 45).trans (by rw [hc]; rfl)
  have hE60 : (T.toList == [60, 61]) = false := (HT.out 60 61).trans (by rw [hc]; rfl)
  have hE62 : (T.toList == [62, 61]) = false := (HT.out 62 61).trans (by rw [hc]; rfl)
  have hE33 : (T.toList == [33, 61]) = false := (HT.out 33 61).trans (by rw [hc]; rfl)
  have HE : Hid (N = 1) := Lib.hid (by rw [hN, hc]; unfold markN; simp)
  have hb40 : ((s[p].toNat : Int) == 40) = false := by rw [hc]; rfl
  have hb41 : ((s[p].toNat : Int) == 41) = false := by rw [hc]; rfl
  have hb44 : ((s[p].toNat : Int) == 44) = false := by rw [hc]; rfl
  have hb46 : ((s[p].toNat : Int) == 46) = true := by rw [hc]; rfl
  clear hN hc hl HT
  go_enter Tryz.func104, Tryz.ntmps104
  go_wp2_with fail
  go_ret
  exact ⟨ret_int (by rw [HE.out]; rfl), rfl⟩
set_option maxHeartbeats 4000000 in
set_option maxRecDepth 100000 in
theorem mark46S (s : ByteArray) (p : Nat) (w : World) (hm : s.size ≤ 1000000) (hp : p < s.size) (hl : s.size - p < 2) (hc : s[p] = 46) :
    Calls Tryz.prog 104 #[.string s, .int .i64 p] w fun e w' => e = .returned (.int .i64 ((markN s[p] (s.data.toList.drop (p + 1)) : Nat) : Int)) ∧ w = w' := by
  obtain ⟨N, hN⟩ : ∃ N, N = markN s[p] (s.data.toList.drop (p + 1)) := ⟨_, rfl⟩
  rw [← hN]
  have hlt' : (p : Int) < (s.size : Int) := by omega
  have hw1 : wrap64 ((s.size : Int) - (p : Int)) = (s.size : Int) - (p : Int) := IntWalk.wrap64_in _ (by omega)
  have hge : ¬ (2 : Int) ≤ (s.size : Int) - (p : Int) := by omega
  have hge2 : (s.size : Int) - (p : Int) < 2 := by omega
  obtain ⟨T, hT⟩ : ∃ T : ByteArray, T = ⟨#[]⟩ := ⟨_, rfl⟩
  have HT := Lib.hid (mtwo_is s p hp T (by rw [if_pos hl, hT]))
  have hE58 : (T.toList == [58, 45]) = false := (HT.out 58 45).trans (by rw [hc]; rfl)
  have hE60 : (T.toList == [60, 61]) = false := (HT.out 60 61).trans (by rw [hc]; rfl)
  have hE62 : (T.toList == [62, 61]) = false := (HT.out 62 61).trans (by rw [hc]; rfl)
  have hE33 : (T.toList == [33, 61]) = false := (HT.out 33 61).trans (by rw [hc]; rfl)
  have HE : Hid (N = 1) := Lib.hid (by rw [hN, hc]; unfold markN; simp)
  have hb40 : ((s[p].toNat : Int) == 40) = false := by rw [hc]; rfl
  have hb41 : ((s[p].toNat : Int) == 41) = false := by rw [hc]; rfl
  have hb44 : ((s[p].toNat : Int) == 44) = false := by rw [hc]; rfl
  have hb46 : ((s[p].toNat : Int) == 46) = true := by rw [hc]; rfl
  subst hT
  clear hN hc hl HT hE58 hE60 hE62 hE33
  go_enter Tryz.func104, Tryz.ntmps104
  go_wp2_with fail
  go_ret
  exact ⟨ret_int (by rw [HE.out]; rfl), rfl⟩
set_option maxHeartbeats 4000000 in
set_option maxRecDepth 100000 in
theorem mark43L (s : ByteArray) (p : Nat) (w : World) (hm : s.size ≤ 1000000) (hp : p < s.size) (hl : ¬ s.size - p < 2) (hc : s[p] = 43) :
    Calls Tryz.prog 104 #[.string s, .int .i64 p] w fun e w' => e = .returned (.int .i64 ((markN s[p] (s.data.toList.drop (p + 1)) : Nat) : Int)) ∧ w = w' := by
  obtain ⟨N, hN⟩ : ∃ N, N = markN s[p] (s.data.toList.drop (p + 1)) := ⟨_, rfl⟩
  rw [← hN]
  have hlt' : (p : Int) < (s.size : Int) := by omega
  have hw1 : wrap64 ((s.size : Int) - (p : Int)) = (s.size : Int) - (p : Int) := IntWalk.wrap64_in _ (by omega)
  have hge : (2 : Int) ≤ (s.size : Int) - (p : Int) := by omega
  have hle2 : (p : Int) + 2 ≤ (s.size : Int) := by omega
  obtain ⟨T, hT⟩ : ∃ T, s.extract p (p + 2) = T := ⟨_, rfl⟩
  have HT := Lib.hid (mtwo_is s p hp T (by rw [if_neg hl, hT]))
  have hE58 : (T.toList == [58, 45]) = false := (HT.out 58 45).trans (by rw [hc]; rfl)
  have hE60 : (T.toList == [60, 61]) = false := (HT.out 60 61).trans (by rw [hc]; rfl)
  have hE62 : (T.toList == [62, 61]) = false := (HT.out 62 61).trans (by rw [hc]; rfl)
  have hE33 : (T.toList == [33, 61]) = false := (HT.out 33 61).trans (by rw [hc]; rfl)
  have HE : Hid (N = 1) := Lib.hid (by rw [hN, hc]; unfold markN; simp)
  have hb40 : ((s[p].toNat : Int) == 40) = false := by rw [hc]; rfl
  have hb41 : ((s[p].toNat : Int) == 41) = false := by rw [hc]; rfl
  have hb44 : ((s[p].toNat : Int) == 44) = false := by rw [hc]; rfl
  have hb46 : ((s[p].toNat : Int) == 46) = false := by rw [hc]; rfl
  have hb43 : ((s[p].toNat : Int) == 43) = true := by rw [hc]; rfl
  clear hN hc hl HT
  go_enter Tryz.func104, Tryz.ntmps104
  go_wp2_with fail
  go_ret
  exact ⟨ret_int (by rw [HE.out]; rfl), rfl⟩
set_option maxHeartbeats 4000000 in
set_option maxRecDepth 100000 in
theorem mark43S (s : ByteArray) (p : Nat) (w : World) (hm : s.size ≤ 1000000) (hp : p < s.size) (hl : s.size - p < 2) (hc : s[p] = 43) :
    Calls Tryz.prog 104 #[.string s, .int .i64 p] w fun e w' => e = .returned (.int .i64 ((markN s[p] (s.data.toList.drop (p + 1)) : Nat) : Int)) ∧ w = w' := by
  obtain ⟨N, hN⟩ : ∃ N, N = markN s[p] (s.data.toList.drop (p + 1)) := ⟨_, rfl⟩
  rw [← hN]
  have hlt' : (p : Int) < (s.size : Int) := by omega
  have hw1 : wrap64 ((s.size : Int) - (p : Int)) = (s.size : Int) - (p : Int) := IntWalk.wrap64_in _ (by omega)
  have hge : ¬ (2 : Int) ≤ (s.size : Int) - (p : Int) := by omega
  have hge2 : (s.size : Int) - (p : Int) < 2 := by omega
  obtain ⟨T, hT⟩ : ∃ T : ByteArray, T = ⟨#[]⟩ := ⟨_, rfl⟩
  have HT := Lib.hid (mtwo_is s p hp T (by rw [if_pos hl, hT]))
  have hE58 : (T.toList == [58, 45]) = false := (HT.out 58 45).trans (by rw [hc]; rfl)
  have hE60 : (T.toList == [60, 61]) = false := (HT.out 60 61).trans (by rw [hc]; rfl)
  have hE62 : (T.toList == [62, 61]) = false := (HT.out 62 61).trans (by rw [hc]; rfl)
  have hE33 : (T.toList == [33, 61]) = false := (HT.out 33 61).trans (by rw [hc]; rfl)
  have HE : Hid (N = 1) := Lib.hid (by rw [hN, hc]; unfold markN; simp)
  have hb40 : ((s[p].toNat : Int) == 40) = false := by rw [hc]; rfl
  have hb41 : ((s[p].toNat : Int) == 41) = false := by rw [hc]; rfl
  have hb44 : ((s[p].toNat : Int) == 44) = false := by rw [hc]; rfl
  have hb46 : ((s[p].toNat : Int) == 46) = false := by rw [hc]; rfl
  have hb43 : ((s[p].toNat : Int) == 43) = true := by rw [hc]; rfl
  subst hT
  clear hN hc hl HT hE58 hE60 hE62 hE33
  go_enter Tryz.func104, Tryz.ntmps104
  go_wp2_with fail
  go_ret
  exact ⟨ret_int (by rw [HE.out]; rfl), rfl⟩
set_option maxHeartbeats 4000000 in
set_option maxRecDepth 100000 in
theorem mark45L (s : ByteArray) (p : Nat) (w : World) (hm : s.size ≤ 1000000) (hp : p < s.size) (hl : ¬ s.size - p < 2) (hc : s[p] = 45) :
    Calls Tryz.prog 104 #[.string s, .int .i64 p] w fun e w' => e = .returned (.int .i64 ((markN s[p] (s.data.toList.drop (p + 1)) : Nat) : Int)) ∧ w = w' := by
  obtain ⟨N, hN⟩ : ∃ N, N = markN s[p] (s.data.toList.drop (p + 1)) := ⟨_, rfl⟩
  rw [← hN]
  have hlt' : (p : Int) < (s.size : Int) := by omega
  have hw1 : wrap64 ((s.size : Int) - (p : Int)) = (s.size : Int) - (p : Int) := IntWalk.wrap64_in _ (by omega)
  have hge : (2 : Int) ≤ (s.size : Int) - (p : Int) := by omega
  have hle2 : (p : Int) + 2 ≤ (s.size : Int) := by omega
  obtain ⟨T, hT⟩ : ∃ T, s.extract p (p + 2) = T := ⟨_, rfl⟩
  have HT := Lib.hid (mtwo_is s p hp T (by rw [if_neg hl, hT]))
  have hE58 : (T.toList == [58, 45]) = false := (HT.out 58 45).trans (by rw [hc]; rfl)
  have hE60 : (T.toList == [60, 61]) = false := (HT.out 60 61).trans (by rw [hc]; rfl)
  have hE62 : (T.toList == [62, 61]) = false := (HT.out 62 61).trans (by rw [hc]; rfl)
  have hE33 : (T.toList == [33, 61]) = false := (HT.out 33 61).trans (by rw [hc]; rfl)
  have HE : Hid (N = 1) := Lib.hid (by rw [hN, hc]; unfold markN; simp)
  have hb40 : ((s[p].toNat : Int) == 40) = false := by rw [hc]; rfl
  have hb41 : ((s[p].toNat : Int) == 41) = false := by rw [hc]; rfl
  have hb44 : ((s[p].toNat : Int) == 44) = false := by rw [hc]; rfl
  have hb46 : ((s[p].toNat : Int) == 46) = false := by rw [hc]; rfl
  have hb43 : ((s[p].toNat : Int) == 43) = false := by rw [hc]; rfl
  have hb45 : ((s[p].toNat : Int) == 45) = true := by rw [hc]; rfl
  clear hN hc hl HT
  go_enter Tryz.func104, Tryz.ntmps104
  go_wp2_with fail
  go_ret
  exact ⟨ret_int (by rw [HE.out]; rfl), rfl⟩
set_option maxHeartbeats 4000000 in
set_option maxRecDepth 100000 in
theorem mark45S (s : ByteArray) (p : Nat) (w : World) (hm : s.size ≤ 1000000) (hp : p < s.size) (hl : s.size - p < 2) (hc : s[p] = 45) :
    Calls Tryz.prog 104 #[.string s, .int .i64 p] w fun e w' => e = .returned (.int .i64 ((markN s[p] (s.data.toList.drop (p + 1)) : Nat) : Int)) ∧ w = w' := by
  obtain ⟨N, hN⟩ : ∃ N, N = markN s[p] (s.data.toList.drop (p + 1)) := ⟨_, rfl⟩
  rw [← hN]
  have hlt' : (p : Int) < (s.size : Int) := by omega
  have hw1 : wrap64 ((s.size : Int) - (p : Int)) = (s.size : Int) - (p : Int) := IntWalk.wrap64_in _ (by omega)
  have hge : ¬ (2 : Int) ≤ (s.size : Int) - (p : Int) := by omega
  have hge2 : (s.size : Int) - (p : Int) < 2 := by omega
  obtain ⟨T, hT⟩ : ∃ T : ByteArray, T = ⟨#[]⟩ := ⟨_, rfl⟩
  have HT := Lib.hid (mtwo_is s p hp T (by rw [if_pos hl, hT]))
  have hE58 : (T.toList == [58, 45]) = false := (HT.out 58 45).trans (by rw [hc]; rfl)
  have hE60 : (T.toList == [60, 61]) = false := (HT.out 60 61).trans (by rw [hc]; rfl)
  have hE62 : (T.toList == [62, 61]) = false := (HT.out 62 61).trans (by rw [hc]; rfl)
  have hE33 : (T.toList == [33, 61]) = false := (HT.out 33 61).trans (by rw [hc]; rfl)
  have HE : Hid (N = 1) := Lib.hid (by rw [hN, hc]; unfold markN; simp)
  have hb40 : ((s[p].toNat : Int) == 40) = false := by rw [hc]; rfl
  have hb41 : ((s[p].toNat : Int) == 41) = false := by rw [hc]; rfl
  have hb44 : ((s[p].toNat : Int) == 44) = false := by rw [hc]; rfl
  have hb46 : ((s[p].toNat : Int) == 46) = false := by rw [hc]; rfl
  have hb43 : ((s[p].toNat : Int) == 43) = false := by rw [hc]; rfl
  have hb45 : ((s[p].toNat : Int) == 45) = true := by rw [hc]; rfl
  subst hT
  clear hN hc hl HT hE58 hE60 hE62 hE33
  go_enter Tryz.func104, Tryz.ntmps104
  go_wp2_with fail
  go_ret
  exact ⟨ret_int (by rw [HE.out]; rfl), rfl⟩
set_option maxHeartbeats 4000000 in
set_option maxRecDepth 100000 in
theorem mark61L (s : ByteArray) (p : Nat) (w : World) (hm : s.size ≤ 1000000) (hp : p < s.size) (hl : ¬ s.size - p < 2) (hc : s[p] = 61) :
    Calls Tryz.prog 104 #[.string s, .int .i64 p] w fun e w' => e = .returned (.int .i64 ((markN s[p] (s.data.toList.drop (p + 1)) : Nat) : Int)) ∧ w = w' := by
  obtain ⟨N, hN⟩ : ∃ N, N = markN s[p] (s.data.toList.drop (p + 1)) := ⟨_, rfl⟩
  rw [← hN]
  have hlt' : (p : Int) < (s.size : Int) := by omega
  have hw1 : wrap64 ((s.size : Int) - (p : Int)) = (s.size : Int) - (p : Int) := IntWalk.wrap64_in _ (by omega)
  have hge : (2 : Int) ≤ (s.size : Int) - (p : Int) := by omega
  have hle2 : (p : Int) + 2 ≤ (s.size : Int) := by omega
  obtain ⟨T, hT⟩ : ∃ T, s.extract p (p + 2) = T := ⟨_, rfl⟩
  have HT := Lib.hid (mtwo_is s p hp T (by rw [if_neg hl, hT]))
  have hE58 : (T.toList == [58, 45]) = false := (HT.out 58 45).trans (by rw [hc]; rfl)
  have hE60 : (T.toList == [60, 61]) = false := (HT.out 60 61).trans (by rw [hc]; rfl)
  have hE62 : (T.toList == [62, 61]) = false := (HT.out 62 61).trans (by rw [hc]; rfl)
  have hE33 : (T.toList == [33, 61]) = false := (HT.out 33 61).trans (by rw [hc]; rfl)
  have HE : Hid (N = 1) := Lib.hid (by rw [hN, hc]; unfold markN; simp)
  have hb40 : ((s[p].toNat : Int) == 40) = false := by rw [hc]; rfl
  have hb41 : ((s[p].toNat : Int) == 41) = false := by rw [hc]; rfl
  have hb44 : ((s[p].toNat : Int) == 44) = false := by rw [hc]; rfl
  have hb46 : ((s[p].toNat : Int) == 46) = false := by rw [hc]; rfl
  have hb43 : ((s[p].toNat : Int) == 43) = false := by rw [hc]; rfl
  have hb45 : ((s[p].toNat : Int) == 45) = false := by rw [hc]; rfl
  have hb61 : ((s[p].toNat : Int) == 61) = true := by rw [hc]; rfl
  clear hN hc hl HT
  go_enter Tryz.func104, Tryz.ntmps104
  go_wp2_with fail
  go_ret
  exact ⟨ret_int (by rw [HE.out]; rfl), rfl⟩
set_option maxHeartbeats 4000000 in
set_option maxRecDepth 100000 in
theorem mark61S (s : ByteArray) (p : Nat) (w : World) (hm : s.size ≤ 1000000) (hp : p < s.size) (hl : s.size - p < 2) (hc : s[p] = 61) :
    Calls Tryz.prog 104 #[.string s, .int .i64 p] w fun e w' => e = .returned (.int .i64 ((markN s[p] (s.data.toList.drop (p + 1)) : Nat) : Int)) ∧ w = w' := by
  obtain ⟨N, hN⟩ : ∃ N, N = markN s[p] (s.data.toList.drop (p + 1)) := ⟨_, rfl⟩
  rw [← hN]
  have hlt' : (p : Int) < (s.size : Int) := by omega
  have hw1 : wrap64 ((s.size : Int) - (p : Int)) = (s.size : Int) - (p : Int) := IntWalk.wrap64_in _ (by omega)
  have hge : ¬ (2 : Int) ≤ (s.size : Int) - (p : Int) := by omega
  have hge2 : (s.size : Int) - (p : Int) < 2 := by omega
  obtain ⟨T, hT⟩ : ∃ T : ByteArray, T = ⟨#[]⟩ := ⟨_, rfl⟩
  have HT := Lib.hid (mtwo_is s p hp T (by rw [if_pos hl, hT]))
  have hE58 : (T.toList == [58, 45]) = false := (HT.out 58 45).trans (by rw [hc]; rfl)
  have hE60 : (T.toList == [60, 61]) = false := (HT.out 60 61).trans (by rw [hc]; rfl)
  have hE62 : (T.toList == [62, 61]) = false := (HT.out 62 61).trans (by rw [hc]; rfl)
  have hE33 : (T.toList == [33, 61]) = false := (HT.out 33 61).trans (by rw [hc]; rfl)
  have HE : Hid (N = 1) := Lib.hid (by rw [hN, hc]; unfold markN; simp)
  have hb40 : ((s[p].toNat : Int) == 40) = false := by rw [hc]; rfl
  have hb41 : ((s[p].toNat : Int) == 41) = false := by rw [hc]; rfl
  have hb44 : ((s[p].toNat : Int) == 44) = false := by rw [hc]; rfl
  have hb46 : ((s[p].toNat : Int) == 46) = false := by rw [hc]; rfl
  have hb43 : ((s[p].toNat : Int) == 43) = false := by rw [hc]; rfl
  have hb45 : ((s[p].toNat : Int) == 45) = false := by rw [hc]; rfl
  have hb61 : ((s[p].toNat : Int) == 61) = true := by rw [hc]; rfl
  subst hT
  clear hN hc hl HT hE58 hE60 hE62 hE33
  go_enter Tryz.func104, Tryz.ntmps104
  go_wp2_with fail
  go_ret
  exact ⟨ret_int (by rw [HE.out]; rfl), rfl⟩
set_option maxHeartbeats 4000000 in
set_option maxRecDepth 100000 in
theorem mark58L (s : ByteArray) (p : Nat) (w : World) (hm : s.size ≤ 1000000) (hp : p < s.size) (hl : ¬ s.size - p < 2) (hc : s[p] = 58) :
    Calls Tryz.prog 104 #[.string s, .int .i64 p] w fun e w' => e = .returned (.int .i64 ((markN s[p] (s.data.toList.drop (p + 1)) : Nat) : Int)) ∧ w = w' := by
  obtain ⟨N, hN⟩ : ∃ N, N = markN s[p] (s.data.toList.drop (p + 1)) := ⟨_, rfl⟩
  rw [← hN]
  have hlt' : (p : Int) < (s.size : Int) := by omega
  have hw1 : wrap64 ((s.size : Int) - (p : Int)) = (s.size : Int) - (p : Int) := IntWalk.wrap64_in _ (by omega)
  have hge : (2 : Int) ≤ (s.size : Int) - (p : Int) := by omega
  have hle2 : (p : Int) + 2 ≤ (s.size : Int) := by omega
  obtain ⟨T, hT⟩ : ∃ T, s.extract p (p + 2) = T := ⟨_, rfl⟩
  have HT := Lib.hid (mtwo_is s p hp T (by rw [if_neg hl, hT]))
  have hE60 : (T.toList == [60, 61]) = false := (HT.out 60 61).trans (by rw [hc]; rfl)
  have hE62 : (T.toList == [62, 61]) = false := (HT.out 62 61).trans (by rw [hc]; rfl)
  have hE33 : (T.toList == [33, 61]) = false := (HT.out 33 61).trans (by rw [hc]; rfl)
  have HB := Lib.hid ((HT.out 58 45).trans (by rw [hc, decide_eq_true rfl, Bool.true_and]))
  cases hEm : (T.toList == [58, 45]) with
  | true =>
    have HE : Hid (N = 2) := Lib.hid (by rw [hN, hc]; have h0 := hEm.symm.trans HB.out; have h1 : (s.data.toList.drop (p + 1)).head? = some 45 := (by simpa using h0.symm); exact markN_58y _ h1)
    clear hN hc hl HB HT
    go_enter Tryz.func104, Tryz.ntmps104
    go_wp2_with fail
    go_ret
    exact ⟨ret_int (by rw [HE.out]; rfl), rfl⟩
  | false =>
    have HE : Hid (N = 1) := Lib.hid (by rw [hN, hc]; have h0 := hEm.symm.trans HB.out; have h1 : ¬ (s.data.toList.drop (p + 1)).head? = some 45 := (by simpa using h0.symm); exact markN_58n _ h1)
    have hb40 : ((s[p].toNat : Int) == 40) = false := by rw [hc]; rfl
    have hb41 : ((s[p].toNat : Int) == 41) = false := by rw [hc]; rfl
    have hb44 : ((s[p].toNat : Int) == 44) = false := by rw [hc]; rfl
    have hb46 : ((s[p].toNat : Int) == 46) = false := by rw [hc]; rfl
    have hb43 : ((s[p].toNat : Int) == 43) = false := by rw [hc]; rfl
    have hb45 : ((s[p].toNat : Int) == 45) = false := by rw [hc]; rfl
    have hb61 : ((s[p].toNat : Int) == 61) = false := by rw [hc]; rfl
    have hb58 : ((s[p].toNat : Int) == 58) = true := by rw [hc]; rfl
    clear hN hc hl HB HT
    go_enter Tryz.func104, Tryz.ntmps104
    go_wp2_with fail
    go_ret
    exact ⟨ret_int (by rw [HE.out]; rfl), rfl⟩
set_option maxHeartbeats 4000000 in
set_option maxRecDepth 100000 in
theorem mark58S (s : ByteArray) (p : Nat) (w : World) (hm : s.size ≤ 1000000) (hp : p < s.size) (hl : s.size - p < 2) (hc : s[p] = 58) :
    Calls Tryz.prog 104 #[.string s, .int .i64 p] w fun e w' => e = .returned (.int .i64 ((markN s[p] (s.data.toList.drop (p + 1)) : Nat) : Int)) ∧ w = w' := by
  obtain ⟨N, hN⟩ : ∃ N, N = markN s[p] (s.data.toList.drop (p + 1)) := ⟨_, rfl⟩
  rw [← hN]
  have hlt' : (p : Int) < (s.size : Int) := by omega
  have hw1 : wrap64 ((s.size : Int) - (p : Int)) = (s.size : Int) - (p : Int) := IntWalk.wrap64_in _ (by omega)
  have hge : ¬ (2 : Int) ≤ (s.size : Int) - (p : Int) := by omega
  have hge2 : (s.size : Int) - (p : Int) < 2 := by omega
  obtain ⟨T, hT⟩ : ∃ T : ByteArray, T = ⟨#[]⟩ := ⟨_, rfl⟩
  have HT := Lib.hid (mtwo_is s p hp T (by rw [if_pos hl, hT]))
  have hE60 : (T.toList == [60, 61]) = false := (HT.out 60 61).trans (by rw [hc]; rfl)
  have hE62 : (T.toList == [62, 61]) = false := (HT.out 62 61).trans (by rw [hc]; rfl)
  have hE33 : (T.toList == [33, 61]) = false := (HT.out 33 61).trans (by rw [hc]; rfl)
  have HB := Lib.hid ((HT.out 58 45).trans (by rw [hc, decide_eq_true rfl, Bool.true_and]))
  have hEm : (T.toList == [58, 45]) = false := by rw [hT, emp_toList]; rfl
  have HE : Hid (N = 1) := Lib.hid (by rw [hN, hc]; have h0 := hEm.symm.trans HB.out; have h1 : ¬ (s.data.toList.drop (p + 1)).head? = some 45 := (by simpa using h0.symm); exact markN_58n _ h1)
  have hb40 : ((s[p].toNat : Int) == 40) = false := by rw [hc]; rfl
  have hb41 : ((s[p].toNat : Int) == 41) = false := by rw [hc]; rfl
  have hb44 : ((s[p].toNat : Int) == 44) = false := by rw [hc]; rfl
  have hb46 : ((s[p].toNat : Int) == 46) = false := by rw [hc]; rfl
  have hb43 : ((s[p].toNat : Int) == 43) = false := by rw [hc]; rfl
  have hb45 : ((s[p].toNat : Int) == 45) = false := by rw [hc]; rfl
  have hb61 : ((s[p].toNat : Int) == 61) = false := by rw [hc]; rfl
  have hb58 : ((s[p].toNat : Int) == 58) = true := by rw [hc]; rfl
  subst hT
  clear hN hc hl HB HT hE60 hE62 hE33 hEm
  go_enter Tryz.func104, Tryz.ntmps104
  go_wp2_with fail
  go_ret
  exact ⟨ret_int (by rw [HE.out]; rfl), rfl⟩
set_option maxHeartbeats 4000000 in
set_option maxRecDepth 100000 in
theorem mark60L (s : ByteArray) (p : Nat) (w : World) (hm : s.size ≤ 1000000) (hp : p < s.size) (hl : ¬ s.size - p < 2) (hc : s[p] = 60) :
    Calls Tryz.prog 104 #[.string s, .int .i64 p] w fun e w' => e = .returned (.int .i64 ((markN s[p] (s.data.toList.drop (p + 1)) : Nat) : Int)) ∧ w = w' := by
  obtain ⟨N, hN⟩ : ∃ N, N = markN s[p] (s.data.toList.drop (p + 1)) := ⟨_, rfl⟩
  rw [← hN]
  have hlt' : (p : Int) < (s.size : Int) := by omega
  have hw1 : wrap64 ((s.size : Int) - (p : Int)) = (s.size : Int) - (p : Int) := IntWalk.wrap64_in _ (by omega)
  have hge : (2 : Int) ≤ (s.size : Int) - (p : Int) := by omega
  have hle2 : (p : Int) + 2 ≤ (s.size : Int) := by omega
  obtain ⟨T, hT⟩ : ∃ T, s.extract p (p + 2) = T := ⟨_, rfl⟩
  have HT := Lib.hid (mtwo_is s p hp T (by rw [if_neg hl, hT]))
  have hE58 : (T.toList == [58, 45]) = false := (HT.out 58 45).trans (by rw [hc]; rfl)
  have hE62 : (T.toList == [62, 61]) = false := (HT.out 62 61).trans (by rw [hc]; rfl)
  have hE33 : (T.toList == [33, 61]) = false := (HT.out 33 61).trans (by rw [hc]; rfl)
  have HB := Lib.hid ((HT.out 60 61).trans (by rw [hc, decide_eq_true rfl, Bool.true_and]))
  cases hEm : (T.toList == [60, 61]) with
  | true =>
    have HE : Hid (N = 2) := Lib.hid (by rw [hN, hc]; have h0 := hEm.symm.trans HB.out; have h1 : (s.data.toList.drop (p + 1)).head? = some 61 := (by simpa using h0.symm); exact markN_60y _ h1)
    clear hN hc hl HB HT
    go_enter Tryz.func104, Tryz.ntmps104
    go_wp2_with fail
    go_ret
    exact ⟨ret_int (by rw [HE.out]; rfl), rfl⟩
  | false =>
    have HE : Hid (N = 1) := Lib.hid (by rw [hN, hc]; have h0 := hEm.symm.trans HB.out; have h1 : ¬ (s.data.toList.drop (p + 1)).head? = some 61 := (by simpa using h0.symm); exact markN_60n _ h1)
    have hb40 : ((s[p].toNat : Int) == 40) = false := by rw [hc]; rfl
    have hb41 : ((s[p].toNat : Int) == 41) = false := by rw [hc]; rfl
    have hb44 : ((s[p].toNat : Int) == 44) = false := by rw [hc]; rfl
    have hb46 : ((s[p].toNat : Int) == 46) = false := by rw [hc]; rfl
    have hb43 : ((s[p].toNat : Int) == 43) = false := by rw [hc]; rfl
    have hb45 : ((s[p].toNat : Int) == 45) = false := by rw [hc]; rfl
    have hb61 : ((s[p].toNat : Int) == 61) = false := by rw [hc]; rfl
    have hb58 : ((s[p].toNat : Int) == 58) = false := by rw [hc]; rfl
    have hb60 : ((s[p].toNat : Int) == 60) = true := by rw [hc]; rfl
    clear hN hc hl HB HT
    go_enter Tryz.func104, Tryz.ntmps104
    go_wp2_with fail
    go_ret
    exact ⟨ret_int (by rw [HE.out]; rfl), rfl⟩
set_option maxHeartbeats 4000000 in
set_option maxRecDepth 100000 in
theorem mark60S (s : ByteArray) (p : Nat) (w : World) (hm : s.size ≤ 1000000) (hp : p < s.size) (hl : s.size - p < 2) (hc : s[p] = 60) :
    Calls Tryz.prog 104 #[.string s, .int .i64 p] w fun e w' => e = .returned (.int .i64 ((markN s[p] (s.data.toList.drop (p + 1)) : Nat) : Int)) ∧ w = w' := by
  obtain ⟨N, hN⟩ : ∃ N, N = markN s[p] (s.data.toList.drop (p + 1)) := ⟨_, rfl⟩
  rw [← hN]
  have hlt' : (p : Int) < (s.size : Int) := by omega
  have hw1 : wrap64 ((s.size : Int) - (p : Int)) = (s.size : Int) - (p : Int) := IntWalk.wrap64_in _ (by omega)
  have hge : ¬ (2 : Int) ≤ (s.size : Int) - (p : Int) := by omega
  have hge2 : (s.size : Int) - (p : Int) < 2 := by omega
  obtain ⟨T, hT⟩ : ∃ T : ByteArray, T = ⟨#[]⟩ := ⟨_, rfl⟩
  have HT := Lib.hid (mtwo_is s p hp T (by rw [if_pos hl, hT]))
  have hE58 : (T.toList == [58, 45]) = false := (HT.out 58 45).trans (by rw [hc]; rfl)
  have hE62 : (T.toList == [62, 61]) = false := (HT.out 62 61).trans (by rw [hc]; rfl)
  have hE33 : (T.toList == [33, 61]) = false := (HT.out 33 61).trans (by rw [hc]; rfl)
  have HB := Lib.hid ((HT.out 60 61).trans (by rw [hc, decide_eq_true rfl, Bool.true_and]))
  have hEm : (T.toList == [60, 61]) = false := by rw [hT, emp_toList]; rfl
  have HE : Hid (N = 1) := Lib.hid (by rw [hN, hc]; have h0 := hEm.symm.trans HB.out; have h1 : ¬ (s.data.toList.drop (p + 1)).head? = some 61 := (by simpa using h0.symm); exact markN_60n _ h1)
  have hb40 : ((s[p].toNat : Int) == 40) = false := by rw [hc]; rfl
  have hb41 : ((s[p].toNat : Int) == 41) = false := by rw [hc]; rfl
  have hb44 : ((s[p].toNat : Int) == 44) = false := by rw [hc]; rfl
  have hb46 : ((s[p].toNat : Int) == 46) = false := by rw [hc]; rfl
  have hb43 : ((s[p].toNat : Int) == 43) = false := by rw [hc]; rfl
  have hb45 : ((s[p].toNat : Int) == 45) = false := by rw [hc]; rfl
  have hb61 : ((s[p].toNat : Int) == 61) = false := by rw [hc]; rfl
  have hb58 : ((s[p].toNat : Int) == 58) = false := by rw [hc]; rfl
  have hb60 : ((s[p].toNat : Int) == 60) = true := by rw [hc]; rfl
  subst hT
  clear hN hc hl HB HT hE58 hE62 hE33 hEm
  go_enter Tryz.func104, Tryz.ntmps104
  go_wp2_with fail
  go_ret
  exact ⟨ret_int (by rw [HE.out]; rfl), rfl⟩
set_option maxHeartbeats 4000000 in
set_option maxRecDepth 100000 in
theorem mark62L (s : ByteArray) (p : Nat) (w : World) (hm : s.size ≤ 1000000) (hp : p < s.size) (hl : ¬ s.size - p < 2) (hc : s[p] = 62) :
    Calls Tryz.prog 104 #[.string s, .int .i64 p] w fun e w' => e = .returned (.int .i64 ((markN s[p] (s.data.toList.drop (p + 1)) : Nat) : Int)) ∧ w = w' := by
  obtain ⟨N, hN⟩ : ∃ N, N = markN s[p] (s.data.toList.drop (p + 1)) := ⟨_, rfl⟩
  rw [← hN]
  have hlt' : (p : Int) < (s.size : Int) := by omega
  have hw1 : wrap64 ((s.size : Int) - (p : Int)) = (s.size : Int) - (p : Int) := IntWalk.wrap64_in _ (by omega)
  have hge : (2 : Int) ≤ (s.size : Int) - (p : Int) := by omega
  have hle2 : (p : Int) + 2 ≤ (s.size : Int) := by omega
  obtain ⟨T, hT⟩ : ∃ T, s.extract p (p + 2) = T := ⟨_, rfl⟩
  have HT := Lib.hid (mtwo_is s p hp T (by rw [if_neg hl, hT]))
  have hE58 : (T.toList == [58, 45]) = false := (HT.out 58 45).trans (by rw [hc]; rfl)
  have hE60 : (T.toList == [60, 61]) = false := (HT.out 60 61).trans (by rw [hc]; rfl)
  have hE33 : (T.toList == [33, 61]) = false := (HT.out 33 61).trans (by rw [hc]; rfl)
  have HB := Lib.hid ((HT.out 62 61).trans (by rw [hc, decide_eq_true rfl, Bool.true_and]))
  cases hEm : (T.toList == [62, 61]) with
  | true =>
    have HE : Hid (N = 2) := Lib.hid (by rw [hN, hc]; have h0 := hEm.symm.trans HB.out; have h1 : (s.data.toList.drop (p + 1)).head? = some 61 := (by simpa using h0.symm); exact markN_62y _ h1)
    clear hN hc hl HB HT
    go_enter Tryz.func104, Tryz.ntmps104
    go_wp2_with fail
    go_ret
    exact ⟨ret_int (by rw [HE.out]; rfl), rfl⟩
  | false =>
    have HE : Hid (N = 1) := Lib.hid (by rw [hN, hc]; have h0 := hEm.symm.trans HB.out; have h1 : ¬ (s.data.toList.drop (p + 1)).head? = some 61 := (by simpa using h0.symm); exact markN_62n _ h1)
    have hb40 : ((s[p].toNat : Int) == 40) = false := by rw [hc]; rfl
    have hb41 : ((s[p].toNat : Int) == 41) = false := by rw [hc]; rfl
    have hb44 : ((s[p].toNat : Int) == 44) = false := by rw [hc]; rfl
    have hb46 : ((s[p].toNat : Int) == 46) = false := by rw [hc]; rfl
    have hb43 : ((s[p].toNat : Int) == 43) = false := by rw [hc]; rfl
    have hb45 : ((s[p].toNat : Int) == 45) = false := by rw [hc]; rfl
    have hb61 : ((s[p].toNat : Int) == 61) = false := by rw [hc]; rfl
    have hb58 : ((s[p].toNat : Int) == 58) = false := by rw [hc]; rfl
    have hb60 : ((s[p].toNat : Int) == 60) = false := by rw [hc]; rfl
    have hb62 : ((s[p].toNat : Int) == 62) = true := by rw [hc]; rfl
    clear hN hc hl HB HT
    go_enter Tryz.func104, Tryz.ntmps104
    go_wp2_with fail
    go_ret
    exact ⟨ret_int (by rw [HE.out]; rfl), rfl⟩
set_option maxHeartbeats 4000000 in
set_option maxRecDepth 100000 in
theorem mark62S (s : ByteArray) (p : Nat) (w : World) (hm : s.size ≤ 1000000) (hp : p < s.size) (hl : s.size - p < 2) (hc : s[p] = 62) :
    Calls Tryz.prog 104 #[.string s, .int .i64 p] w fun e w' => e = .returned (.int .i64 ((markN s[p] (s.data.toList.drop (p + 1)) : Nat) : Int)) ∧ w = w' := by
  obtain ⟨N, hN⟩ : ∃ N, N = markN s[p] (s.data.toList.drop (p + 1)) := ⟨_, rfl⟩
  rw [← hN]
  have hlt' : (p : Int) < (s.size : Int) := by omega
  have hw1 : wrap64 ((s.size : Int) - (p : Int)) = (s.size : Int) - (p : Int) := IntWalk.wrap64_in _ (by omega)
  have hge : ¬ (2 : Int) ≤ (s.size : Int) - (p : Int) := by omega
  have hge2 : (s.size : Int) - (p : Int) < 2 := by omega
  obtain ⟨T, hT⟩ : ∃ T : ByteArray, T = ⟨#[]⟩ := ⟨_, rfl⟩
  have HT := Lib.hid (mtwo_is s p hp T (by rw [if_pos hl, hT]))
  have hE58 : (T.toList == [58, 45]) = false := (HT.out 58 45).trans (by rw [hc]; rfl)
  have hE60 : (T.toList == [60, 61]) = false := (HT.out 60 61).trans (by rw [hc]; rfl)
  have hE33 : (T.toList == [33, 61]) = false := (HT.out 33 61).trans (by rw [hc]; rfl)
  have HB := Lib.hid ((HT.out 62 61).trans (by rw [hc, decide_eq_true rfl, Bool.true_and]))
  have hEm : (T.toList == [62, 61]) = false := by rw [hT, emp_toList]; rfl
  have HE : Hid (N = 1) := Lib.hid (by rw [hN, hc]; have h0 := hEm.symm.trans HB.out; have h1 : ¬ (s.data.toList.drop (p + 1)).head? = some 61 := (by simpa using h0.symm); exact markN_62n _ h1)
  have hb40 : ((s[p].toNat : Int) == 40) = false := by rw [hc]; rfl
  have hb41 : ((s[p].toNat : Int) == 41) = false := by rw [hc]; rfl
  have hb44 : ((s[p].toNat : Int) == 44) = false := by rw [hc]; rfl
  have hb46 : ((s[p].toNat : Int) == 46) = false := by rw [hc]; rfl
  have hb43 : ((s[p].toNat : Int) == 43) = false := by rw [hc]; rfl
  have hb45 : ((s[p].toNat : Int) == 45) = false := by rw [hc]; rfl
  have hb61 : ((s[p].toNat : Int) == 61) = false := by rw [hc]; rfl
  have hb58 : ((s[p].toNat : Int) == 58) = false := by rw [hc]; rfl
  have hb60 : ((s[p].toNat : Int) == 60) = false := by rw [hc]; rfl
  have hb62 : ((s[p].toNat : Int) == 62) = true := by rw [hc]; rfl
  subst hT
  clear hN hc hl HB HT hE58 hE60 hE33 hEm
  go_enter Tryz.func104, Tryz.ntmps104
  go_wp2_with fail
  go_ret
  exact ⟨ret_int (by rw [HE.out]; rfl), rfl⟩
set_option maxHeartbeats 4000000 in
set_option maxRecDepth 100000 in
theorem mark33L (s : ByteArray) (p : Nat) (w : World) (hm : s.size ≤ 1000000) (hp : p < s.size) (hl : ¬ s.size - p < 2) (hc : s[p] = 33) :
    Calls Tryz.prog 104 #[.string s, .int .i64 p] w fun e w' => e = .returned (.int .i64 ((markN s[p] (s.data.toList.drop (p + 1)) : Nat) : Int)) ∧ w = w' := by
  obtain ⟨N, hN⟩ : ∃ N, N = markN s[p] (s.data.toList.drop (p + 1)) := ⟨_, rfl⟩
  rw [← hN]
  have hlt' : (p : Int) < (s.size : Int) := by omega
  have hw1 : wrap64 ((s.size : Int) - (p : Int)) = (s.size : Int) - (p : Int) := IntWalk.wrap64_in _ (by omega)
  have hge : (2 : Int) ≤ (s.size : Int) - (p : Int) := by omega
  have hle2 : (p : Int) + 2 ≤ (s.size : Int) := by omega
  obtain ⟨T, hT⟩ : ∃ T, s.extract p (p + 2) = T := ⟨_, rfl⟩
  have HT := Lib.hid (mtwo_is s p hp T (by rw [if_neg hl, hT]))
  have hE58 : (T.toList == [58, 45]) = false := (HT.out 58 45).trans (by rw [hc]; rfl)
  have hE60 : (T.toList == [60, 61]) = false := (HT.out 60 61).trans (by rw [hc]; rfl)
  have hE62 : (T.toList == [62, 61]) = false := (HT.out 62 61).trans (by rw [hc]; rfl)
  have HB := Lib.hid ((HT.out 33 61).trans (by rw [hc, decide_eq_true rfl, Bool.true_and]))
  cases hEm : (T.toList == [33, 61]) with
  | true =>
    have HE : Hid (N = 2) := Lib.hid (by rw [hN, hc]; have h0 := hEm.symm.trans HB.out; have h1 : (s.data.toList.drop (p + 1)).head? = some 61 := (by simpa using h0.symm); exact markN_33y _ h1)
    clear hN hc hl HB HT
    go_enter Tryz.func104, Tryz.ntmps104
    go_wp2_with fail
    go_ret
    exact ⟨ret_int (by rw [HE.out]; rfl), rfl⟩
  | false =>
    have HE : Hid (N = 0) := Lib.hid (by rw [hN, hc]; have h0 := hEm.symm.trans HB.out; have h1 : ¬ (s.data.toList.drop (p + 1)).head? = some 61 := (by simpa using h0.symm); exact markN_33n _ h1)
    have hb40 : ((s[p].toNat : Int) == 40) = false := by rw [hc]; rfl
    have hb41 : ((s[p].toNat : Int) == 41) = false := by rw [hc]; rfl
    have hb44 : ((s[p].toNat : Int) == 44) = false := by rw [hc]; rfl
    have hb46 : ((s[p].toNat : Int) == 46) = false := by rw [hc]; rfl
    have hb43 : ((s[p].toNat : Int) == 43) = false := by rw [hc]; rfl
    have hb45 : ((s[p].toNat : Int) == 45) = false := by rw [hc]; rfl
    have hb61 : ((s[p].toNat : Int) == 61) = false := by rw [hc]; rfl
    have hb58 : ((s[p].toNat : Int) == 58) = false := by rw [hc]; rfl
    have hb60 : ((s[p].toNat : Int) == 60) = false := by rw [hc]; rfl
    have hb62 : ((s[p].toNat : Int) == 62) = false := by rw [hc]; rfl
    clear hN hc hl HB HT
    go_enter Tryz.func104, Tryz.ntmps104
    go_wp2_with fail
    go_ret
    exact ⟨ret_int (by rw [HE.out]; rfl), rfl⟩
set_option maxHeartbeats 4000000 in
set_option maxRecDepth 100000 in
theorem mark33S (s : ByteArray) (p : Nat) (w : World) (hm : s.size ≤ 1000000) (hp : p < s.size) (hl : s.size - p < 2) (hc : s[p] = 33) :
    Calls Tryz.prog 104 #[.string s, .int .i64 p] w fun e w' => e = .returned (.int .i64 ((markN s[p] (s.data.toList.drop (p + 1)) : Nat) : Int)) ∧ w = w' := by
  obtain ⟨N, hN⟩ : ∃ N, N = markN s[p] (s.data.toList.drop (p + 1)) := ⟨_, rfl⟩
  rw [← hN]
  have hlt' : (p : Int) < (s.size : Int) := by omega
  have hw1 : wrap64 ((s.size : Int) - (p : Int)) = (s.size : Int) - (p : Int) := IntWalk.wrap64_in _ (by omega)
  have hge : ¬ (2 : Int) ≤ (s.size : Int) - (p : Int) := by omega
  have hge2 : (s.size : Int) - (p : Int) < 2 := by omega
  obtain ⟨T, hT⟩ : ∃ T : ByteArray, T = ⟨#[]⟩ := ⟨_, rfl⟩
  have HT := Lib.hid (mtwo_is s p hp T (by rw [if_pos hl, hT]))
  have hE58 : (T.toList == [58, 45]) = false := (HT.out 58 45).trans (by rw [hc]; rfl)
  have hE60 : (T.toList == [60, 61]) = false := (HT.out 60 61).trans (by rw [hc]; rfl)
  have hE62 : (T.toList == [62, 61]) = false := (HT.out 62 61).trans (by rw [hc]; rfl)
  have HB := Lib.hid ((HT.out 33 61).trans (by rw [hc, decide_eq_true rfl, Bool.true_and]))
  have hEm : (T.toList == [33, 61]) = false := by rw [hT, emp_toList]; rfl
  have HE : Hid (N = 0) := Lib.hid (by rw [hN, hc]; have h0 := hEm.symm.trans HB.out; have h1 : ¬ (s.data.toList.drop (p + 1)).head? = some 61 := (by simpa using h0.symm); exact markN_33n _ h1)
  have hb40 : ((s[p].toNat : Int) == 40) = false := by rw [hc]; rfl
  have hb41 : ((s[p].toNat : Int) == 41) = false := by rw [hc]; rfl
  have hb44 : ((s[p].toNat : Int) == 44) = false := by rw [hc]; rfl
  have hb46 : ((s[p].toNat : Int) == 46) = false := by rw [hc]; rfl
  have hb43 : ((s[p].toNat : Int) == 43) = false := by rw [hc]; rfl
  have hb45 : ((s[p].toNat : Int) == 45) = false := by rw [hc]; rfl
  have hb61 : ((s[p].toNat : Int) == 61) = false := by rw [hc]; rfl
  have hb58 : ((s[p].toNat : Int) == 58) = false := by rw [hc]; rfl
  have hb60 : ((s[p].toNat : Int) == 60) = false := by rw [hc]; rfl
  have hb62 : ((s[p].toNat : Int) == 62) = false := by rw [hc]; rfl
  subst hT
  clear hN hc hl HB HT hE58 hE60 hE62 hEm
  go_enter Tryz.func104, Tryz.ntmps104
  go_wp2_with fail
  go_ret
  exact ⟨ret_int (by rw [HE.out]; rfl), rfl⟩
set_option maxHeartbeats 4000000 in
set_option maxRecDepth 100000 in
theorem mark0L (s : ByteArray) (p : Nat) (w : World) (hm : s.size ≤ 1000000) (hp : p < s.size) (hl : ¬ s.size - p < 2) (hc : ¬ (s[p] = 40 ∨ s[p] = 41 ∨ s[p] = 44 ∨ s[p] = 46 ∨ s[p] = 43 ∨ s[p] = 45 ∨ s[p] = 61 ∨ s[p] = 58 ∨ s[p] = 60 ∨ s[p] = 62 ∨ s[p] = 33)) :
    Calls Tryz.prog 104 #[.string s, .int .i64 p] w fun e w' => e = .returned (.int .i64 ((markN s[p] (s.data.toList.drop (p + 1)) : Nat) : Int)) ∧ w = w' := by
  obtain ⟨N, hN⟩ : ∃ N, N = markN s[p] (s.data.toList.drop (p + 1)) := ⟨_, rfl⟩
  rw [← hN]
  have hlt' : (p : Int) < (s.size : Int) := by omega
  have hw1 : wrap64 ((s.size : Int) - (p : Int)) = (s.size : Int) - (p : Int) := IntWalk.wrap64_in _ (by omega)
  have hge : (2 : Int) ≤ (s.size : Int) - (p : Int) := by omega
  have hle2 : (p : Int) + 2 ≤ (s.size : Int) := by omega
  obtain ⟨T, hT⟩ : ∃ T, s.extract p (p + 2) = T := ⟨_, rfl⟩
  have HT := Lib.hid (mtwo_is s p hp T (by rw [if_neg hl, hT]))
  have hE58 : (T.toList == [58, 45]) = false := (HT.out 58 45).trans (by rw [decide_eq_false (fun e => hc (by rw [e]; decide)), Bool.false_and])
  have hE60 : (T.toList == [60, 61]) = false := (HT.out 60 61).trans (by rw [decide_eq_false (fun e => hc (by rw [e]; decide)), Bool.false_and])
  have hE62 : (T.toList == [62, 61]) = false := (HT.out 62 61).trans (by rw [decide_eq_false (fun e => hc (by rw [e]; decide)), Bool.false_and])
  have hE33 : (T.toList == [33, 61]) = false := (HT.out 33 61).trans (by rw [decide_eq_false (fun e => hc (by rw [e]; decide)), Bool.false_and])
  have HE : Hid (N = 0) := Lib.hid (by rw [hN]; unfold markN; rw [if_neg (fun e => hc (by rcases e with ⟨e, -⟩ | ⟨e | e | e, -⟩ <;> rw [e] <;> decide)), if_neg (fun e => hc (by rcases e with e | e | e | e | e | e | e | e | e | e <;> rw [e] <;> decide))])
  have hb40 : ((s[p].toNat : Int) == 40) = false := beq_eq_false_iff_ne.2 (fun e => hc (by have h9 : s[p] = 40 := UInt8.toNat_inj.1 (by simpa using (show s[p].toNat = 40 by omega)); rw [h9]; decide))
  have hb41 : ((s[p].toNat : Int) == 41) = false := beq_eq_false_iff_ne.2 (fun e => hc (by have h9 : s[p] = 41 := UInt8.toNat_inj.1 (by simpa using (show s[p].toNat = 41 by omega)); rw [h9]; decide))
  have hb44 : ((s[p].toNat : Int) == 44) = false := beq_eq_false_iff_ne.2 (fun e => hc (by have h9 : s[p] = 44 := UInt8.toNat_inj.1 (by simpa using (show s[p].toNat = 44 by omega)); rw [h9]; decide))
  have hb46 : ((s[p].toNat : Int) == 46) = false := beq_eq_false_iff_ne.2 (fun e => hc (by have h9 : s[p] = 46 := UInt8.toNat_inj.1 (by simpa using (show s[p].toNat = 46 by omega)); rw [h9]; decide))
  have hb43 : ((s[p].toNat : Int) == 43) = false := beq_eq_false_iff_ne.2 (fun e => hc (by have h9 : s[p] = 43 := UInt8.toNat_inj.1 (by simpa using (show s[p].toNat = 43 by omega)); rw [h9]; decide))
  have hb45 : ((s[p].toNat : Int) == 45) = false := beq_eq_false_iff_ne.2 (fun e => hc (by have h9 : s[p] = 45 := UInt8.toNat_inj.1 (by simpa using (show s[p].toNat = 45 by omega)); rw [h9]; decide))
  have hb61 : ((s[p].toNat : Int) == 61) = false := beq_eq_false_iff_ne.2 (fun e => hc (by have h9 : s[p] = 61 := UInt8.toNat_inj.1 (by simpa using (show s[p].toNat = 61 by omega)); rw [h9]; decide))
  have hb58 : ((s[p].toNat : Int) == 58) = false := beq_eq_false_iff_ne.2 (fun e => hc (by have h9 : s[p] = 58 := UInt8.toNat_inj.1 (by simpa using (show s[p].toNat = 58 by omega)); rw [h9]; decide))
  have hb60 : ((s[p].toNat : Int) == 60) = false := beq_eq_false_iff_ne.2 (fun e => hc (by have h9 : s[p] = 60 := UInt8.toNat_inj.1 (by simpa using (show s[p].toNat = 60 by omega)); rw [h9]; decide))
  have hb62 : ((s[p].toNat : Int) == 62) = false := beq_eq_false_iff_ne.2 (fun e => hc (by have h9 : s[p] = 62 := UInt8.toNat_inj.1 (by simpa using (show s[p].toNat = 62 by omega)); rw [h9]; decide))
  clear hN hc hl HT
  go_enter Tryz.func104, Tryz.ntmps104
  go_wp2_with fail
  go_ret
  exact ⟨ret_int (by rw [HE.out]; rfl), rfl⟩
set_option maxHeartbeats 4000000 in
set_option maxRecDepth 100000 in
theorem mark0S (s : ByteArray) (p : Nat) (w : World) (hm : s.size ≤ 1000000) (hp : p < s.size) (hl : s.size - p < 2) (hc : ¬ (s[p] = 40 ∨ s[p] = 41 ∨ s[p] = 44 ∨ s[p] = 46 ∨ s[p] = 43 ∨ s[p] = 45 ∨ s[p] = 61 ∨ s[p] = 58 ∨ s[p] = 60 ∨ s[p] = 62 ∨ s[p] = 33)) :
    Calls Tryz.prog 104 #[.string s, .int .i64 p] w fun e w' => e = .returned (.int .i64 ((markN s[p] (s.data.toList.drop (p + 1)) : Nat) : Int)) ∧ w = w' := by
  obtain ⟨N, hN⟩ : ∃ N, N = markN s[p] (s.data.toList.drop (p + 1)) := ⟨_, rfl⟩
  rw [← hN]
  have hlt' : (p : Int) < (s.size : Int) := by omega
  have hw1 : wrap64 ((s.size : Int) - (p : Int)) = (s.size : Int) - (p : Int) := IntWalk.wrap64_in _ (by omega)
  have hge : ¬ (2 : Int) ≤ (s.size : Int) - (p : Int) := by omega
  have hge2 : (s.size : Int) - (p : Int) < 2 := by omega
  obtain ⟨T, hT⟩ : ∃ T : ByteArray, T = ⟨#[]⟩ := ⟨_, rfl⟩
  have HT := Lib.hid (mtwo_is s p hp T (by rw [if_pos hl, hT]))
  have hE58 : (T.toList == [58, 45]) = false := (HT.out 58 45).trans (by rw [decide_eq_false (fun e => hc (by rw [e]; decide)), Bool.false_and])
  have hE60 : (T.toList == [60, 61]) = false := (HT.out 60 61).trans (by rw [decide_eq_false (fun e => hc (by rw [e]; decide)), Bool.false_and])
  have hE62 : (T.toList == [62, 61]) = false := (HT.out 62 61).trans (by rw [decide_eq_false (fun e => hc (by rw [e]; decide)), Bool.false_and])
  have hE33 : (T.toList == [33, 61]) = false := (HT.out 33 61).trans (by rw [decide_eq_false (fun e => hc (by rw [e]; decide)), Bool.false_and])
  have HE : Hid (N = 0) := Lib.hid (by rw [hN]; unfold markN; rw [if_neg (fun e => hc (by rcases e with ⟨e, -⟩ | ⟨e | e | e, -⟩ <;> rw [e] <;> decide)), if_neg (fun e => hc (by rcases e with e | e | e | e | e | e | e | e | e | e <;> rw [e] <;> decide))])
  have hb40 : ((s[p].toNat : Int) == 40) = false := beq_eq_false_iff_ne.2 (fun e => hc (by have h9 : s[p] = 40 := UInt8.toNat_inj.1 (by simpa using (show s[p].toNat = 40 by omega)); rw [h9]; decide))
  have hb41 : ((s[p].toNat : Int) == 41) = false := beq_eq_false_iff_ne.2 (fun e => hc (by have h9 : s[p] = 41 := UInt8.toNat_inj.1 (by simpa using (show s[p].toNat = 41 by omega)); rw [h9]; decide))
  have hb44 : ((s[p].toNat : Int) == 44) = false := beq_eq_false_iff_ne.2 (fun e => hc (by have h9 : s[p] = 44 := UInt8.toNat_inj.1 (by simpa using (show s[p].toNat = 44 by omega)); rw [h9]; decide))
  have hb46 : ((s[p].toNat : Int) == 46) = false := beq_eq_false_iff_ne.2 (fun e => hc (by have h9 : s[p] = 46 := UInt8.toNat_inj.1 (by simpa using (show s[p].toNat = 46 by omega)); rw [h9]; decide))
  have hb43 : ((s[p].toNat : Int) == 43) = false := beq_eq_false_iff_ne.2 (fun e => hc (by have h9 : s[p] = 43 := UInt8.toNat_inj.1 (by simpa using (show s[p].toNat = 43 by omega)); rw [h9]; decide))
  have hb45 : ((s[p].toNat : Int) == 45) = false := beq_eq_false_iff_ne.2 (fun e => hc (by have h9 : s[p] = 45 := UInt8.toNat_inj.1 (by simpa using (show s[p].toNat = 45 by omega)); rw [h9]; decide))
  have hb61 : ((s[p].toNat : Int) == 61) = false := beq_eq_false_iff_ne.2 (fun e => hc (by have h9 : s[p] = 61 := UInt8.toNat_inj.1 (by simpa using (show s[p].toNat = 61 by omega)); rw [h9]; decide))
  have hb58 : ((s[p].toNat : Int) == 58) = false := beq_eq_false_iff_ne.2 (fun e => hc (by have h9 : s[p] = 58 := UInt8.toNat_inj.1 (by simpa using (show s[p].toNat = 58 by omega)); rw [h9]; decide))
  have hb60 : ((s[p].toNat : Int) == 60) = false := beq_eq_false_iff_ne.2 (fun e => hc (by have h9 : s[p] = 60 := UInt8.toNat_inj.1 (by simpa using (show s[p].toNat = 60 by omega)); rw [h9]; decide))
  have hb62 : ((s[p].toNat : Int) == 62) = false := beq_eq_false_iff_ne.2 (fun e => hc (by have h9 : s[p] = 62 := UInt8.toNat_inj.1 (by simpa using (show s[p].toNat = 62 by omega)); rw [h9]; decide))
  subst hT
  clear hN hc hl HT hE58 hE60 hE62 hE33
  go_enter Tryz.func104, Tryz.ntmps104
  go_wp2_with fail
  go_ret
  exact ⟨ret_int (by rw [HE.out]; rfl), rfl⟩
theorem rmark_any (s : ByteArray) (p : Nat) (w : World) (hm : s.size ≤ 1000000) (hp : p < s.size) :
    Calls Tryz.prog 104 #[.string s, .int .i64 p] w fun e w' => e = .returned (.int .i64 ((markN s[p] (s.data.toList.drop (p + 1)) : Nat) : Int)) ∧ w = w' := by
  by_cases hl : s.size - p < 2
  all_goals by_cases hc : s[p] = 40 ∨ s[p] = 41 ∨ s[p] = 44 ∨ s[p] = 46 ∨ s[p] = 43 ∨ s[p] = 45 ∨ s[p] = 61 ∨ s[p] = 58 ∨ s[p] = 60 ∨ s[p] = 62 ∨ s[p] = 33
  · rcases hc with h | h | h | h | h | h | h | h | h | h | h
    · exact mark40S s p w hm hp hl h
    · exact mark41S s p w hm hp hl h
    · exact mark44S s p w hm hp hl h
    · exact mark46S s p w hm hp hl h
    · exact mark43S s p w hm hp hl h
    · exact mark45S s p w hm hp hl h
    · exact mark61S s p w hm hp hl h
    · exact mark58S s p w hm hp hl h
    · exact mark60S s p w hm hp hl h
    · exact mark62S s p w hm hp hl h
    · exact mark33S s p w hm hp hl h
  · exact mark0S s p w hm hp hl hc
  · rcases hc with h | h | h | h | h | h | h | h | h | h | h
    · exact mark40L s p w hm hp hl h
    · exact mark41L s p w hm hp hl h
    · exact mark44L s p w hm hp hl h
    · exact mark46L s p w hm hp hl h
    · exact mark43L s p w hm hp hl h
    · exact mark45L s p w hm hp hl h
    · exact mark61L s p w hm hp hl h
    · exact mark58L s p w hm hp hl h
    · exact mark60L s p w hm hp hl h
    · exact mark62L s p w hm hp hl h
    · exact mark33L s p w hm hp hl h
  · exact mark0L s p w hm hp hl hc
end Go.Proofs.YtnbaemfkpfmheaaGreatDoor
