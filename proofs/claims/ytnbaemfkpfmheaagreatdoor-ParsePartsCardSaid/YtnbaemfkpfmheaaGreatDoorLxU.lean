/-
  Contracts of the document's value and of its word at any place.
-/
import Derived.Test.YtnbaemfkpfmheaaGreatDoorLxT
namespace Go.Proofs.YtnbaemfkpfmheaaGreatDoor
open Go Go.RowKit

theorem rvread_is (s : ByteArray) (w : World) (hm : s.size ≤ 1000000) :
    Calls Tryz.prog 110 #[.string s] w fun e w' => e = .returned (.tuple #[valV ((valL s.data.toList).getD zeroL), .int .i64 (if (valL s.data.toList).isSome = true then 0 else 10)]) ∧ Below w.heap.size w w' := by
  refine (rvread_any s w hm).mono ?_
  rintro e w' ⟨⟨v, g, ha, rfl⟩, hb⟩
  rcases ha with ⟨h, rfl⟩ | ⟨h, rfl, rfl⟩ <;> rw [h] <;> exact ⟨rfl, hb⟩
set_option maxHeartbeats 2000000 in
set_option maxRecDepth 100000 in
theorem rvalue_y (k : Int) (T : ByteArray) (p : Nat) (k1 n1 : Int) (S1 : ByteArray) (hm : T.size ≤ 1000000) (hv : valL T.data.toList = some (k1, n1, S1)) (w : World) :
    Calls Tryz.prog 101 #[.int .i64 k, .string T, .int .i64 p] w fun e w' => e = .returned (.tuple #[.agg #[.int .i64 k, .string T, .int .i64 k1, .int .i64 n1, .string S1, .int .i64 p], .bool true]) ∧ Below w.heap.size w w' := by
  have hr := rvread_is T (w.alloc (.cells #[.int .i64 0, .string ⟨#[]⟩, .int .i64 0, .int .i64 0, .string ⟨#[]⟩, .int .i64 0] 107)) hm
  rw [hv] at hr
  have HR : Hid (Calls Tryz.prog 110 #[.string T] (w.alloc (.cells #[.int .i64 0, .string ⟨#[]⟩, .int .i64 0, .int .i64 0, .string ⟨#[]⟩, .int .i64 0] 107)) fun e w' => e = .returned (.tuple #[.agg #[.int .i64 k1, .int .i64 n1, .string S1], .int .i64 0]) ∧ Below (w.alloc (.cells #[.int .i64 0, .string ⟨#[]⟩, .int .i64 0, .int .i64 0, .string ⟨#[]⟩, .int .i64 0] 107)).heap.size (w.alloc (.cells #[.int .i64 0, .string ⟨#[]⟩, .int .i64 0, .int .i64 0, .string ⟨#[]⟩, .int .i64 0] 107)) w') := Lib.hid hr
  clear hr hv
  go_enter Tryz.func101, Tryz.ntmps101
  go_wp2_with (go_at_call 110; refine HR.out.mono ?_; rintro e w1 ⟨rfl, hb⟩; have HB := Lib.hid hb; obtain ⟨hc, hf⟩ := bcell hb; have hz : w.heap.size < w1.heap.size := by have := hb.size; simp at this; omega)
  have h0 : w1.heap[w.heap.size]? = some (.cells #[.int .i64 0, .string ⟨#[]⟩, .int .i64 0, .int .i64 0, .string ⟨#[]⟩, .int .i64 0] 107 (0, 0)) := (HB.out.block _ (by simp)).trans (heap_alloc_new w _)
  have h1 := row6_set (u' := .int .i64 k) (v' := .string T) (x' := .int .i64 k1) (y' := .int .i64 n1) (z' := .string S1) (q' := .int .i64 p) h0
  have h2 := (Below.heap_alloc (w := _) (.cells #[.int .i64 k1, .int .i64 n1, .string S1] 82) _ (Array.getElem?_eq_some_iff.1 h1).1).trans h1
  have q0 := cell_of_row _ _ 0 _ _ (0, 0) h2
  have q1 := cell_of_row _ _ 1 _ _ (0, 0) h2
  have q2 := cell_of_row _ _ 2 _ _ (0, 0) h2
  have q3 := cell_of_row _ _ 3 _ _ (0, 0) h2
  have q4 := cell_of_row _ _ 4 _ _ (0, 0) h2
  have q5 := cell_of_row _ _ 5 _ _ (0, 0) h2
  refine bodyPost_ret (v := .tuple #[.agg #[.int .i64 k, .string T, .int .i64 k1, .int .i64 n1, .string S1, .int .i64 p], .bool true]) (by simp [results, Tryz.results101, go_sem, q0, q1, q2, q3, q4, q5]) rfl ⟨rfl, ?_⟩
  have hB : Below w.heap.size w w1 := below_then HB.out
  refine Below.alloc ?_ (by simp; omega) _
  iterate 6 refine Below.setCell ?_ (by simp) _
  exact hB
set_option maxHeartbeats 2000000 in
set_option maxRecDepth 100000 in
theorem rvalue_n (k : Int) (T : ByteArray) (p : Nat) (hm : T.size ≤ 1000000) (hv : valL T.data.toList = none) (w : World) :
    Calls Tryz.prog 101 #[.int .i64 k, .string T, .int .i64 p] w fun e w' => e = .returned (.tuple #[.agg #[.int .i64 0, .string ⟨#[]⟩, .int .i64 0, .int .i64 0, .string ⟨#[]⟩, .int .i64 0], .bool false]) ∧ Below w.heap.size w w' := by
  have hr := rvread_is T (w.alloc (.cells #[.int .i64 0, .string ⟨#[]⟩, .int .i64 0, .int .i64 0, .string ⟨#[]⟩, .int .i64 0] 107)) hm
  rw [hv] at hr
  have HR : Hid (Calls Tryz.prog 110 #[.string T] (w.alloc (.cells #[.int .i64 0, .string ⟨#[]⟩, .int .i64 0, .int .i64 0, .string ⟨#[]⟩, .int .i64 0] 107)) fun e w' => e = .returned (.tuple #[.agg #[.int .i64 0, .int .i64 0, .string ⟨#[]⟩], .int .i64 10]) ∧ Below (w.alloc (.cells #[.int .i64 0, .string ⟨#[]⟩, .int .i64 0, .int .i64 0, .string ⟨#[]⟩, .int .i64 0] 107)).heap.size (w.alloc (.cells #[.int .i64 0, .string ⟨#[]⟩, .int .i64 0, .int .i64 0, .string ⟨#[]⟩, .int .i64 0] 107)) w') := Lib.hid hr
  clear hr hv
  go_enter Tryz.func101, Tryz.ntmps101
  go_wp2_with (go_at_call 110; refine HR.out.mono ?_; rintro e w1 ⟨rfl, hb⟩; have HB := Lib.hid hb; obtain ⟨hc, hf⟩ := bcell hb; have hz : w.heap.size < w1.heap.size := by have := hb.size; simp at this; omega)
  have h0 : w1.heap[w.heap.size]? = some (.cells #[.int .i64 0, .string ⟨#[]⟩, .int .i64 0, .int .i64 0, .string ⟨#[]⟩, .int .i64 0] 107 (0, 0)) := (HB.out.block _ (by simp)).trans (heap_alloc_new w _)
  have h1 := row6_set (u' := .int .i64 0) (v' := .string ⟨#[]⟩) (x' := .int .i64 0) (y' := .int .i64 0) (z' := .string ⟨#[]⟩) (q' := .int .i64 0) h0
  have h2 := (Below.heap_alloc (w := _) (.cells #[.int .i64 0, .int .i64 0, .string ⟨#[]⟩] 82) _ (Array.getElem?_eq_some_iff.1 h1).1).trans h1
  have q0 := cell_of_row _ _ 0 _ _ (0, 0) h2
  have q1 := cell_of_row _ _ 1 _ _ (0, 0) h2
  have q2 := cell_of_row _ _ 2 _ _ (0, 0) h2
  have q3 := cell_of_row _ _ 3 _ _ (0, 0) h2
  have q4 := cell_of_row _ _ 4 _ _ (0, 0) h2
  have q5 := cell_of_row _ _ 5 _ _ (0, 0) h2
  refine bodyPost_ret (v := .tuple #[.agg #[.int .i64 0, .string ⟨#[]⟩, .int .i64 0, .int .i64 0, .string ⟨#[]⟩, .int .i64 0], .bool false]) (by simp [results, Tryz.results101, go_sem, q0, q1, q2, q3, q4, q5]) rfl ⟨rfl, ?_⟩
  have hB : Below w.heap.size w w1 := below_then HB.out
  refine Below.alloc ?_ (by simp; omega) _
  iterate 6 refine Below.setCell ?_ (by simp) _
  exact hB
set_option maxHeartbeats 4000000 in
set_option maxRecDepth 100000 in
theorem rword_4y (s : ByteArray) (p : Nat) (w : World) (hm : s.size ≤ 1000000) (hp : p < s.size) (hc : cls s[p] = 4) (m : Nat) (hn : m = ((s.data.toList.drop (p + 1)).takeWhile isDig).length) (v : VL) (hv : valL ((s.data.toList.drop p).take (m + 1)) = some v) :
    Calls Tryz.prog 85 #[.string s, .int .i64 p] w (RkEnd s p w) := by
  have hlt' : (p : Int) < (s.size : Int) := by omega
  have HS := Lib.hid (fun w => hc ▸ rsmall_any s[p] w)
  have HR := Lib.hid (fun w => hc ▸ rgreat_any s[p] w)
  have HD := Lib.hid (fun w => hc ▸ rdigit_any s[p] w)
  have h95 : ((s[p].toNat : Int) == 95) = false := by rw [cls_95, hc]; rfl
  have hle : m ≤ s.size - (p + 1) := by rw [hn]; have := tw_le (p := isDig) (s.data.toList.drop (p + 1)); rw [List.length_drop, ← Lib.size_eq] at this; exact this
  have hsh : shapeL s[p] (s.data.toList.drop (p + 1)) = (4, m + 1) := by rw [shL_dig hc, ← hn]
  have HA := Lib.hid (rk_yes (v := v) hp hsh (by rw [mean_45 (by decide)]; exact hv))
  have HDs := Lib.hid (fun w => hn ▸ rdigits_any s (p + 1) w hm (by omega))
  obtain ⟨T, hT⟩ : ∃ T, s.extract p (p + 1 + m) = T := ⟨_, rfl⟩
  have hTd : T.data.toList = (s.data.toList.drop p).take (m + 1) := by rw [← hT, Nat.add_assoc, Nat.add_comm 1 m, cut_list]
  have HT := Lib.hid (show (⟨((s.data.toList.drop p).take (m + 1)).toArray⟩ : ByteArray) = T by rw [← hTd, of_data])
  have hTs : T.size ≤ 1000000 := by rw [← hT, ByteArray.size_extract]; omega
  have HV := Lib.hid (fun w => rvalue_y 4 T p v.1 v.2.1 v.2.2 hTs (by rw [hTd]; exact hv) w)
  have hb2 : (p : Int) + 1 + (m : Int) ≤ (s.size : Int) := by omega
  have hb3 : (0 : Int) ≤ (p : Int) + 1 + (m : Int) := by omega
  have hb4 : (p : Int) ≤ (p : Int) + 1 + (m : Int) := by omega
  have hto : ((p : Int) + 1 + (m : Int)).toNat = p + 1 + m := by omega
  clear hc hn hle hsh hTd hTs hv
  go_enter Tryz.func85, Tryz.ntmps85
  go_wp2_with (first
    | (go_at_call 97; refine (HS.out _).mono ?_; rintro e w1 ⟨rfl, rfl⟩)
    | (go_at_call 98; refine (HR.out _).mono ?_; rintro e w1 ⟨rfl, rfl⟩)
    | (go_at_call 100; refine (HD.out _).mono ?_; rintro e w1 ⟨rfl, rfl⟩)
    | (go_at_call 102; refine (HDs.out _).mono ?_; rintro e w1 ⟨rfl, rfl⟩)
    | (go_at_call 101; refine (HV.out _).mono ?_; rintro e w1 ⟨rfl, hb⟩; have HB := Lib.hid hb; obtain ⟨hc, hf⟩ := bcell hb; have hz : w.heap.size + 1 < w1.heap.size := by have := hb.size; simp at this; omega))
  have h0 : w1.heap[w.heap.size]? = some (.cells #[.int .i64 0, .string ⟨#[]⟩, .int .i64 0, .int .i64 0, .string ⟨#[]⟩, .int .i64 0] 107 (0, 0)) := (HB.out.block _ (by simp; omega)).trans ((Below.heap_alloc _ _ _ (by simp)).trans (heap_alloc_new w _))
  have h2 := row6_set (u' := .int .i64 4) (v' := .string T) (x' := .int .i64 v.1) (y' := .int .i64 v.2.1) (z' := .string v.2.2) (q' := .int .i64 p) h0
  have q0 := cell_of_row _ _ 0 _ _ (0, 0) h2
  have q1 := cell_of_row _ _ 1 _ _ (0, 0) h2
  have q2 := cell_of_row _ _ 2 _ _ (0, 0) h2
  have q3 := cell_of_row _ _ 3 _ _ (0, 0) h2
  have q4 := cell_of_row _ _ 4 _ _ (0, 0) h2
  have q5 := cell_of_row _ _ 5 _ _ (0, 0) h2
  refine bodyPost_ret (v := .tuple #[.agg #[.int .i64 4, .string T, .int .i64 v.1, .int .i64 v.2.1, .string v.2.2, .int .i64 p], .bool true]) (by simp [results, Tryz.results85, go_sem, q0, q1, q2, q3, q4, q5]) rfl ⟨⟨_, _, HA.out, ?_⟩, ?_⟩
  · unfold wordV
    simp only [HT.out]
  · have hB : Below w.heap.size w w1 := (((Below.refl _ _).alloc (Nat.le_refl _) _).alloc (by simp) _).trans (HB.out.mono (by simp; omega))
    iterate 6 refine Below.setCell ?_ (by simp) _
    exact hB
set_option maxHeartbeats 4000000 in
set_option maxRecDepth 100000 in
theorem rword_4n (s : ByteArray) (p : Nat) (w : World) (hm : s.size ≤ 1000000) (hp : p < s.size) (hc : cls s[p] = 4) (m : Nat) (hn : m = ((s.data.toList.drop (p + 1)).takeWhile isDig).length) (hv : valL ((s.data.toList.drop p).take (m + 1)) = none) :
    Calls Tryz.prog 85 #[.string s, .int .i64 p] w (RkEnd s p w) := by
  have hlt' : (p : Int) < (s.size : Int) := by omega
  have HS := Lib.hid (fun w => hc ▸ rsmall_any s[p] w)
  have HR := Lib.hid (fun w => hc ▸ rgreat_any s[p] w)
  have HD := Lib.hid (fun w => hc ▸ rdigit_any s[p] w)
  have h95 : ((s[p].toNat : Int) == 95) = false := by rw [cls_95, hc]; rfl
  have hle : m ≤ s.size - (p + 1) := by rw [hn]; have := tw_le (p := isDig) (s.data.toList.drop (p + 1)); rw [List.length_drop, ← Lib.size_eq] at this; exact this
  have hsh : shapeL s[p] (s.data.toList.drop (p + 1)) = (4, m + 1) := by rw [shL_dig hc, ← hn]
  have HA := Lib.hid (rk_no hp hsh (by rw [mean_45 (by decide)]; exact hv))
  have HDs := Lib.hid (fun w => hn ▸ rdigits_any s (p + 1) w hm (by omega))
  obtain ⟨T, hT⟩ : ∃ T, s.extract p (p + 1 + m) = T := ⟨_, rfl⟩
  have hTd : T.data.toList = (s.data.toList.drop p).take (m + 1) := by rw [← hT, Nat.add_assoc, Nat.add_comm 1 m, cut_list]
  have HT := Lib.hid (show (⟨((s.data.toList.drop p).take (m + 1)).toArray⟩ : ByteArray) = T by rw [← hTd, of_data])
  have hTs : T.size ≤ 1000000 := by rw [← hT, ByteArray.size_extract]; omega
  have HV := Lib.hid (fun w => rvalue_n 4 T p hTs (by rw [hTd]; exact hv) w)
  have hb2 : (p : Int) + 1 + (m : Int) ≤ (s.size : Int) := by omega
  have hb3 : (0 : Int) ≤ (p : Int) + 1 + (m : Int) := by omega
  have hb4 : (p : Int) ≤ (p : Int) + 1 + (m : Int) := by omega
  have hto : ((p : Int) + 1 + (m : Int)).toNat = p + 1 + m := by omega
  clear hc hn hle hsh hTd hTs hv
  go_enter Tryz.func85, Tryz.ntmps85
  go_wp2_with (first
    | (go_at_call 97; refine (HS.out _).mono ?_; rintro e w1 ⟨rfl, rfl⟩)
    | (go_at_call 98; refine (HR.out _).mono ?_; rintro e w1 ⟨rfl, rfl⟩)
    | (go_at_call 100; refine (HD.out _).mono ?_; rintro e w1 ⟨rfl, rfl⟩)
    | (go_at_call 102; refine (HDs.out _).mono ?_; rintro e w1 ⟨rfl, rfl⟩)
    | (go_at_call 101; refine (HV.out _).mono ?_; rintro e w1 ⟨rfl, hb⟩; have HB := Lib.hid hb; obtain ⟨hc, hf⟩ := bcell hb; have hz : w.heap.size + 1 < w1.heap.size := by have := hb.size; simp at this; omega))
  have h0 : w1.heap[w.heap.size]? = some (.cells #[.int .i64 0, .string ⟨#[]⟩, .int .i64 0, .int .i64 0, .string ⟨#[]⟩, .int .i64 0] 107 (0, 0)) := (HB.out.block _ (by simp; omega)).trans ((Below.heap_alloc _ _ _ (by simp)).trans (heap_alloc_new w _))
  have h2 := row6_set (u' := .int .i64 0) (v' := .string ⟨#[]⟩) (x' := .int .i64 0) (y' := .int .i64 0) (z' := .string ⟨#[]⟩) (q' := .int .i64 0) h0
  have q0 := cell_of_row _ _ 0 _ _ (0, 0) h2
  have q1 := cell_of_row _ _ 1 _ _ (0, 0) h2
  have q2 := cell_of_row _ _ 2 _ _ (0, 0) h2
  have q3 := cell_of_row _ _ 3 _ _ (0, 0) h2
  have q4 := cell_of_row _ _ 4 _ _ (0, 0) h2
  have q5 := cell_of_row _ _ 5 _ _ (0, 0) h2
  refine bodyPost_ret (v := .tuple #[.agg #[.int .i64 0, .string ⟨#[]⟩, .int .i64 0, .int .i64 0, .string ⟨#[]⟩, .int .i64 0], .bool false]) (by simp [results, Tryz.results85, go_sem, q0, q1, q2, q3, q4, q5]) rfl ⟨⟨_, _, HA.out, rfl⟩, ?_⟩
  have hB : Below w.heap.size w w1 := (((Below.refl _ _).alloc (Nat.le_refl _) _).alloc (by simp) _).trans (HB.out.mono (by simp; omega))
  iterate 6 refine Below.setCell ?_ (by simp) _
  exact hB
set_option maxHeartbeats 4000000 in
set_option maxRecDepth 100000 in
theorem rword_my (s : ByteArray) (p : Nat) (w : World) (hm : s.size ≤ 1000000) (hp : p < s.size) (h45 : s[p] = 45) (hp1 : p + 1 < s.size) (hd : isDig s[p + 1] = true) (m : Nat) (hn : m = ((s.data.toList.drop (p + 1)).takeWhile isDig).length) (v : VL) (hv : valL ((s.data.toList.drop p).take (m + 1)) = some v) :
    Calls Tryz.prog 85 #[.string s, .int .i64 p] w (RkEnd s p w) := by
  have hc : cls s[p] = 0 := by rw [h45]; rfl
  have hlt' : (p : Int) < (s.size : Int) := by omega
  have HS := Lib.hid (fun w => hc ▸ rsmall_any s[p] w)
  have HR := Lib.hid (fun w => hc ▸ rgreat_any s[p] w)
  have HD := Lib.hid (fun w => hc ▸ rdigit_any s[p] w)
  have h95 : ((s[p].toNat : Int) == 95) = false := by rw [cls_95, hc]; rfl
  have hle : m ≤ s.size - (p + 1) := by rw [hn]; have := tw_le (p := isDig) (s.data.toList.drop (p + 1)); rw [List.length_drop, ← Lib.size_eq] at this; exact this
  have hm1 : ¬ m = 0 := by
    have := tw_at hp1 isDig hd
    omega
  have hsh : shapeL s[p] (s.data.toList.drop (p + 1)) = (4, m + 1) := by
    rw [shapeL_other (by omega) (by omega) (by omega) (by omega), shO_45n h45 (by rw [← hn]; exact hm1), ← hn]
  have h45' : ((s[p].toNat : Int) == 45) = true := by rw [h45]; rfl
  have hp2 : (p : Int) + 1 < (s.size : Int) := by omega
  have hd4 : (cls s[p + 1] == 4) = true := hd
  have HD2 : Hid (∀ W, Calls Tryz.prog 100 #[.int .u8 s[p + 1].toNat] W fun e w' => e = .returned (.bool true) ∧ W = w') := Lib.hid (fun W => by have h9 := rdigit_any s[p + 1] W; rw [hd4] at h9; exact h9)
  clear hd4
  have HA := Lib.hid (rk_yes (v := v) hp hsh (by rw [mean_45 (by decide)]; exact hv))
  have HDs := Lib.hid (fun w => hn ▸ rdigits_any s (p + 1) w hm (by omega))
  obtain ⟨T, hT⟩ : ∃ T, s.extract p (p + 1 + m) = T := ⟨_, rfl⟩
  have hTd : T.data.toList = (s.data.toList.drop p).take (m + 1) := by rw [← hT, Nat.add_assoc, Nat.add_comm 1 m, cut_list]
  have HT := Lib.hid (show (⟨((s.data.toList.drop p).take (m + 1)).toArray⟩ : ByteArray) = T by rw [← hTd, of_data])
  have hTs : T.size ≤ 1000000 := by rw [← hT, ByteArray.size_extract]; omega
  have HV := Lib.hid (fun w => rvalue_y 4 T p v.1 v.2.1 v.2.2 hTs (by rw [hTd]; exact hv) w)
  have hb2 : (p : Int) + 1 + (m : Int) ≤ (s.size : Int) := by omega
  have hb3 : (0 : Int) ≤ (p : Int) + 1 + (m : Int) := by omega
  have hb4 : (p : Int) ≤ (p : Int) + 1 + (m : Int) := by omega
  have hto : ((p : Int) + 1 + (m : Int)).toNat = p + 1 + m := by omega
  clear hc hn hle hsh hTd hTs hv hm1 h45 hd
  go_enter Tryz.func85, Tryz.ntmps85
  go_wp2_with (first
    | (go_at_call 97; refine (HS.out _).mono ?_; rintro e w1 ⟨rfl, rfl⟩)
    | (go_at_call 98; refine (HR.out _).mono ?_; rintro e w1 ⟨rfl, rfl⟩)
    | (go_at_call 100; refine (HD.out _).mono ?_; rintro e w1 ⟨rfl, rfl⟩)
    | (go_at_call 100; refine (HD2.out _).mono ?_; rintro e w1 ⟨rfl, rfl⟩)
    | (go_at_call 102; refine (HDs.out _).mono ?_; rintro e w1 ⟨rfl, rfl⟩)
    | (go_at_call 101; refine (HV.out _).mono ?_; rintro e w1 ⟨rfl, hb⟩; have HB := Lib.hid hb; obtain ⟨hc, hf⟩ := bcell hb; have hz : w.heap.size + 1 < w1.heap.size := by have := hb.size; simp at this; omega))
  have h0 : w1.heap[w.heap.size]? = some (.cells #[.int .i64 0, .string ⟨#[]⟩, .int .i64 0, .int .i64 0, .string ⟨#[]⟩, .int .i64 0] 107 (0, 0)) := (HB.out.block _ (by simp; omega)).trans ((Below.heap_alloc _ _ _ (by simp)).trans (heap_alloc_new w _))
  have h2 := row6_set (u' := .int .i64 4) (v' := .string T) (x' := .int .i64 v.1) (y' := .int .i64 v.2.1) (z' := .string v.2.2) (q' := .int .i64 p) h0
  have q0 := cell_of_row _ _ 0 _ _ (0, 0) h2
  have q1 := cell_of_row _ _ 1 _ _ (0, 0) h2
  have q2 := cell_of_row _ _ 2 _ _ (0, 0) h2
  have q3 := cell_of_row _ _ 3 _ _ (0, 0) h2
  have q4 := cell_of_row _ _ 4 _ _ (0, 0) h2
  have q5 := cell_of_row _ _ 5 _ _ (0, 0) h2
  refine bodyPost_ret (v := .tuple #[.agg #[.int .i64 4, .string T, .int .i64 v.1, .int .i64 v.2.1, .string v.2.2, .int .i64 p], .bool true]) (by simp [results, Tryz.results85, go_sem, q0, q1, q2, q3, q4, q5]) rfl ⟨⟨_, _, HA.out, ?_⟩, ?_⟩
  · unfold wordV
    simp only [HT.out]
  · have hB : Below w.heap.size w w1 := (((Below.refl _ _).alloc (Nat.le_refl _) _).alloc (by simp) _).trans (HB.out.mono (by simp; omega))
    iterate 6 refine Below.setCell ?_ (by simp) _
    exact hB
set_option maxHeartbeats 4000000 in
set_option maxRecDepth 100000 in
theorem rword_mn (s : ByteArray) (p : Nat) (w : World) (hm : s.size ≤ 1000000) (hp : p < s.size) (h45 : s[p] = 45) (hp1 : p + 1 < s.size) (hd : isDig s[p + 1] = true) (m : Nat) (hn : m = ((s.data.toList.drop (p + 1)).takeWhile isDig).length) (hv : valL ((s.data.toList.drop p).take (m + 1)) = none) :
    Calls Tryz.prog 85 #[.string s, .int .i64 p] w (RkEnd s p w) := by
  have hc : cls s[p] = 0 := by rw [h45]; rfl
  have hlt' : (p : Int) < (s.size : Int) := by omega
  have HS := Lib.hid (fun w => hc ▸ rsmall_any s[p] w)
  have HR := Lib.hid (fun w => hc ▸ rgreat_any s[p] w)
  have HD := Lib.hid (fun w => hc ▸ rdigit_any s[p] w)
  have h95 : ((s[p].toNat : Int) == 95) = false := by rw [cls_95, hc]; rfl
  have hle : m ≤ s.size - (p + 1) := by rw [hn]; have := tw_le (p := isDig) (s.data.toList.drop (p + 1)); rw [List.length_drop, ← Lib.size_eq] at this; exact this
  have hm1 : ¬ m = 0 := by
    have := tw_at hp1 isDig hd
    omega
  have hsh : shapeL s[p] (s.data.toList.drop (p + 1)) = (4, m + 1) := by
    rw [shapeL_other (by omega) (by omega) (by omega) (by omega), shO_45n h45 (by rw [← hn]; exact hm1), ← hn]
  have h45' : ((s[p].toNat : Int) == 45) = true := by rw [h45]; rfl
  have hp2 : (p : Int) + 1 < (s.size : Int) := by omega
  have hd4 : (cls s[p + 1] == 4) = true := hd
  have HD2 : Hid (∀ W, Calls Tryz.prog 100 #[.int .u8 s[p + 1].toNat] W fun e w' => e = .returned (.bool true) ∧ W = w') := Lib.hid (fun W => by have h9 := rdigit_any s[p + 1] W; rw [hd4] at h9; exact h9)
  clear hd4
  have HA := Lib.hid (rk_no hp hsh (by rw [mean_45 (by decide)]; exact hv))
  have HDs := Lib.hid (fun w => hn ▸ rdigits_any s (p + 1) w hm (by omega))
  obtain ⟨T, hT⟩ : ∃ T, s.extract p (p + 1 + m) = T := ⟨_, rfl⟩
  have hTd : T.data.toList = (s.data.toList.drop p).take (m + 1) := by rw [← hT, Nat.add_assoc, Nat.add_comm 1 m, cut_list]
  have HT := Lib.hid (show (⟨((s.data.toList.drop p).take (m + 1)).toArray⟩ : ByteArray) = T by rw [← hTd, of_data])
  have hTs : T.size ≤ 1000000 := by rw [← hT, ByteArray.size_extract]; omega
  have HV := Lib.hid (fun w => rvalue_n 4 T p hTs (by rw [hTd]; exact hv) w)
  have hb2 : (p : Int) + 1 + (m : Int) ≤ (s.size : Int) := by omega
  have hb3 : (0 : Int) ≤ (p : Int) + 1 + (m : Int) := by omega
  have hb4 : (p : Int) ≤ (p : Int) + 1 + (m : Int) := by omega
  have hto : ((p : Int) + 1 + (m : Int)).toNat = p + 1 + m := by omega
  clear hc hn hle hsh hTd hTs hv hm1 h45 hd
  go_enter Tryz.func85, Tryz.ntmps85
  go_wp2_with (first
    | (go_at_call 97; refine (HS.out _).mono ?_; rintro e w1 ⟨rfl, rfl⟩)
    | (go_at_call 98; refine (HR.out _).mono ?_; rintro e w1 ⟨rfl, rfl⟩)
    | (go_at_call 100; refine (HD.out _).mono ?_; rintro e w1 ⟨rfl, rfl⟩)
    | (go_at_call 100; refine (HD2.out _).mono ?_; rintro e w1 ⟨rfl, rfl⟩)
    | (go_at_call 102; refine (HDs.out _).mono ?_; rintro e w1 ⟨rfl, rfl⟩)
    | (go_at_call 101; refine (HV.out _).mono ?_; rintro e w1 ⟨rfl, hb⟩; have HB := Lib.hid hb; obtain ⟨hc, hf⟩ := bcell hb; have hz : w.heap.size + 1 < w1.heap.size := by have := hb.size; simp at this; omega))
  have h0 : w1.heap[w.heap.size]? = some (.cells #[.int .i64 0, .string ⟨#[]⟩, .int .i64 0, .int .i64 0, .string ⟨#[]⟩, .int .i64 0] 107 (0, 0)) := (HB.out.block _ (by simp; omega)).trans ((Below.heap_alloc _ _ _ (by simp)).trans (heap_alloc_new w _))
  have h2 := row6_set (u' := .int .i64 0) (v' := .string ⟨#[]⟩) (x' := .int .i64 0) (y' := .int .i64 0) (z' := .string ⟨#[]⟩) (q' := .int .i64 0) h0
  have q0 := cell_of_row _ _ 0 _ _ (0, 0) h2
  have q1 := cell_of_row _ _ 1 _ _ (0, 0) h2
  have q2 := cell_of_row _ _ 2 _ _ (0, 0) h2
  have q3 := cell_of_row _ _ 3 _ _ (0, 0) h2
  have q4 := cell_of_row _ _ 4 _ _ (0, 0) h2
  have q5 := cell_of_row _ _ 5 _ _ (0, 0) h2
  refine bodyPost_ret (v := .tuple #[.agg #[.int .i64 0, .string ⟨#[]⟩, .int .i64 0, .int .i64 0, .string ⟨#[]⟩, .int .i64 0], .bool false]) (by simp [results, Tryz.results85, go_sem, q0, q1, q2, q3, q4, q5]) rfl ⟨⟨_, _, HA.out, rfl⟩, ?_⟩
  have hB : Below w.heap.size w w1 := (((Below.refl _ _).alloc (Nat.le_refl _) _).alloc (by simp) _).trans (HB.out.mono (by simp; omega))
  iterate 6 refine Below.setCell ?_ (by simp) _
  exact hB
set_option maxHeartbeats 4000000 in
set_option maxRecDepth 100000 in
theorem rword_qy (s : ByteArray) (p : Nat) (w : World) (hm : s.size ≤ 1000000) (hp : p < s.size) (h34 : s[p] = 34) (m : Nat) (hq : quoEnd (s.data.toList.drop (p + 1)) = some m) (v : VL) (hv : valL ((s.data.toList.drop p).take (m + 1)) = some v) :
    Calls Tryz.prog 85 #[.string s, .int .i64 p] w (RkEnd s p w) := by
  have hc : cls s[p] = 0 := by rw [h34]; rfl
  have hlt' : (p : Int) < (s.size : Int) := by omega
  have HS := Lib.hid (fun w => hc ▸ rsmall_any s[p] w)
  have HR := Lib.hid (fun w => hc ▸ rgreat_any s[p] w)
  have HD := Lib.hid (fun w => hc ▸ rdigit_any s[p] w)
  have h95 : ((s[p].toNat : Int) == 95) = false := by rw [cls_95, hc]; rfl
  have h34' : ((s[p].toNat : Int) == 34) = true := by rw [h34]; rfl
  have h45 : ((s[p].toNat : Int) == 45) = false := by rw [h34]; rfl
  have hsh0 := shO_34 (r := s.data.toList.drop (p + 1)) h34
  rw [← shapeL_other (by omega) (by omega) (by omega) (by omega)] at hsh0
  have hqn : quoN (s.data.toList.drop (p + 1)) = m := by unfold quoN; rw [hq]; rfl
  rw [hqn] at hsh0
  have hle : m ≤ s.size - (p + 1) := by have := (quo_le _ _ hq).1; rw [List.length_drop, ← Lib.size_eq] at this; exact this
  have HA := Lib.hid (rk_yes (v := v) hp hsh0 (by rw [mean_45 (by decide)]; exact hv))
  have hqi : quoI (s.data.toList.drop (p + 1)) (p + 1) = ((p + 1 + m : Nat) : Int) := by unfold quoI; rw [hq]
  have HQ := Lib.hid (fun w => hqi ▸ rquoted_any s p w hm hp)
  obtain ⟨T, hT⟩ : ∃ T, s.extract p (p + 1 + m) = T := ⟨_, rfl⟩
  have hTd : T.data.toList = (s.data.toList.drop p).take (m + 1) := by rw [← hT, Nat.add_assoc, Nat.add_comm 1 m, cut_list]
  have HT := Lib.hid (show (⟨((s.data.toList.drop p).take (m + 1)).toArray⟩ : ByteArray) = T by rw [← hTd, of_data])
  have hTs : T.size ≤ 1000000 := by rw [← hT, ByteArray.size_extract]; omega
  have HV := Lib.hid (fun w => rvalue_y 5 T p v.1 v.2.1 v.2.2 hTs (by rw [hTd]; exact hv) w)
  have hb2 : (p : Int) + 1 + (m : Int) ≤ (s.size : Int) := by omega
  have hb3 : ¬ (p : Int) + 1 + (m : Int) < 0 := by omega
  have hb5 : (0 : Int) ≤ (p : Int) + 1 + (m : Int) := by omega
  have hb4 : (p : Int) ≤ (p : Int) + 1 + (m : Int) := by omega
  have hto : ((p : Int) + 1 + (m : Int)).toNat = p + 1 + m := by omega
  clear hc hq hle hsh0 hTd hTs hv hqn hqi h34
  go_enter Tryz.func85, Tryz.ntmps85
  go_wp2_with (first
    | (go_at_call 97; refine (HS.out _).mono ?_; rintro e w1 ⟨rfl, rfl⟩)
    | (go_at_call 98; refine (HR.out _).mono ?_; rintro e w1 ⟨rfl, rfl⟩)
    | (go_at_call 100; refine (HD.out _).mono ?_; rintro e w1 ⟨rfl, rfl⟩)
    | (go_at_call 103; refine (HQ.out _).mono ?_; rintro e w1 ⟨rfl, rfl⟩)
    | (go_at_call 101; refine (HV.out _).mono ?_; rintro e w1 ⟨rfl, hb⟩; have HB := Lib.hid hb; obtain ⟨hc, hf⟩ := bcell hb; have hz : w.heap.size + 1 < w1.heap.size := by have := hb.size; simp at this; omega))
  have h0 : w1.heap[w.heap.size]? = some (.cells #[.int .i64 0, .string ⟨#[]⟩, .int .i64 0, .int .i64 0, .string ⟨#[]⟩, .int .i64 0] 107 (0, 0)) := (HB.out.block _ (by simp; omega)).trans ((Below.heap_alloc _ _ _ (by simp)).trans (heap_alloc_new w _))
  have h2 := row6_set (u' := .int .i64 5) (v' := .string T) (x' := .int .i64 v.1) (y' := .int .i64 v.2.1) (z' := .string v.2.2) (q' := .int .i64 p) h0
  have q0 := cell_of_row _ _ 0 _ _ (0, 0) h2
  have q1 := cell_of_row _ _ 1 _ _ (0, 0) h2
  have q2 := cell_of_row _ _ 2 _ _ (0, 0) h2
  have q3 := cell_of_row _ _ 3 _ _ (0, 0) h2
  have q4 := cell_of_row _ _ 4 _ _ (0, 0) h2
  have q5 := cell_of_row _ _ 5 _ _ (0, 0) h2
  refine bodyPost_ret (v := .tuple #[.agg #[.int .i64 5, .string T, .int .i64 v.1, .int .i64 v.2.1, .string v.2.2, .int .i64 p], .bool true]) (by simp [results, Tryz.results85, go_sem, q0, q1, q2, q3, q4, q5]) rfl ⟨⟨_, _, HA.out, ?_⟩, ?_⟩
  · unfold wordV
    simp only [HT.out]
  · have hB : Below w.heap.size w w1 := (((Below.refl _ _).alloc (Nat.le_refl _) _).alloc (by simp) _).trans (HB.out.mono (by simp; omega))
    iterate 6 refine Below.setCell ?_ (by simp) _
    exact hB
set_option maxHeartbeats 4000000 in
set_option maxRecDepth 100000 in
theorem rword_qn (s : ByteArray) (p : Nat) (w : World) (hm : s.size ≤ 1000000) (hp : p < s.size) (h34 : s[p] = 34) (m : Nat) (hq : quoEnd (s.data.toList.drop (p + 1)) = some m) (hv : valL ((s.data.toList.drop p).take (m + 1)) = none) :
    Calls Tryz.prog 85 #[.string s, .int .i64 p] w (RkEnd s p w) := by
  have hc : cls s[p] = 0 := by rw [h34]; rfl
  have hlt' : (p : Int) < (s.size : Int) := by omega
  have HS := Lib.hid (fun w => hc ▸ rsmall_any s[p] w)
  have HR := Lib.hid (fun w => hc ▸ rgreat_any s[p] w)
  have HD := Lib.hid (fun w => hc ▸ rdigit_any s[p] w)
  have h95 : ((s[p].toNat : Int) == 95) = false := by rw [cls_95, hc]; rfl
  have h34' : ((s[p].toNat : Int) == 34) = true := by rw [h34]; rfl
  have h45 : ((s[p].toNat : Int) == 45) = false := by rw [h34]; rfl
  have hsh0 := shO_34 (r := s.data.toList.drop (p + 1)) h34
  rw [← shapeL_other (by omega) (by omega) (by omega) (by omega)] at hsh0
  have hqn : quoN (s.data.toList.drop (p + 1)) = m := by unfold quoN; rw [hq]; rfl
  rw [hqn] at hsh0
  have hle : m ≤ s.size - (p + 1) := by have := (quo_le _ _ hq).1; rw [List.length_drop, ← Lib.size_eq] at this; exact this
  have HA := Lib.hid (rk_no hp hsh0 (by rw [mean_45 (by decide)]; exact hv))
  have hqi : quoI (s.data.toList.drop (p + 1)) (p + 1) = ((p + 1 + m : Nat) : Int) := by unfold quoI; rw [hq]
  have HQ := Lib.hid (fun w => hqi ▸ rquoted_any s p w hm hp)
  obtain ⟨T, hT⟩ : ∃ T, s.extract p (p + 1 + m) = T := ⟨_, rfl⟩
  have hTd : T.data.toList = (s.data.toList.drop p).take (m + 1) := by rw [← hT, Nat.add_assoc, Nat.add_comm 1 m, cut_list]
  have HT := Lib.hid (show (⟨((s.data.toList.drop p).take (m + 1)).toArray⟩ : ByteArray) = T by rw [← hTd, of_data])
  have hTs : T.size ≤ 1000000 := by rw [← hT, ByteArray.size_extract]; omega
  have HV := Lib.hid (fun w => rvalue_n 5 T p hTs (by rw [hTd]; exact hv) w)
  have hb2 : (p : Int) + 1 + (m : Int) ≤ (s.size : Int) := by omega
  have hb3 : ¬ (p : Int) + 1 + (m : Int) < 0 := by omega
  have hb5 : (0 : Int) ≤ (p : Int) + 1 + (m : Int) := by omega
  have hb4 : (p : Int) ≤ (p : Int) + 1 + (m : Int) := by omega
  have hto : ((p : Int) + 1 + (m : Int)).toNat = p + 1 + m := by omega
  clear hc hq hle hsh0 hTd hTs hv hqn hqi h34
  go_enter Tryz.func85, Tryz.ntmps85
  go_wp2_with (first
    | (go_at_call 97; refine (HS.out _).mono ?_; rintro e w1 ⟨rfl, rfl⟩)
    | (go_at_call 98; refine (HR.out _).mono ?_; rintro e w1 ⟨rfl, rfl⟩)
    | (go_at_call 100; refine (HD.out _).mono ?_; rintro e w1 ⟨rfl, rfl⟩)
    | (go_at_call 103; refine (HQ.out _).mono ?_; rintro e w1 ⟨rfl, rfl⟩)
    | (go_at_call 101; refine (HV.out _).mono ?_; rintro e w1 ⟨rfl, hb⟩; have HB := Lib.hid hb; obtain ⟨hc, hf⟩ := bcell hb; have hz : w.heap.size + 1 < w1.heap.size := by have := hb.size; simp at this; omega))
  have h0 : w1.heap[w.heap.size]? = some (.cells #[.int .i64 0, .string ⟨#[]⟩, .int .i64 0, .int .i64 0, .string ⟨#[]⟩, .int .i64 0] 107 (0, 0)) := (HB.out.block _ (by simp; omega)).trans ((Below.heap_alloc _ _ _ (by simp)).trans (heap_alloc_new w _))
  have h2 := row6_set (u' := .int .i64 0) (v' := .string ⟨#[]⟩) (x' := .int .i64 0) (y' := .int .i64 0) (z' := .string ⟨#[]⟩) (q' := .int .i64 0) h0
  have q0 := cell_of_row _ _ 0 _ _ (0, 0) h2
  have q1 := cell_of_row _ _ 1 _ _ (0, 0) h2
  have q2 := cell_of_row _ _ 2 _ _ (0, 0) h2
  have q3 := cell_of_row _ _ 3 _ _ (0, 0) h2
  have q4 := cell_of_row _ _ 4 _ _ (0, 0) h2
  have q5 := cell_of_row _ _ 5 _ _ (0, 0) h2
  refine bodyPost_ret (v := .tuple #[.agg #[.int .i64 0, .string ⟨#[]⟩, .int .i64 0, .int .i64 0, .string ⟨#[]⟩, .int .i64 0], .bool false]) (by simp [results, Tryz.results85, go_sem, q0, q1, q2, q3, q4, q5]) rfl ⟨⟨_, _, HA.out, rfl⟩, ?_⟩
  have hB : Below w.heap.size w w1 := (((Below.refl _ _).alloc (Nat.le_refl _) _).alloc (by simp) _).trans (HB.out.mono (by simp; omega))
  iterate 6 refine Below.setCell ?_ (by simp) _
  exact hB
set_option maxHeartbeats 4000000 in
set_option maxRecDepth 100000 in
theorem rword_qo (s : ByteArray) (p : Nat) (w : World) (hm : s.size ≤ 1000000) (hp : p < s.size) (h34 : s[p] = 34) (hq : quoEnd (s.data.toList.drop (p + 1)) = none) :
    Calls Tryz.prog 85 #[.string s, .int .i64 p] w (RkEnd s p w) := by
  have hc : cls s[p] = 0 := by rw [h34]; rfl
  have hlt' : (p : Int) < (s.size : Int) := by omega
  have HS := Lib.hid (fun w => hc ▸ rsmall_any s[p] w)
  have HR := Lib.hid (fun w => hc ▸ rgreat_any s[p] w)
  have HD := Lib.hid (fun w => hc ▸ rdigit_any s[p] w)
  have h95 : ((s[p].toNat : Int) == 95) = false := by rw [cls_95, hc]; rfl
  have h34' : ((s[p].toNat : Int) == 34) = true := by rw [h34]; rfl
  have h45 : ((s[p].toNat : Int) == 45) = false := by rw [h34]; rfl
  have hsh0 := shO_34 (r := s.data.toList.drop (p + 1)) h34
  rw [← shapeL_other (by omega) (by omega) (by omega) (by omega)] at hsh0
  have hqn : quoN (s.data.toList.drop (p + 1)) = (s.data.toList.drop (p + 1)).length := by unfold quoN; rw [hq]; rfl
  rw [hqn] at hsh0
  have HA := Lib.hid (rk_no hp hsh0 (by
    rw [mean_45 (by decide), lx_at s p hp, List.take_of_length_le (by simp), h34]
    exact valL_open _ hq))
  have hqi : quoI (s.data.toList.drop (p + 1)) (p + 1) = -1 := by unfold quoI; rw [hq]
  have HQ := Lib.hid (fun w => hqi ▸ rquoted_any s p w hm hp)
  clear hc hq hsh0 hqn hqi h34
  go_enter Tryz.func85, Tryz.ntmps85
  go_wp2_with (first
    | (go_at_call 97; refine (HS.out _).mono ?_; rintro e w1 ⟨rfl, rfl⟩)
    | (go_at_call 98; refine (HR.out _).mono ?_; rintro e w1 ⟨rfl, rfl⟩)
    | (go_at_call 100; refine (HD.out _).mono ?_; rintro e w1 ⟨rfl, rfl⟩)
    | (go_at_call 103; refine (HQ.out _).mono ?_; rintro e w1 ⟨rfl, rfl⟩))
  refine bodyPost_ret (v := .tuple #[.agg #[.int .i64 0, .string ⟨#[]⟩, .int .i64 0, .int .i64 0, .string ⟨#[]⟩, .int .i64 0], .bool false]) (by simp [results, Tryz.results85, go_sem]) rfl ⟨⟨_, _, HA.out, rfl⟩, ?_⟩
  exact ((Below.refl _ _).alloc (Nat.le_refl _) _).alloc (by simp) _
set_option maxHeartbeats 4000000 in
set_option maxRecDepth 100000 in
theorem rword_koy (s : ByteArray) (p : Nat) (w : World) (hm : s.size ≤ 1000000) (hp : p < s.size) (hc : cls s[p] = 0) (h34 : s[p] ≠ 34) (h45 : s[p] ≠ 45) (m : Nat) (hn : m = markN s[p] (s.data.toList.drop (p + 1))) (h0 : ¬ m = 0) :
    Calls Tryz.prog 85 #[.string s, .int .i64 p] w (RkEnd s p w) := by
  have hlt' : (p : Int) < (s.size : Int) := by omega
  have HS := Lib.hid (fun w => hc ▸ rsmall_any s[p] w)
  have HR := Lib.hid (fun w => hc ▸ rgreat_any s[p] w)
  have HD := Lib.hid (fun w => hc ▸ rdigit_any s[p] w)
  have h95 : ((s[p].toNat : Int) == 95) = false := by rw [cls_95, hc]; rfl
  have h34' : ((s[p].toNat : Int) == 34) = false := beq_eq_false_iff_ne.2 (fun e => h34 (UInt8.toNat_inj.1 (by simpa using (show s[p].toNat = 34 by omega))))
  have h45' : ((s[p].toNat : Int) == 45) = false := beq_eq_false_iff_ne.2 (fun e => h45 (UInt8.toNat_inj.1 (by simpa using (show s[p].toNat = 45 by omega))))
  have hsh := shape_markR (r := s.data.toList.drop (p + 1)) hc h34 (fun e => absurd e h45)
  rw [← hn] at hsh
  have hsl := shape_le s[p] (s.data.toList.drop (p + 1))
  rw [hsh, List.length_drop, ← Lib.size_eq] at hsl
  simp only at hsl
  have hm2 : m ≤ 2 := by rw [hn]; unfold markN; (repeat' split) <;> omega
  have HM := Lib.hid (fun w => hn ▸ rmark_any s p w hm hp)
  rw [if_neg h0] at hsh
  have HA := Lib.hid (rk_yes (v := zeroL) hp hsh mean_6)
  obtain ⟨T, hT⟩ : ∃ T, s.extract p (p + m) = T := ⟨_, rfl⟩
  have HT := Lib.hid (show (⟨((s.data.toList.drop p).take m).toArray⟩ : ByteArray) = T by rw [← hT, cut_list])
  have hTs : T.size = m := by rw [← hT, ByteArray.size_extract]; omega
  have h64' : (m : Int) ≤ 64 := by omega
  have hne2 : ((p : Int) + (m : Int) == (p : Int)) = false := by rw [beq_eq_false_iff_ne]; omega
  have hb2 : (p : Int) + (m : Int) ≤ (s.size : Int) := by omega
  have hb3 : (0 : Int) ≤ (p : Int) + (m : Int) := by omega
  have hb4 : (p : Int) ≤ (p : Int) + (m : Int) := by omega
  have hto : ((p : Int) + (m : Int)).toNat = p + m := by omega
  clear hc hn hsh hsl hm2 h34 h45 h0
  go_enter Tryz.func85, Tryz.ntmps85
  go_wp2_with (first
    | (go_at_call 97; refine (HS.out _).mono ?_; rintro e w1 ⟨rfl, rfl⟩)
    | (go_at_call 98; refine (HR.out _).mono ?_; rintro e w1 ⟨rfl, rfl⟩)
    | (go_at_call 100; refine (HD.out _).mono ?_; rintro e w1 ⟨rfl, rfl⟩)
    | (go_at_call 104; refine (HM.out _).mono ?_; rintro e w1 ⟨rfl, rfl⟩))
  refine bodyPost_ret (v := .tuple #[.agg #[.int .i64 6, .string T, .int .i64 0, .int .i64 0, .string ⟨#[]⟩, .int .i64 p], .bool true]) (by simp [results, Tryz.results85, go_sem]) rfl ⟨⟨_, _, HA.out, ?_⟩, ?_⟩
  · unfold wordV
    simp only [HT.out]
    rfl
  · exact ((Below.refl _ _).alloc (Nat.le_refl _) _).alloc (by simp) _
set_option maxHeartbeats 4000000 in
set_option maxRecDepth 100000 in
theorem rword_kon (s : ByteArray) (p : Nat) (w : World) (hm : s.size ≤ 1000000) (hp : p < s.size) (hc : cls s[p] = 0) (h34 : s[p] ≠ 34) (h45 : s[p] ≠ 45) (m : Nat) (hn : m = markN s[p] (s.data.toList.drop (p + 1))) (h0 : m = 0) :
    Calls Tryz.prog 85 #[.string s, .int .i64 p] w (RkEnd s p w) := by
  have hlt' : (p : Int) < (s.size : Int) := by omega
  have HS := Lib.hid (fun w => hc ▸ rsmall_any s[p] w)
  have HR := Lib.hid (fun w => hc ▸ rgreat_any s[p] w)
  have HD := Lib.hid (fun w => hc ▸ rdigit_any s[p] w)
  have h95 : ((s[p].toNat : Int) == 95) = false := by rw [cls_95, hc]; rfl
  have h34' : ((s[p].toNat : Int) == 34) = false := beq_eq_false_iff_ne.2 (fun e => h34 (UInt8.toNat_inj.1 (by simpa using (show s[p].toNat = 34 by omega))))
  have h45' : ((s[p].toNat : Int) == 45) = false := beq_eq_false_iff_ne.2 (fun e => h45 (UInt8.toNat_inj.1 (by simpa using (show s[p].toNat = 45 by omega))))
  have hsh := shape_markR (r := s.data.toList.drop (p + 1)) hc h34 (fun e => absurd e h45)
  rw [← hn] at hsh
  have hsl := shape_le s[p] (s.data.toList.drop (p + 1))
  rw [hsh, List.length_drop, ← Lib.size_eq] at hsl
  simp only at hsl
  have hm2 : m ≤ 2 := by rw [hn]; unfold markN; (repeat' split) <;> omega
  have HM := Lib.hid (fun w => hn ▸ rmark_any s p w hm hp)
  rw [if_pos h0] at hsh
  have HA := Lib.hid (rk_no hp hsh mean_0)
  obtain ⟨T, hT⟩ : ∃ T, s.extract p (p + m) = T := ⟨_, rfl⟩
  have hne2 : ((p : Int) + (m : Int) == (p : Int)) = true := by rw [h0]; simp
  have hb2 : (p : Int) + (m : Int) ≤ (s.size : Int) := by omega
  have hb3 : (0 : Int) ≤ (p : Int) + (m : Int) := by omega
  have hb4 : (p : Int) ≤ (p : Int) + (m : Int) := by omega
  have hto : ((p : Int) + (m : Int)).toNat = p + m := by omega
  clear hc hn hsh hsl hm2 h34 h45 h0
  go_enter Tryz.func85, Tryz.ntmps85
  go_wp2_with (first
    | (go_at_call 97; refine (HS.out _).mono ?_; rintro e w1 ⟨rfl, rfl⟩)
    | (go_at_call 98; refine (HR.out _).mono ?_; rintro e w1 ⟨rfl, rfl⟩)
    | (go_at_call 100; refine (HD.out _).mono ?_; rintro e w1 ⟨rfl, rfl⟩)
    | (go_at_call 104; refine (HM.out _).mono ?_; rintro e w1 ⟨rfl, rfl⟩))
  refine bodyPost_ret (v := .tuple #[.agg #[.int .i64 0, .string ⟨#[]⟩, .int .i64 0, .int .i64 0, .string ⟨#[]⟩, .int .i64 0], .bool false]) (by simp [results, Tryz.results85, go_sem]) rfl ⟨⟨_, _, HA.out, rfl⟩, ?_⟩
  exact ((Below.refl _ _).alloc (Nat.le_refl _) _).alloc (by simp) _
set_option maxHeartbeats 4000000 in
set_option maxRecDepth 100000 in
theorem rword_key (s : ByteArray) (p : Nat) (w : World) (hm : s.size ≤ 1000000) (hp : p < s.size) (h45 : s[p] = 45) (hp1 : ¬ p + 1 < s.size) (m : Nat) (hn : m = markN s[p] (s.data.toList.drop (p + 1))) (h0 : ¬ m = 0) :
    Calls Tryz.prog 85 #[.string s, .int .i64 p] w (RkEnd s p w) := by
  have hc : cls s[p] = 0 := by rw [h45]; rfl
  have h34 : s[p] ≠ 34 := by rw [h45]; decide
  have hlt' : (p : Int) < (s.size : Int) := by omega
  have HS := Lib.hid (fun w => hc ▸ rsmall_any s[p] w)
  have HR := Lib.hid (fun w => hc ▸ rgreat_any s[p] w)
  have HD := Lib.hid (fun w => hc ▸ rdigit_any s[p] w)
  have h95 : ((s[p].toNat : Int) == 95) = false := by rw [cls_95, hc]; rfl
  have h34' : ((s[p].toNat : Int) == 34) = false := beq_eq_false_iff_ne.2 (fun e => h34 (UInt8.toNat_inj.1 (by simpa using (show s[p].toNat = 34 by omega))))
  have h45' : ((s[p].toNat : Int) == 45) = true := by rw [h45]; rfl
  have hp2 : ¬ (p : Int) + 1 < (s.size : Int) := by omega
  have hsh := shape_markR (r := s.data.toList.drop (p + 1)) hc h34 (fun _ => tw_none (by omega))
  rw [← hn] at hsh
  have hsl := shape_le s[p] (s.data.toList.drop (p + 1))
  rw [hsh, List.length_drop, ← Lib.size_eq] at hsl
  simp only at hsl
  have hm2 : m ≤ 2 := by rw [hn]; unfold markN; (repeat' split) <;> omega
  have HM := Lib.hid (fun w => hn ▸ rmark_any s p w hm hp)
  rw [if_neg h0] at hsh
  have HA := Lib.hid (rk_yes (v := zeroL) hp hsh mean_6)
  obtain ⟨T, hT⟩ : ∃ T, s.extract p (p + m) = T := ⟨_, rfl⟩
  have HT := Lib.hid (show (⟨((s.data.toList.drop p).take m).toArray⟩ : ByteArray) = T by rw [← hT, cut_list])
  have hTs : T.size = m := by rw [← hT, ByteArray.size_extract]; omega
  have h64' : (m : Int) ≤ 64 := by omega
  have hne2 : ((p : Int) + (m : Int) == (p : Int)) = false := by rw [beq_eq_false_iff_ne]; omega
  have hb2 : (p : Int) + (m : Int) ≤ (s.size : Int) := by omega
  have hb3 : (0 : Int) ≤ (p : Int) + (m : Int) := by omega
  have hb4 : (p : Int) ≤ (p : Int) + (m : Int) := by omega
  have hto : ((p : Int) + (m : Int)).toNat = p + m := by omega
  clear hc hn hsh hsl hm2 h34 h45 h0
  go_enter Tryz.func85, Tryz.ntmps85
  go_wp2_with (first
    | (go_at_call 97; refine (HS.out _).mono ?_; rintro e w1 ⟨rfl, rfl⟩)
    | (go_at_call 98; refine (HR.out _).mono ?_; rintro e w1 ⟨rfl, rfl⟩)
    | (go_at_call 100; refine (HD.out _).mono ?_; rintro e w1 ⟨rfl, rfl⟩)
    | (go_at_call 104; refine (HM.out _).mono ?_; rintro e w1 ⟨rfl, rfl⟩))
  refine bodyPost_ret (v := .tuple #[.agg #[.int .i64 6, .string T, .int .i64 0, .int .i64 0, .string ⟨#[]⟩, .int .i64 p], .bool true]) (by simp [results, Tryz.results85, go_sem]) rfl ⟨⟨_, _, HA.out, ?_⟩, ?_⟩
  · unfold wordV
    simp only [HT.out]
    rfl
  · exact ((Below.refl _ _).alloc (Nat.le_refl _) _).alloc (by simp) _
set_option maxHeartbeats 4000000 in
set_option maxRecDepth 100000 in
theorem rword_kdy (s : ByteArray) (p : Nat) (w : World) (hm : s.size ≤ 1000000) (hp : p < s.size) (h45 : s[p] = 45) (hp1 : p + 1 < s.size) (hd : isDig s[p + 1] = false) (m : Nat) (hn : m = markN s[p] (s.data.toList.drop (p + 1))) (h0 : ¬ m = 0) :
    Calls Tryz.prog 85 #[.string s, .int .i64 p] w (RkEnd s p w) := by
  have hc : cls s[p] = 0 := by rw [h45]; rfl
  have h34 : s[p] ≠ 34 := by rw [h45]; decide
  have hlt' : (p : Int) < (s.size : Int) := by omega
  have HS := Lib.hid (fun w => hc ▸ rsmall_any s[p] w)
  have HR := Lib.hid (fun w => hc ▸ rgreat_any s[p] w)
  have HD := Lib.hid (fun w => hc ▸ rdigit_any s[p] w)
  have h95 : ((s[p].toNat : Int) == 95) = false := by rw [cls_95, hc]; rfl
  have h34' : ((s[p].toNat : Int) == 34) = false := beq_eq_false_iff_ne.2 (fun e => h34 (UInt8.toNat_inj.1 (by simpa using (show s[p].toNat = 34 by omega))))
  have h45' : ((s[p].toNat : Int) == 45) = true := by rw [h45]; rfl
  have hp2 : (p : Int) + 1 < (s.size : Int) := by omega
  have hd4 : (cls s[p + 1] == 4) = false := hd
  have HD2 : Hid (∀ W, Calls Tryz.prog 100 #[.int .u8 s[p + 1].toNat] W fun e w' => e = .returned (.bool false) ∧ W = w') := Lib.hid (fun W => by have h9 := rdigit_any s[p + 1] W; rw [hd4] at h9; exact h9)
  clear hd4
  have hsh := shape_markR (r := s.data.toList.drop (p + 1)) hc h34 (fun _ => by rw [tw_step hp1, if_neg (by rw [hd]; decide)])
  rw [← hn] at hsh
  have hsl := shape_le s[p] (s.data.toList.drop (p + 1))
  rw [hsh, List.length_drop, ← Lib.size_eq] at hsl
  simp only at hsl
  have hm2 : m ≤ 2 := by rw [hn]; unfold markN; (repeat' split) <;> omega
  have HM := Lib.hid (fun w => hn ▸ rmark_any s p w hm hp)
  rw [if_neg h0] at hsh
  have HA := Lib.hid (rk_yes (v := zeroL) hp hsh mean_6)
  obtain ⟨T, hT⟩ : ∃ T, s.extract p (p + m) = T := ⟨_, rfl⟩
  have HT := Lib.hid (show (⟨((s.data.toList.drop p).take m).toArray⟩ : ByteArray) = T by rw [← hT, cut_list])
  have hTs : T.size = m := by rw [← hT, ByteArray.size_extract]; omega
  have h64' : (m : Int) ≤ 64 := by omega
  have hne2 : ((p : Int) + (m : Int) == (p : Int)) = false := by rw [beq_eq_false_iff_ne]; omega
  have hb2 : (p : Int) + (m : Int) ≤ (s.size : Int) := by omega
  have hb3 : (0 : Int) ≤ (p : Int) + (m : Int) := by omega
  have hb4 : (p : Int) ≤ (p : Int) + (m : Int) := by omega
  have hto : ((p : Int) + (m : Int)).toNat = p + m := by omega
  clear hc hn hsh hsl hm2 h34 h45 h0 hd
  go_enter Tryz.func85, Tryz.ntmps85
  go_wp2_with (first
    | (go_at_call 97; refine (HS.out _).mono ?_; rintro e w1 ⟨rfl, rfl⟩)
    | (go_at_call 98; refine (HR.out _).mono ?_; rintro e w1 ⟨rfl, rfl⟩)
    | (go_at_call 100; refine (HD.out _).mono ?_; rintro e w1 ⟨rfl, rfl⟩)
    | (go_at_call 100; refine (HD2.out _).mono ?_; rintro e w1 ⟨rfl, rfl⟩)
    | (go_at_call 104; refine (HM.out _).mono ?_; rintro e w1 ⟨rfl, rfl⟩))
  refine bodyPost_ret (v := .tuple #[.agg #[.int .i64 6, .string T, .int .i64 0, .int .i64 0, .string ⟨#[]⟩, .int .i64 p], .bool true]) (by simp [results, Tryz.results85, go_sem]) rfl ⟨⟨_, _, HA.out, ?_⟩, ?_⟩
  · unfold wordV
    simp only [HT.out]
    rfl
  · exact ((Below.refl _ _).alloc (Nat.le_refl _) _).alloc (by simp) _
/-- The document's word at any place. -/
theorem rword_any (s : ByteArray) (p : Nat) (w : World) (hm : s.size ≤ 1000000) (hp : p < s.size) :
    Calls Tryz.prog 85 #[.string s, .int .i64 p] w (RkEnd s p w) := by
  rcases cls_cases s[p] with h | h | h | h | h
  · by_cases h34 : s[p] = 34
    · cases hq : quoEnd (s.data.toList.drop (p + 1)) with
      | none => exact rword_qo s p w hm hp h34 hq
      | some m =>
        cases hv : valL ((s.data.toList.drop p).take (m + 1)) with
        | some v => exact rword_qy s p w hm hp h34 m hq v hv
        | none => exact rword_qn s p w hm hp h34 m hq hv
    · by_cases h45 : s[p] = 45
      · have hm45 : ¬ markN s[p] (s.data.toList.drop (p + 1)) = 0 := by
          rw [h45]
          unfold markN
          rw [if_neg (by rintro (⟨e, -⟩ | ⟨e | e | e, -⟩) <;> cases e), if_pos (by decide)]
          decide
        by_cases hp1 : p + 1 < s.size
        · cases hd : isDig s[p + 1] with
          | true =>
            cases hv : valL ((s.data.toList.drop p).take (((s.data.toList.drop (p + 1)).takeWhile isDig).length + 1)) with
            | some v => exact rword_my s p w hm hp h45 hp1 hd _ rfl v hv
            | none => exact rword_mn s p w hm hp h45 hp1 hd _ rfl hv
          | false => exact rword_kdy s p w hm hp h45 hp1 hd _ rfl hm45
        · exact rword_key s p w hm hp h45 hp1 _ rfl hm45
      · by_cases h0 : markN s[p] (s.data.toList.drop (p + 1)) = 0
        · exact rword_kon s p w hm hp h h34 h45 _ rfl h0
        · exact rword_koy s p w hm hp h h34 h45 _ rfl h0
  · by_cases h64 : ((s.data.toList.drop p).takeWhile inB).length ≤ 64
    · exact rword_1y s p w hm hp h _ rfl h64
    · exact rword_1n s p w hm hp h _ rfl h64
  · by_cases h64 : ((s.data.toList.drop p).takeWhile inB).length ≤ 64
    · exact rword_2y s p w hm hp h _ rfl h64
    · exact rword_2n s p w hm hp h _ rfl h64
  · cases hv : valL ((s.data.toList.drop p).take (((s.data.toList.drop (p + 1)).takeWhile isDig).length + 1)) with
    | some v => exact rword_4y s p w hm hp h _ rfl v hv
    | none => exact rword_4n s p w hm hp h _ rfl hv
  · by_cases h64 : ((s.data.toList.drop p).takeWhile inB).length ≤ 64
    · by_cases h1 : ((s.data.toList.drop p).takeWhile inB).length = 1
      · exact rword_8y s p w hm hp h _ rfl h1
      · exact rword_8m s p w hm hp h _ rfl h1 h64
    · exact rword_8n s p w hm hp h _ rfl h64
end Go.Proofs.YtnbaemfkpfmheaaGreatDoor
