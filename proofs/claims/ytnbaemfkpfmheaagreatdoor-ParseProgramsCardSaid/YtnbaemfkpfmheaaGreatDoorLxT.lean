/-
  Contract of the document's word: names, variables, `_`.
-/
import Derived.Test.YtnbaemfkpfmheaaGreatDoorLxS
namespace Go.Proofs.YtnbaemfkpfmheaaGreatDoor
open Go Go.RowKit

/-- What the document's word answers at a place. -/
def RkAns (l : List UInt8) (p : Nat) (x : Wd) (b : Bool) : Prop :=
  (∃ k n v, tokL valL l = some (k, n, v) ∧ x = ⟨k, l.take n, v, p⟩ ∧ b = true) ∨ (tokL valL l = none ∧ b = false)
def RkEnd (s : ByteArray) (p : Nat) (w : World) (e : Ending) (w' : World) : Prop := (∃ x b, RkAns (s.data.toList.drop p) p x b ∧ e = .returned (.tuple #[wordV x, .bool b])) ∧ Below w.heap.size w w'
def noWd : Wd := ⟨0, [], zeroL, 0⟩
theorem rk_yes {s : ByteArray} {p : Nat} (hp : p < s.size) {k : Int} {n : Nat} {v : VL} (hs : shapeL s[p] (s.data.toList.drop (p + 1)) = (k, n)) (hv : meanL valL k ((s.data.toList.drop p).take n) = some v) : RkAns (s.data.toList.drop p) p ⟨k, (s.data.toList.drop p).take n, v, p⟩ true := by
  left
  rw [lx_at s p hp] at hv ⊢
  refine ⟨k, n, v, ?_, rfl, rfl⟩
  show (meanL valL (shapeL _ _).1 _).map _ = _
  rw [hs, hv]
  rfl
theorem rk_no {s : ByteArray} {p : Nat} (hp : p < s.size) {k : Int} {n : Nat} (hs : shapeL s[p] (s.data.toList.drop (p + 1)) = (k, n)) (hv : meanL valL k ((s.data.toList.drop p).take n) = none) : RkAns (s.data.toList.drop p) p noWd false := by
  right
  rw [lx_at s p hp] at hv ⊢
  refine ⟨?_, rfl⟩
  show (meanL valL (shapeL _ _).1 _).map _ = _
  rw [hs, hv]
  rfl
theorem take_len {s : ByteArray} {p n : Nat} (h : p + n ≤ s.size) : ((s.data.toList.drop p).take n).length = n := by
  rw [List.length_take, List.length_drop, ← Lib.size_eq]
  omega
theorem tw_at {s : ByteArray} {p : Nat} (hp : p < s.size) (f : UInt8 → Bool) (h : f s[p] = true) : ((s.data.toList.drop p).takeWhile f).length = ((s.data.toList.drop (p + 1)).takeWhile f).length + 1 := by
  have := tw_step (p := f) hp
  rw [if_pos h] at this
  exact this
theorem cls_95 (c : UInt8) : ((c.toNat : Int) == 95) = (cls c == 8) := by
  unfold cls
  by_cases h : c.toNat = 95
  · have h' : (c.toNat : Int) = 95 := by omega
    rw [if_neg (by omega), if_neg (by omega), if_pos h, h']
    rfl
  · have h' : ¬ (c.toNat : Int) = 95 := by omega
    rw [beq_eq_false_iff_ne.2 h']
    (repeat' split) <;> first | rfl | (exfalso; omega)
theorem noWd_v : wordV noWd = .agg #[.int .i64 0, .string ⟨#[]⟩, .int .i64 0, .int .i64 0, .string ⟨#[]⟩, .int .i64 0] := rfl
set_option maxHeartbeats 2000000 in
set_option maxRecDepth 100000 in
theorem rword_1y (s : ByteArray) (p : Nat) (w : World) (hm : s.size ≤ 1000000) (hp : p < s.size) (hc : cls s[p] = 1) (n : Nat) (hn : n = ((s.data.toList.drop p).takeWhile inB).length) (h64 : n ≤ 64) :
    Calls Tryz.prog 85 #[.string s, .int .i64 p] w (RkEnd s p w) := by
  have hlt' : (p : Int) < (s.size : Int) := by omega
  have HS := Lib.hid (fun w => hc ▸ rsmall_any s[p] w)
  have HR := Lib.hid (fun w => hc ▸ rgreat_any s[p] w)
  have hle : n ≤ s.size - p := by rw [hn]; have := tw_le (p := inB) (s.data.toList.drop p); rw [List.length_drop, ← Lib.size_eq] at this; exact this
  have hn1 := tw_at hp inB (by unfold inB; rw [hc]; rfl)
  rw [← hn] at hn1
  have hsh : shapeL s[p] (s.data.toList.drop (p + 1)) = (1, n) := by rw [shL_name 1 (.inl ⟨hc, rfl⟩), ← hn1]
  have HA := Lib.hid (rk_yes (v := zeroL) hp hsh (by rw [mean_12 (by decide), if_pos (by rw [take_len (by omega)]; exact h64)]))
  have HN := Lib.hid (fun w => hn ▸ rname_any s p w hm (by omega))
  obtain ⟨T, hT⟩ : ∃ T, s.extract p (p + n) = T := ⟨_, rfl⟩
  have HT := Lib.hid (show (⟨((s.data.toList.drop p).take n).toArray⟩ : ByteArray) = T by rw [← hT, cut_list])
  have hTs : T.size = n := by rw [← hT, ByteArray.size_extract]; omega
  have hb2 : (p : Int) + (n : Int) ≤ (s.size : Int) := by omega
  have hb3 : (0 : Int) ≤ (p : Int) + (n : Int) := by omega
  have hne2 : ((p : Int) + (n : Int) == (p : Int)) = false := by rw [beq_eq_false_iff_ne]; omega
  have hto : ((p : Int) + (n : Int)).toNat = p + n := by omega
  have h64' : (n : Int) ≤ 64 := by omega
  have h95 : ((s[p].toNat : Int) == 95) = false := by rw [cls_95, hc]; rfl
  clear hc hn hle hn1 hsh
  go_enter Tryz.func85, Tryz.ntmps85
  go_wp2_with (first
    | (go_at_call 97; refine (HS.out _).mono ?_; rintro e w1 ⟨rfl, rfl⟩)
    | (go_at_call 98; refine (HR.out _).mono ?_; rintro e w1 ⟨rfl, rfl⟩)
    | (go_at_call 99; refine (HN.out _).mono ?_; rintro e w1 ⟨rfl, rfl⟩))
  refine bodyPost_ret (v := .tuple #[.agg #[.int .i64 1, .string T, .int .i64 0, .int .i64 0, .string ⟨#[]⟩, .int .i64 p], .bool true]) (by simp [results, Tryz.results85, go_sem]) rfl ⟨⟨_, _, HA.out, ?_⟩, ?_⟩
  · unfold wordV
    simp only [HT.out]
    rfl
  · exact (((Below.refl _ _).alloc (Nat.le_refl _) _).alloc (by simp) _)
set_option maxHeartbeats 2000000 in
set_option maxRecDepth 100000 in
theorem rword_1n (s : ByteArray) (p : Nat) (w : World) (hm : s.size ≤ 1000000) (hp : p < s.size) (hc : cls s[p] = 1) (n : Nat) (hn : n = ((s.data.toList.drop p).takeWhile inB).length) (h64 : ¬ n ≤ 64) :
    Calls Tryz.prog 85 #[.string s, .int .i64 p] w (RkEnd s p w) := by
  have hlt' : (p : Int) < (s.size : Int) := by omega
  have HS := Lib.hid (fun w => hc ▸ rsmall_any s[p] w)
  have HR := Lib.hid (fun w => hc ▸ rgreat_any s[p] w)
  have hle : n ≤ s.size - p := by rw [hn]; have := tw_le (p := inB) (s.data.toList.drop p); rw [List.length_drop, ← Lib.size_eq] at this; exact this
  have hn1 := tw_at hp inB (by unfold inB; rw [hc]; rfl)
  rw [← hn] at hn1
  have hsh : shapeL s[p] (s.data.toList.drop (p + 1)) = (1, n) := by rw [shL_name 1 (.inl ⟨hc, rfl⟩), ← hn1]
  have HA := Lib.hid (rk_no hp hsh (by rw [mean_12 (by decide), if_neg (by rw [take_len (by omega)]; exact h64)]))
  have HN := Lib.hid (fun w => hn ▸ rname_any s p w hm (by omega))
  obtain ⟨T, hT⟩ : ∃ T, s.extract p (p + n) = T := ⟨_, rfl⟩
  have HT := Lib.hid (show (⟨((s.data.toList.drop p).take n).toArray⟩ : ByteArray) = T by rw [← hT, cut_list])
  have hTs : T.size = n := by rw [← hT, ByteArray.size_extract]; omega
  have hb2 : (p : Int) + (n : Int) ≤ (s.size : Int) := by omega
  have hb3 : (0 : Int) ≤ (p : Int) + (n : Int) := by omega
  have hne2 : ((p : Int) + (n : Int) == (p : Int)) = false := by rw [beq_eq_false_iff_ne]; omega
  have hto : ((p : Int) + (n : Int)).toNat = p + n := by omega
  have h64' : ¬ (n : Int) ≤ 64 := by omega
  have h64'' : (64 : Int) < (n : Int) := by omega
  have h95 : ((s[p].toNat : Int) == 95) = false := by rw [cls_95, hc]; rfl
  clear hc hn hle hn1 hsh
  go_enter Tryz.func85, Tryz.ntmps85
  go_wp2_with (first
    | (go_at_call 97; refine (HS.out _).mono ?_; rintro e w1 ⟨rfl, rfl⟩)
    | (go_at_call 98; refine (HR.out _).mono ?_; rintro e w1 ⟨rfl, rfl⟩)
    | (go_at_call 99; refine (HN.out _).mono ?_; rintro e w1 ⟨rfl, rfl⟩))
  refine bodyPost_ret (v := .tuple #[.agg #[.int .i64 0, .string ⟨#[]⟩, .int .i64 0, .int .i64 0, .string ⟨#[]⟩, .int .i64 0], .bool false]) (by simp [results, Tryz.results85, go_sem]) rfl ⟨⟨_, _, HA.out, rfl⟩, ?_⟩
  exact (((Below.refl _ _).alloc (Nat.le_refl _) _).alloc (by simp) _)
set_option maxHeartbeats 2000000 in
set_option maxRecDepth 100000 in
theorem rword_2y (s : ByteArray) (p : Nat) (w : World) (hm : s.size ≤ 1000000) (hp : p < s.size) (hc : cls s[p] = 2) (n : Nat) (hn : n = ((s.data.toList.drop p).takeWhile inB).length) (h64 : n ≤ 64) :
    Calls Tryz.prog 85 #[.string s, .int .i64 p] w (RkEnd s p w) := by
  have hlt' : (p : Int) < (s.size : Int) := by omega
  have HS := Lib.hid (fun w => hc ▸ rsmall_any s[p] w)
  have HR := Lib.hid (fun w => hc ▸ rgreat_any s[p] w)
  have hle : n ≤ s.size - p := by rw [hn]; have := tw_le (p := inB) (s.data.toList.drop p); rw [List.length_drop, ← Lib.size_eq] at this; exact this
  have hn1 := tw_at hp inB (by unfold inB; rw [hc]; rfl)
  rw [← hn] at hn1
  have hsh : shapeL s[p] (s.data.toList.drop (p + 1)) = (2, n) := by rw [shL_name 2 (.inr (.inl ⟨hc, rfl⟩)), ← hn1]
  have HA := Lib.hid (rk_yes (v := zeroL) hp hsh (by rw [mean_12 (by decide), if_pos (by rw [take_len (by omega)]; exact h64)]))
  have HN := Lib.hid (fun w => hn ▸ rname_any s p w hm (by omega))
  obtain ⟨T, hT⟩ : ∃ T, s.extract p (p + n) = T := ⟨_, rfl⟩
  have HT := Lib.hid (show (⟨((s.data.toList.drop p).take n).toArray⟩ : ByteArray) = T by rw [← hT, cut_list])
  have hTs : T.size = n := by rw [← hT, ByteArray.size_extract]; omega
  have hb2 : (p : Int) + (n : Int) ≤ (s.size : Int) := by omega
  have hb3 : (0 : Int) ≤ (p : Int) + (n : Int) := by omega
  have hne2 : ((p : Int) + (n : Int) == (p : Int)) = false := by rw [beq_eq_false_iff_ne]; omega
  have hto : ((p : Int) + (n : Int)).toNat = p + n := by omega
  have h64' : (n : Int) ≤ 64 := by omega
  have h95 : ((s[p].toNat : Int) == 95) = false := by rw [cls_95, hc]; rfl
  clear hc hn hle hn1 hsh
  go_enter Tryz.func85, Tryz.ntmps85
  go_wp2_with (first
    | (go_at_call 97; refine (HS.out _).mono ?_; rintro e w1 ⟨rfl, rfl⟩)
    | (go_at_call 98; refine (HR.out _).mono ?_; rintro e w1 ⟨rfl, rfl⟩)
    | (go_at_call 99; refine (HN.out _).mono ?_; rintro e w1 ⟨rfl, rfl⟩))
  refine bodyPost_ret (v := .tuple #[.agg #[.int .i64 2, .string T, .int .i64 0, .int .i64 0, .string ⟨#[]⟩, .int .i64 p], .bool true]) (by simp [results, Tryz.results85, go_sem]) rfl ⟨⟨_, _, HA.out, ?_⟩, ?_⟩
  · unfold wordV
    simp only [HT.out]
    rfl
  · exact (((Below.refl _ _).alloc (Nat.le_refl _) _).alloc (by simp) _)
set_option maxHeartbeats 2000000 in
set_option maxRecDepth 100000 in
theorem rword_2n (s : ByteArray) (p : Nat) (w : World) (hm : s.size ≤ 1000000) (hp : p < s.size) (hc : cls s[p] = 2) (n : Nat) (hn : n = ((s.data.toList.drop p).takeWhile inB).length) (h64 : ¬ n ≤ 64) :
    Calls Tryz.prog 85 #[.string s, .int .i64 p] w (RkEnd s p w) := by
  have hlt' : (p : Int) < (s.size : Int) := by omega
  have HS := Lib.hid (fun w => hc ▸ rsmall_any s[p] w)
  have HR := Lib.hid (fun w => hc ▸ rgreat_any s[p] w)
  have hle : n ≤ s.size - p := by rw [hn]; have := tw_le (p := inB) (s.data.toList.drop p); rw [List.length_drop, ← Lib.size_eq] at this; exact this
  have hn1 := tw_at hp inB (by unfold inB; rw [hc]; rfl)
  rw [← hn] at hn1
  have hsh : shapeL s[p] (s.data.toList.drop (p + 1)) = (2, n) := by rw [shL_name 2 (.inr (.inl ⟨hc, rfl⟩)), ← hn1]
  have HA := Lib.hid (rk_no hp hsh (by rw [mean_12 (by decide), if_neg (by rw [take_len (by omega)]; exact h64)]))
  have HN := Lib.hid (fun w => hn ▸ rname_any s p w hm (by omega))
  obtain ⟨T, hT⟩ : ∃ T, s.extract p (p + n) = T := ⟨_, rfl⟩
  have HT := Lib.hid (show (⟨((s.data.toList.drop p).take n).toArray⟩ : ByteArray) = T by rw [← hT, cut_list])
  have hTs : T.size = n := by rw [← hT, ByteArray.size_extract]; omega
  have hb2 : (p : Int) + (n : Int) ≤ (s.size : Int) := by omega
  have hb3 : (0 : Int) ≤ (p : Int) + (n : Int) := by omega
  have hne2 : ((p : Int) + (n : Int) == (p : Int)) = false := by rw [beq_eq_false_iff_ne]; omega
  have hto : ((p : Int) + (n : Int)).toNat = p + n := by omega
  have h64' : ¬ (n : Int) ≤ 64 := by omega
  have h64'' : (64 : Int) < (n : Int) := by omega
  have h95 : ((s[p].toNat : Int) == 95) = false := by rw [cls_95, hc]; rfl
  clear hc hn hle hn1 hsh
  go_enter Tryz.func85, Tryz.ntmps85
  go_wp2_with (first
    | (go_at_call 97; refine (HS.out _).mono ?_; rintro e w1 ⟨rfl, rfl⟩)
    | (go_at_call 98; refine (HR.out _).mono ?_; rintro e w1 ⟨rfl, rfl⟩)
    | (go_at_call 99; refine (HN.out _).mono ?_; rintro e w1 ⟨rfl, rfl⟩))
  refine bodyPost_ret (v := .tuple #[.agg #[.int .i64 0, .string ⟨#[]⟩, .int .i64 0, .int .i64 0, .string ⟨#[]⟩, .int .i64 0], .bool false]) (by simp [results, Tryz.results85, go_sem]) rfl ⟨⟨_, _, HA.out, rfl⟩, ?_⟩
  exact (((Below.refl _ _).alloc (Nat.le_refl _) _).alloc (by simp) _)
set_option maxHeartbeats 2000000 in
set_option maxRecDepth 100000 in
theorem rword_8y (s : ByteArray) (p : Nat) (w : World) (hm : s.size ≤ 1000000) (hp : p < s.size) (hc : cls s[p] = 8) (n : Nat) (hn : n = ((s.data.toList.drop p).takeWhile inB).length) (h1 : n = 1) :
    Calls Tryz.prog 85 #[.string s, .int .i64 p] w (RkEnd s p w) := by
  have hlt' : (p : Int) < (s.size : Int) := by omega
  have HS := Lib.hid (fun w => hc ▸ rsmall_any s[p] w)
  have HR := Lib.hid (fun w => hc ▸ rgreat_any s[p] w)
  have hle : n ≤ s.size - p := by rw [hn]; have := tw_le (p := inB) (s.data.toList.drop p); rw [List.length_drop, ← Lib.size_eq] at this; exact this
  have hn1 := tw_at hp inB (by unfold inB; rw [hc]; rfl)
  rw [← hn] at hn1
  have hsh : shapeL s[p] (s.data.toList.drop (p + 1)) = (3, n) := by rw [shL_name 3 (.inr (.inr ⟨hc, rfl⟩)), ← hn1]
  have HA := Lib.hid (rk_yes (v := zeroL) hp hsh (by rw [mean_3, if_pos (by rw [take_len (by omega)]; exact h1)]))
  have HN := Lib.hid (fun w => hn ▸ rname_any s p w hm (by omega))
  obtain ⟨T, hT⟩ : ∃ T, s.extract p (p + n) = T := ⟨_, rfl⟩
  have HT := Lib.hid (show (⟨((s.data.toList.drop p).take n).toArray⟩ : ByteArray) = T by rw [← hT, cut_list])
  have hTs : T.size = n := by rw [← hT, ByteArray.size_extract]; omega
  have hb2 : (p : Int) + (n : Int) ≤ (s.size : Int) := by omega
  have hb3 : (0 : Int) ≤ (p : Int) + (n : Int) := by omega
  have hne2 : ((p : Int) + (n : Int) == (p : Int)) = false := by rw [beq_eq_false_iff_ne]; omega
  have hto : ((p : Int) + (n : Int)).toNat = p + n := by omega
  have h64' : (n : Int) ≤ 64 := by omega
  have hne3 : ((p : Int) + (n : Int) != (p : Int) + 1) = false := by rw [h1]; simp
  have h95 : ((s[p].toNat : Int) == 95) = true := by rw [cls_95, hc]; rfl
  clear hc hn hle hn1 hsh h1
  go_enter Tryz.func85, Tryz.ntmps85
  go_wp2_with (first
    | (go_at_call 97; refine (HS.out _).mono ?_; rintro e w1 ⟨rfl, rfl⟩)
    | (go_at_call 98; refine (HR.out _).mono ?_; rintro e w1 ⟨rfl, rfl⟩)
    | (go_at_call 99; refine (HN.out _).mono ?_; rintro e w1 ⟨rfl, rfl⟩))
  refine bodyPost_ret (v := .tuple #[.agg #[.int .i64 3, .string T, .int .i64 0, .int .i64 0, .string ⟨#[]⟩, .int .i64 p], .bool true]) (by simp [results, Tryz.results85, go_sem]) rfl ⟨⟨_, _, HA.out, ?_⟩, ?_⟩
  · unfold wordV
    simp only [HT.out]
    rfl
  · exact (((Below.refl _ _).alloc (Nat.le_refl _) _).alloc (by simp) _)
set_option maxHeartbeats 2000000 in
set_option maxRecDepth 100000 in
theorem rword_8m (s : ByteArray) (p : Nat) (w : World) (hm : s.size ≤ 1000000) (hp : p < s.size) (hc : cls s[p] = 8) (n : Nat) (hn : n = ((s.data.toList.drop p).takeWhile inB).length) (h1 : ¬ n = 1) (h64 : n ≤ 64) :
    Calls Tryz.prog 85 #[.string s, .int .i64 p] w (RkEnd s p w) := by
  have hlt' : (p : Int) < (s.size : Int) := by omega
  have HS := Lib.hid (fun w => hc ▸ rsmall_any s[p] w)
  have HR := Lib.hid (fun w => hc ▸ rgreat_any s[p] w)
  have hle : n ≤ s.size - p := by rw [hn]; have := tw_le (p := inB) (s.data.toList.drop p); rw [List.length_drop, ← Lib.size_eq] at this; exact this
  have hn1 := tw_at hp inB (by unfold inB; rw [hc]; rfl)
  rw [← hn] at hn1
  have hsh : shapeL s[p] (s.data.toList.drop (p + 1)) = (3, n) := by rw [shL_name 3 (.inr (.inr ⟨hc, rfl⟩)), ← hn1]
  have HA := Lib.hid (rk_no hp hsh (by rw [mean_3, if_neg (by rw [take_len (by omega)]; exact h1)]))
  have HN := Lib.hid (fun w => hn ▸ rname_any s p w hm (by omega))
  obtain ⟨T, hT⟩ : ∃ T, s.extract p (p + n) = T := ⟨_, rfl⟩
  have HT := Lib.hid (show (⟨((s.data.toList.drop p).take n).toArray⟩ : ByteArray) = T by rw [← hT, cut_list])
  have hTs : T.size = n := by rw [← hT, ByteArray.size_extract]; omega
  have hb2 : (p : Int) + (n : Int) ≤ (s.size : Int) := by omega
  have hb3 : (0 : Int) ≤ (p : Int) + (n : Int) := by omega
  have hne2 : ((p : Int) + (n : Int) == (p : Int)) = false := by rw [beq_eq_false_iff_ne]; omega
  have hto : ((p : Int) + (n : Int)).toNat = p + n := by omega
  have h64' : (n : Int) ≤ 64 := by omega
  have hne3 : ((p : Int) + (n : Int) != (p : Int) + 1) = true := by simp only [bne_iff_ne, ne_eq]; omega
  have h95 : ((s[p].toNat : Int) == 95) = true := by rw [cls_95, hc]; rfl
  clear hc hn hle hn1 hsh
  go_enter Tryz.func85, Tryz.ntmps85
  go_wp2_with (first
    | (go_at_call 97; refine (HS.out _).mono ?_; rintro e w1 ⟨rfl, rfl⟩)
    | (go_at_call 98; refine (HR.out _).mono ?_; rintro e w1 ⟨rfl, rfl⟩)
    | (go_at_call 99; refine (HN.out _).mono ?_; rintro e w1 ⟨rfl, rfl⟩))
  refine bodyPost_ret (v := .tuple #[.agg #[.int .i64 0, .string ⟨#[]⟩, .int .i64 0, .int .i64 0, .string ⟨#[]⟩, .int .i64 0], .bool false]) (by simp [results, Tryz.results85, go_sem]) rfl ⟨⟨_, _, HA.out, rfl⟩, ?_⟩
  exact (((Below.refl _ _).alloc (Nat.le_refl _) _).alloc (by simp) _)
set_option maxHeartbeats 2000000 in
set_option maxRecDepth 100000 in
theorem rword_8n (s : ByteArray) (p : Nat) (w : World) (hm : s.size ≤ 1000000) (hp : p < s.size) (hc : cls s[p] = 8) (n : Nat) (hn : n = ((s.data.toList.drop p).takeWhile inB).length) (h64 : ¬ n ≤ 64) :
    Calls Tryz.prog 85 #[.string s, .int .i64 p] w (RkEnd s p w) := by
  have hlt' : (p : Int) < (s.size : Int) := by omega
  have HS := Lib.hid (fun w => hc ▸ rsmall_any s[p] w)
  have HR := Lib.hid (fun w => hc ▸ rgreat_any s[p] w)
  have hle : n ≤ s.size - p := by rw [hn]; have := tw_le (p := inB) (s.data.toList.drop p); rw [List.length_drop, ← Lib.size_eq] at this; exact this
  have hn1 := tw_at hp inB (by unfold inB; rw [hc]; rfl)
  rw [← hn] at hn1
  have hsh : shapeL s[p] (s.data.toList.drop (p + 1)) = (3, n) := by rw [shL_name 3 (.inr (.inr ⟨hc, rfl⟩)), ← hn1]
  have HA := Lib.hid (rk_no hp hsh (by rw [mean_3, if_neg (by rw [take_len (by omega)]; omega)]))
  have HN := Lib.hid (fun w => hn ▸ rname_any s p w hm (by omega))
  obtain ⟨T, hT⟩ : ∃ T, s.extract p (p + n) = T := ⟨_, rfl⟩
  have HT := Lib.hid (show (⟨((s.data.toList.drop p).take n).toArray⟩ : ByteArray) = T by rw [← hT, cut_list])
  have hTs : T.size = n := by rw [← hT, ByteArray.size_extract]; omega
  have hb2 : (p : Int) + (n : Int) ≤ (s.size : Int) := by omega
  have hb3 : (0 : Int) ≤ (p : Int) + (n : Int) := by omega
  have hne2 : ((p : Int) + (n : Int) == (p : Int)) = false := by rw [beq_eq_false_iff_ne]; omega
  have hto : ((p : Int) + (n : Int)).toNat = p + n := by omega
  have h64' : ¬ (n : Int) ≤ 64 := by omega
  have h64'' : (64 : Int) < (n : Int) := by omega
  have h95 : ((s[p].toNat : Int) == 95) = true := by rw [cls_95, hc]; rfl
  clear hc hn hle hn1 hsh
  go_enter Tryz.func85, Tryz.ntmps85
  go_wp2_with (first
    | (go_at_call 97; refine (HS.out _).mono ?_; rintro e w1 ⟨rfl, rfl⟩)
    | (go_at_call 98; refine (HR.out _).mono ?_; rintro e w1 ⟨rfl, rfl⟩)
    | (go_at_call 99; refine (HN.out _).mono ?_; rintro e w1 ⟨rfl, rfl⟩))
  refine bodyPost_ret (v := .tuple #[.agg #[.int .i64 0, .string ⟨#[]⟩, .int .i64 0, .int .i64 0, .string ⟨#[]⟩, .int .i64 0], .bool false]) (by simp [results, Tryz.results85, go_sem]) rfl ⟨⟨_, _, HA.out, rfl⟩, ?_⟩
  exact (((Below.refl _ _).alloc (Nat.le_refl _) _).alloc (by simp) _)
end Go.Proofs.YtnbaemfkpfmheaaGreatDoor
