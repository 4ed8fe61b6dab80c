/-
  Contracts of strings.Clone, lex.shapeOfOther and lex.shape.
-/
import Derived.Test.YtnbaemfkpfmheaaGreatDoorLxA
import Derived.Test.YtnbaemfkpfmheaaGreatDoorShelfL
namespace Go.Proofs.YtnbaemfkpfmheaaGreatDoor
open Go Go.RowKit

set_option maxHeartbeats 400000 in
theorem sclone_any (s : ByteArray) (w : World) (hm : s.size ≤ 1000000) : Calls Tryz.prog 107 #[.string s] w fun e w' => e = .returned (.string s) ∧ Below w.heap.size w w' := by
  have H := Lib.hid (Tryz.stringslite_Clone s w (by omega))
  go_enter Tryz.func107, Tryz.ntmps107
  go_wp2_with (go_at_call 114; refine H.out.mono ?_; rintro e w1 ⟨rfl, hb⟩)
  go_ret
  exact ⟨rfl, hb⟩

/-- The shape where the first byte is in no class. -/
def shapeO (c : UInt8) (r : List UInt8) : Int × Nat :=
  if c = 34 then (5, quoN r + 1)
  else if c = 33 then (if r.head? = some 61 then (6, 2) else (0, 0))
  else if c = 45 then (if (r.takeWhile isDig).length = 0 then (6, 1) else (4, (r.takeWhile isDig).length + 1))
  else if c = 58 then (if r.head? = some 45 then (6, 2) else (6, 1))
  else if c = 60 ∨ c = 62 then (if r.head? = some 61 then (6, 2) else (6, 1))
  else if c = 40 ∨ c = 41 ∨ c = 44 ∨ c = 46 ∨ c = 43 ∨ c = 61 then (6, 1)
  else (0, 0)
theorem shapeL_other {c : UInt8} {r : List UInt8} (h1 : cls c ≠ 1) (h2 : cls c ≠ 2) (h3 : cls c ≠ 8) (h4 : cls c ≠ 4) : shapeL c r = shapeO c r := by
  unfold shapeL
  rw [if_neg h1, if_neg h2, if_neg h3, if_neg h4]
  rfl
/-- A text of one byte or two: is it a mark of two? -/
theorem two_is (s : ByteArray) (hp : 0 < s.size) (q : Nat) (hq : q = min 2 s.size) (a b : UInt8) :
    ((s.extract 0 q).toList == [a, b]) = (decide (s[0] = a) && decide ((s.data.toList.drop 1).head? = some b)) := by
  have e : (s.extract 0 q).toList = s.data.toList.take q := by
    rw [Lib.toList_data, Lib.extract_data]
    simp
  have e0 : s.data.toList = s[0] :: s.data.toList.drop 1 := by
    have := lx_at s 0 hp
    simpa using this
  rw [e]
  by_cases h : s.size = 1
  · have hd : s.data.toList.drop 1 = [] := lx_end s 1 (by omega)
    rw [e0, hd, hq, h]
    simp
  · have h1 : 1 < s.size := by omega
    have hd := lx_at s 1 h1
    have hq2 : q = 2 := by omega
    rw [e0, hd, hq2]
    simp only [List.take_succ_cons, List.take_zero, List.drop_succ_cons, List.drop_zero, List.head?_cons, Option.some.injEq]
    by_cases ha : s[0] = a <;> by_cases hb : s[1] = b <;> simp [ha, hb]
theorem ret_pair {a b : Int} {a' b' : Int} (h : a = a') (g : b = b') : (Ending.returned (.tuple #[.int .i64 a, .int .i64 b])) = .returned (.tuple #[.int .i64 a', .int .i64 b']) := by rw [h, g]
theorem drop1_list (s : ByteArray) : (s.extract 1 s.size).data.toList = s.data.toList.drop 1 := by
  rw [Lib.extract_data, Lib.size_eq, ← List.drop_take, List.take_length]
theorem shO_34 {c : UInt8} {r : List UInt8} (hc : c = 34) : shapeO c r = (5, quoN r + 1) := by
  subst hc
  unfold shapeO
  rfl
theorem shO_33y {c : UInt8} {r : List UInt8} (hc : c = 33) (h : r.head? = some 61) : shapeO c r = (6, 2) := by
  subst hc
  unfold shapeO
  rw [if_neg (by decide), if_pos rfl, if_pos h]
theorem shO_33n {c : UInt8} {r : List UInt8} (hc : c = 33) (h : ¬ r.head? = some 61) : shapeO c r = (0, 0) := by
  subst hc
  unfold shapeO
  rw [if_neg (by decide), if_pos rfl, if_neg h]
theorem shO_45y {c : UInt8} {r : List UInt8} (hc : c = 45) (h : (r.takeWhile isDig).length = 0) : shapeO c r = (6, 1) := by
  subst hc
  unfold shapeO
  rw [if_neg (by decide), if_neg (by decide), if_pos rfl, if_pos h]
theorem shO_45n {c : UInt8} {r : List UInt8} (hc : c = 45) (h : ¬ (r.takeWhile isDig).length = 0) : shapeO c r = (4, (r.takeWhile isDig).length + 1) := by
  subst hc
  unfold shapeO
  rw [if_neg (by decide), if_neg (by decide), if_pos rfl, if_neg h]
theorem shO_58y {c : UInt8} {r : List UInt8} (hc : c = 58) (h : r.head? = some 45) : shapeO c r = (6, 2) := by
  subst hc
  unfold shapeO
  rw [if_neg (by decide), if_neg (by decide), if_neg (by decide), if_pos rfl, if_pos h]
theorem shO_58n {c : UInt8} {r : List UInt8} (hc : c = 58) (h : ¬ r.head? = some 45) : shapeO c r = (6, 1) := by
  subst hc
  unfold shapeO
  rw [if_neg (by decide), if_neg (by decide), if_neg (by decide), if_pos rfl, if_neg h]
theorem shO_60y {c : UInt8} {r : List UInt8} (hc : c = 60) (h : r.head? = some 61) : shapeO c r = (6, 2) := by
  subst hc
  unfold shapeO
  rw [if_neg (by decide), if_neg (by decide), if_neg (by decide), if_neg (by decide), if_pos (by decide), if_pos h]
theorem shO_60n {c : UInt8} {r : List UInt8} (hc : c = 60) (h : ¬ r.head? = some 61) : shapeO c r = (6, 1) := by
  subst hc
  unfold shapeO
  rw [if_neg (by decide), if_neg (by decide), if_neg (by decide), if_neg (by decide), if_pos (by decide), if_neg h]
theorem shO_62y {c : UInt8} {r : List UInt8} (hc : c = 62) (h : r.head? = some 61) : shapeO c r = (6, 2) := by
  subst hc
  unfold shapeO
  rw [if_neg (by decide), if_neg (by decide), if_neg (by decide), if_neg (by decide), if_pos (by decide), if_pos h]
theorem shO_62n {c : UInt8} {r : List UInt8} (hc : c = 62) (h : ¬ r.head? = some 61) : shapeO c r = (6, 1) := by
  subst hc
  unfold shapeO
  rw [if_neg (by decide), if_neg (by decide), if_neg (by decide), if_neg (by decide), if_pos (by decide), if_neg h]
theorem shO_one {c : UInt8} {r : List UInt8} (h : c = 40 ∨ c = 41 ∨ c = 44 ∨ c = 46 ∨ c = 43 ∨ c = 61) : shapeO c r = (6, 1) := by
  rcases h with h | h | h | h | h | h <;> subst h <;> rfl
theorem shO_no {c : UInt8} {r : List UInt8} (h : c ≠ 34 ∧ c ≠ 33 ∧ c ≠ 45 ∧ c ≠ 58 ∧ c ≠ 60 ∧ c ≠ 62 ∧ ¬ (c = 40 ∨ c = 41 ∨ c = 44 ∨ c = 46 ∨ c = 43 ∨ c = 61)) : shapeO c r = (0, 0) := by
  unfold shapeO
  rw [if_neg h.1, if_neg h.2.1, if_neg h.2.2.1, if_neg h.2.2.2.1, if_neg (by rintro (e | e); exact h.2.2.2.2.1 e; exact h.2.2.2.2.2.1 e), if_neg h.2.2.2.2.2.2]
/-- What shapeOfOther returns. -/
def ShEnd (s : ByteArray) (hp : 0 < s.size) (w : World) (e : Ending) (w' : World) : Prop := (∃ K N, shapeO s[0] (s.data.toList.drop 1) = (K, N) ∧ e = .returned (.tuple #[.int .i64 K, .int .i64 (N : Int)])) ∧ w = w'
set_option maxHeartbeats 4000000 in
set_option maxRecDepth 100000 in
theorem shapeO_any (s : ByteArray) (w : World) (hm : s.size ≤ 1000000) (hp : 0 < s.size) (G : Glob w) :
    Calls Tryz.prog 113 #[.string s] w (ShEnd s hp w) := by
  have HG := Lib.hid G
  clear G
  obtain ⟨q, hq⟩ : ∃ q, q = min 2 s.size := ⟨_, rfl⟩
  have hmin : min (2 : Int) (s.size : Int) = (q : Int) := by omega
  have hq1 : q ≤ s.size := by omega
  have hp' : (0 : Int) < (s.size : Int) := by omega
  have HT := Lib.hid (two_is s hp q hq)
  clear hq
  obtain ⟨T, hT⟩ : ∃ T, s.extract 0 q = T := ⟨_, rfl⟩
  rw [hT] at HT
  go_enter Tryz.func113, Tryz.ntmps113
  cases h34 : ((s[0].toNat : Int) == 34) with
  | true =>
    have HE := shO_34 (r := s.data.toList.drop 1) (u8_is (d := 34) rfl h34)
    have HS := Lib.hid (lsym_any s w hm hp)
    obtain ⟨n, hn⟩ : ∃ n, n = quoN (s.data.toList.drop 1) + 1 := ⟨_, rfl⟩
    rw [← hn] at HE HS
    have HE := Lib.hid HE
    clear hn
    go_wp2_with (go_at_call 119; refine HS.out.mono ?_; rintro e w1 ⟨rfl, rfl⟩)
    go_ret2
    exact ⟨⟨_, _, HE.out, rfl⟩, rfl⟩
  | false =>
    cases h33 : ((s[0].toNat : Int) == 33) with
    | true =>
      have HB := Lib.hid ((HT.out 33 61).trans (by rw [u8_is (d := 33) rfl h33, decide_eq_true rfl, Bool.true_and]))
      cases hE : (T.toList == [33, 61]) with
      | true =>
        have HE := Lib.hid (shO_33y (r := s.data.toList.drop 1) (u8_is (d := 33) rfl h33) (by have e := hE.symm.trans HB.out; simpa using e.symm))
        go_wp2_with fail
        go_ret2
        exact ⟨⟨_, _, HE.out, rfl⟩, rfl⟩
      | false =>
        have HE := Lib.hid (shO_33n (r := s.data.toList.drop 1) (u8_is (d := 33) rfl h33) (by have e := hE.symm.trans HB.out; simpa using e.symm))
        go_wp2_with fail
        go_ret2
        exact ⟨⟨_, _, HE.out, rfl⟩, rfl⟩
    | false =>
      cases h45 : ((s[0].toNat : Int) == 45) with
      | true =>
        have HS := Lib.hid (span_any (s.extract 1 s.size) 4 isDig w (by rw [ByteArray.size_extract]; omega) mask_dig HG.out)
        rw [drop1_list] at HS
        have HY := fun g => shO_45y (r := s.data.toList.drop 1) (u8_is (d := 45) rfl h45) g
        have HN := fun g => shO_45n (r := s.data.toList.drop 1) (u8_is (d := 45) rfl h45) g
        obtain ⟨n, hn⟩ : ∃ n, n = ((s.data.toList.drop 1).takeWhile isDig).length := ⟨_, rfl⟩
        rw [← hn] at HS HY HN
        have hn6 : n ≤ 1000000 := by rw [hn]; have := tw_le (p := isDig) (s.data.toList.drop 1); rw [List.length_drop, ← Lib.size_eq] at this; omega
        clear hn
        by_cases h0 : n = 0
        · subst h0
          have HE := Lib.hid (HY rfl)
          clear HY HN
          go_wp2_with (go_at_call 112; refine HS.out.mono ?_; rintro e w1 ⟨rfl, rfl⟩)
          go_ret2
          exact ⟨⟨_, _, HE.out, rfl⟩, rfl⟩
        · have h0' : (0 : Int) < (n : Int) := by omega
          have HE := Lib.hid (HN h0)
          clear HY HN
          go_wp2_with (go_at_call 112; refine HS.out.mono ?_; rintro e w1 ⟨rfl, rfl⟩)
          go_ret2
          exact ⟨⟨_, _, HE.out, by rw [Int.add_comm]; rfl⟩, rfl⟩
      | false =>
        cases h58 : ((s[0].toNat : Int) == 58) with
        | true =>
          have HB := Lib.hid ((HT.out 58 45).trans (by rw [u8_is (d := 58) rfl h58, decide_eq_true rfl, Bool.true_and]))
          have hE60 : (T.toList == [60, 61]) = false := (HT.out 60 61).trans (by rw [u8_is (d := 58) rfl h58]; rfl)
          have hE62 : (T.toList == [62, 61]) = false := (HT.out 62 61).trans (by rw [u8_is (d := 58) rfl h58]; rfl)
          cases hE : (T.toList == [58, 45]) with
          | true =>
            have HE := Lib.hid (shO_58y (r := s.data.toList.drop 1) (u8_is (d := 58) rfl h58) (by have e := hE.symm.trans HB.out; simpa using e.symm))
            go_wp2_with fail
            go_ret2
            exact ⟨⟨_, _, HE.out, rfl⟩, rfl⟩
          | false =>
            have HE := Lib.hid (shO_58n (r := s.data.toList.drop 1) (u8_is (d := 58) rfl h58) (by have e := hE.symm.trans HB.out; simpa using e.symm))
            go_wp2_with fail
            go_ret2
            exact ⟨⟨_, _, HE.out, rfl⟩, rfl⟩
        | false =>
          cases h60 : ((s[0].toNat : Int) == 60) with
          | true =>
            have HB := Lib.hid ((HT.out 60 61).trans (by rw [u8_is (d := 60) rfl h60, decide_eq_true rfl, Bool.true_and]))
            have hE58 : (T.toList == [58, 45]) = false := (HT.out 58 45).trans (by rw [u8_is (d := 60) rfl h60]; rfl)
            have hE62 : (T.toList == [62, 61]) = false := (HT.out 62 61).trans (by rw [u8_is (d := 60) rfl h60]; rfl)
            cases hE : (T.toList == [60, 61]) with
            | true =>
              have HE := Lib.hid (shO_60y (r := s.data.toList.drop 1) (u8_is (d := 60) rfl h60) (by have e := hE.symm.trans HB.out; simpa using e.symm))
              go_wp2_with fail
              go_ret2
              exact ⟨⟨_, _, HE.out, rfl⟩, rfl⟩
            | false =>
              have HE := Lib.hid (shO_60n (r := s.data.toList.drop 1) (u8_is (d := 60) rfl h60) (by have e := hE.symm.trans HB.out; simpa using e.symm))
              go_wp2_with fail
              go_ret2
              exact ⟨⟨_, _, HE.out, rfl⟩, rfl⟩
          | false =>
            cases h62 : ((s[0].toNat : Int) == 62) with
            | true =>
              have HB := Lib.hid ((HT.out 62 61).trans (by rw [u8_is (d := 62) rfl h62, decide_eq_true rfl, Bool.true_and]))
              have hE58 : (T.toList == [58, 45]) = false := (HT.out 58 45).trans (by rw [u8_is (d := 62) rfl h62]; rfl)
              have hE60 : (T.toList == [60, 61]) = false := (HT.out 60 61).trans (by rw [u8_is (d := 62) rfl h62]; rfl)
              cases hE : (T.toList == [62, 61]) with
              | true =>
                have HE := Lib.hid (shO_62y (r := s.data.toList.drop 1) (u8_is (d := 62) rfl h62) (by have e := hE.symm.trans HB.out; simpa using e.symm))
                go_wp2_with fail
                go_ret2
                exact ⟨⟨_, _, HE.out, rfl⟩, rfl⟩
              | false =>
                have HE := Lib.hid (shO_62n (r := s.data.toList.drop 1) (u8_is (d := 62) rfl h62) (by have e := hE.symm.trans HB.out; simpa using e.symm))
                go_wp2_with fail
                go_ret2
                exact ⟨⟨_, _, HE.out, rfl⟩, rfl⟩
            | false =>
              cases h40 : ((s[0].toNat : Int) == 40) with
              | true =>
                have HE := Lib.hid (shO_one (r := s.data.toList.drop 1) (by have e := u8_is (d := 40) rfl h40; simp [e] : s[0] = 40 ∨ s[0] = 41 ∨ s[0] = 44 ∨ s[0] = 46 ∨ s[0] = 43 ∨ s[0] = 61))
                go_wp2_with fail
                go_ret2
                exact ⟨⟨_, _, HE.out, rfl⟩, rfl⟩
              | false =>
                cases h41 : ((s[0].toNat : Int) == 41) with
                | true =>
                  have HE := Lib.hid (shO_one (r := s.data.toList.drop 1) (by have e := u8_is (d := 41) rfl h41; simp [e] : s[0] = 40 ∨ s[0] = 41 ∨ s[0] = 44 ∨ s[0] = 46 ∨ s[0] = 43 ∨ s[0] = 61))
                  go_wp2_with fail
                  go_ret2
                  exact ⟨⟨_, _, HE.out, rfl⟩, rfl⟩
                | false =>
                  cases h44 : ((s[0].toNat : Int) == 44) with
                  | true =>
                    have HE := Lib.hid (shO_one (r := s.data.toList.drop 1) (by have e := u8_is (d := 44) rfl h44; simp [e] : s[0] = 40 ∨ s[0] = 41 ∨ s[0] = 44 ∨ s[0] = 46 ∨ s[0] = 43 ∨ s[0] = 61))
                    go_wp2_with fail
                    go_ret2
                    exact ⟨⟨_, _, HE.out, rfl⟩, rfl⟩
                  | false =>
                    cases h46 : ((s[0].toNat : Int) == 46) with
                    | true =>
                      have HE := Lib.hid (shO_one (r := s.data.toList.drop 1) (by have e := u8_is (d := 46) rfl h46; simp [e] : s[0] = 40 ∨ s[0] = 41 ∨ s[0] = 44 ∨ s[0] = 46 ∨ s[0] = 43 ∨ s[0] = 61))
                      go_wp2_with fail
                      go_ret2
                      exact ⟨⟨_, _, HE.out, rfl⟩, rfl⟩
                    | false =>
                      cases h43 : ((s[0].toNat : Int) == 43) with
                      | true =>
                        have HE := Lib.hid (shO_one (r := s.data.toList.drop 1) (by have e := u8_is (d := 43) rfl h43; simp [e] : s[0] = 40 ∨ s[0] = 41 ∨ s[0] = 44 ∨ s[0] = 46 ∨ s[0] = 43 ∨ s[0] = 61))
                        go_wp2_with fail
                        go_ret2
                        exact ⟨⟨_, _, HE.out, rfl⟩, rfl⟩
                      | false =>
                        cases h61 : ((s[0].toNat : Int) == 61) with
                        | true =>
                          have HE := Lib.hid (shO_one (r := s.data.toList.drop 1) (by have e := u8_is (d := 61) rfl h61; simp [e] : s[0] = 40 ∨ s[0] = 41 ∨ s[0] = 44 ∨ s[0] = 46 ∨ s[0] = 43 ∨ s[0] = 61))
                          go_wp2_with fail
                          go_ret2
                          exact ⟨⟨_, _, HE.out, rfl⟩, rfl⟩
                        | false =>
                          have HE := Lib.hid (shO_no (r := s.data.toList.drop 1) ⟨u8_no (d := 34) rfl h34, u8_no (d := 33) rfl h33, u8_no (d := 45) rfl h45, u8_no (d := 58) rfl h58, u8_no (d := 60) rfl h60, u8_no (d := 62) rfl h62, by rintro (e | e | e | e | e | e) <;> first | exact u8_no (d := 40) rfl h40 e | exact u8_no (d := 41) rfl h41 e | exact u8_no (d := 44) rfl h44 e | exact u8_no (d := 46) rfl h46 e | exact u8_no (d := 43) rfl h43 e | exact u8_no (d := 61) rfl h61 e⟩)
                          go_wp2_with fail
                          go_ret2
                          exact ⟨⟨_, _, HE.out, rfl⟩, rfl⟩

/-- What shape returns. -/
def ShpEnd (s : ByteArray) (hp : 0 < s.size) (w : World) (e : Ending) (w' : World) : Prop := (∃ K N, shapeL s[0] (s.data.toList.drop 1) = (K, N) ∧ e = .returned (.tuple #[.int .i64 K, .int .i64 (N : Int)])) ∧ w = w'
theorem tw_first {p : UInt8 → Bool} {s : ByteArray} (hp : 0 < s.size) (h : p s[0] = true) : (s.data.toList.takeWhile p).length = ((s.data.toList.drop 1).takeWhile p).length + 1 := by
  have := tw_step (p := p) (s := s) (k := 0) hp
  rw [if_pos h, List.drop_zero] at this
  exact this
theorem shL_name {c : UInt8} {r : List UInt8} (k : Int) (h : (cls c = 1 ∧ k = 1) ∨ (cls c = 2 ∧ k = 2) ∨ (cls c = 8 ∧ k = 3)) : shapeL c r = (k, (r.takeWhile inB).length + 1) := by
  unfold shapeL
  rcases h with ⟨h, rfl⟩ | ⟨h, rfl⟩ | ⟨h, rfl⟩ <;> rw [h] <;> rfl
theorem shL_dig {c : UInt8} {r : List UInt8} (h : cls c = 4) : shapeL c r = (4, (r.takeWhile isDig).length + 1) := by
  unfold shapeL
  rw [h]
  rfl
set_option maxHeartbeats 4000000 in
set_option maxRecDepth 100000 in
theorem shape_any (s : ByteArray) (w : World) (hm : s.size ≤ 1000000) (hp : 0 < s.size) (G : Glob w) :
    Calls Tryz.prog 106 #[.string s] w (ShpEnd s hp w) := by
  have HC := Lib.hid (classOf_any s[0] w G)
  have HI := Lib.hid (span_any s 15 inB w hm mask_in G)
  have HD := Lib.hid (span_any s 4 isDig w hm mask_dig G)
  have HO := Lib.hid (shapeO_any s w hm hp G)
  have hp' : (0 : Int) < (s.size : Int) := by omega
  clear G
  obtain ⟨z, hz⟩ : ∃ z, z = cls s[0] := ⟨_, rfl⟩
  obtain ⟨n, hn⟩ : ∃ n, n = (s.data.toList.takeWhile inB).length := ⟨_, rfl⟩
  obtain ⟨m, hm2⟩ : ∃ m, m = (s.data.toList.takeWhile isDig).length := ⟨_, rfl⟩
  rw [← hz] at HC
  rw [← hn] at HI
  rw [← hm2] at HD
  have HZ := Lib.hid hz
  have HN := Lib.hid hn
  have HM := Lib.hid hm2
  have hcs := cls_cases s[0]
  rw [← hz] at hcs
  clear hz hn hm2
  have inn : z ≠ 0 → n = ((s.data.toList.drop 1).takeWhile inB).length + 1 := fun h => HN.out.trans (tw_first hp (by unfold inB; rw [← HZ.out]; simpa using h))
  have dig : z = 4 → m = ((s.data.toList.drop 1).takeWhile isDig).length + 1 := fun h => HM.out.trans (tw_first hp (by unfold isDig; rw [← HZ.out, h]; rfl))
  rcases hcs with rfl | rfl | rfl | rfl | rfl
  · have HE := Lib.hid (shapeL_other (c := s[0]) (r := s.data.toList.drop 1) (by rw [← HZ.out]; decide) (by rw [← HZ.out]; decide) (by rw [← HZ.out]; decide) (by rw [← HZ.out]; decide))
    clear inn dig
    go_enter Tryz.func106, Tryz.ntmps106
    go_wp2_with (first | (go_at_call 111; refine HC.out.mono ?_; rintro e w1 ⟨rfl, rfl⟩) | (go_at_call 113; refine HO.out.mono ?_; rintro e w1 ⟨⟨K, N, hKN, rfl⟩, rfl⟩; have HK := Lib.hid hKN; clear hKN))
    go_ret2
    exact ⟨⟨_, _, HE.out.trans HK.out, rfl⟩, rfl⟩
  · have HE := Lib.hid (shL_name (c := s[0]) (r := s.data.toList.drop 1) 1 (.inl ⟨HZ.out.symm, rfl⟩))
    rw [← inn (by decide)] at HE
    clear inn dig
    go_enter Tryz.func106, Tryz.ntmps106
    go_wp2_with (first | (go_at_call 111; refine HC.out.mono ?_; rintro e w1 ⟨rfl, rfl⟩) | (go_at_call 112; refine HI.out.mono ?_; rintro e w1 ⟨rfl, rfl⟩))
    go_ret2
    exact ⟨⟨_, _, HE.out, rfl⟩, rfl⟩
  · have HE := Lib.hid (shL_name (c := s[0]) (r := s.data.toList.drop 1) 2 (.inr (.inl ⟨HZ.out.symm, rfl⟩)))
    rw [← inn (by decide)] at HE
    clear inn dig
    go_enter Tryz.func106, Tryz.ntmps106
    go_wp2_with (first | (go_at_call 111; refine HC.out.mono ?_; rintro e w1 ⟨rfl, rfl⟩) | (go_at_call 112; refine HI.out.mono ?_; rintro e w1 ⟨rfl, rfl⟩))
    go_ret2
    exact ⟨⟨_, _, HE.out, rfl⟩, rfl⟩
  · have HE := Lib.hid (shL_dig (c := s[0]) (r := s.data.toList.drop 1) HZ.out.symm)
    rw [← dig rfl] at HE
    clear inn dig
    go_enter Tryz.func106, Tryz.ntmps106
    go_wp2_with (first | (go_at_call 111; refine HC.out.mono ?_; rintro e w1 ⟨rfl, rfl⟩) | (go_at_call 112; refine HD.out.mono ?_; rintro e w1 ⟨rfl, rfl⟩))
    go_ret2
    exact ⟨⟨_, _, HE.out, rfl⟩, rfl⟩
  · have HE := Lib.hid (shL_name (c := s[0]) (r := s.data.toList.drop 1) 3 (.inr (.inr ⟨HZ.out.symm, rfl⟩)))
    rw [← inn (by decide)] at HE
    clear inn dig
    go_enter Tryz.func106, Tryz.ntmps106
    go_wp2_with (first | (go_at_call 111; refine HC.out.mono ?_; rintro e w1 ⟨rfl, rfl⟩) | (go_at_call 112; refine HI.out.mono ?_; rintro e w1 ⟨rfl, rfl⟩))
    go_ret2
    exact ⟨⟨_, _, HE.out, rfl⟩, rfl⟩
end Go.Proofs.YtnbaemfkpfmheaaGreatDoor
