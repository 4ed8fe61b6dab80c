/-
  Contract of the document's Held. (Printed by tools/mkmghe.py.)
-/
import Derived.Test.YtcfnpbmkcdmafaaMgU
import Derived.Test.YtcfnpbmkcdmafaaMgRo
namespace Go.Proofs.Ytcfnpbmkcdmafaa
open Go Go.RowKit Go.Shelf

/-- What the outer loop of Held keeps. -/
def HeJ (there : Bool) (A B : List Th) (w : World) (k i : Nat) (v : Value) (W : World) : Prop :=
  ∃ P, OwnTh w.heap.size W v P ∧ onlyL (amStep there) B A = P ++ onlyL (amStep there) (B.drop k) (A.drop i) ∧ Below w.heap.size w W ∧ P.length ≤ i
theorem HeJ.below {there : Bool} {A B : List Th} {w : World} {k i : Nat} {v : Value} {W W' : World} (h : HeJ there A B w k i v W) (hb : Below W.heap.size W W') : HeJ there A B w k i v W' := by
  obtain ⟨P, h1, h2, h3, h4⟩ := h
  exact ⟨P, h1.keep (fun k e => hb.block k (h1.lt k e).2), h2, h3.trans (hb.mono h3.size), h4⟩
/-- The thing at i has been looked at. -/
theorem HeJ.ask {there : Bool} {A B : List Th} {w : World} {k k' i : Nat} {v : Value} {W : World} {x : Th} (h : HeJ there A B w k i v W) (hi : i < A.length) (hx : A[i] = x) (hk : skipL (B.drop k') x = skipL (B.drop k) x) (hs : skipL (B.drop k') x = B.drop k') :
    (likeB (B.drop k') x = !there → HeJ there A B w k' (i + 1) v W) ∧ (likeB (B.drop k') x = there → ∃ P, OwnTh w.heap.size W v P ∧ Below w.heap.size w W ∧ P.length ≤ i ∧ ∀ v' W', OwnTh w.heap.size W' v' (P ++ [x]) → Below w.heap.size w W' → HeJ there A B w k' (i + 1) v' W') := by
  obtain ⟨P, h1, h2, h3, h4⟩ := h
  have e : onlyL (amStep there) (B.drop k) (A.drop i) = if (likeB (B.drop k') x == there) then x :: onlyL (amStep there) (B.drop k') (A.drop (i + 1)) else onlyL (amStep there) (B.drop k') (A.drop (i + 1)) := by
    rw [List.drop_eq_getElem_cons hi, hx]
    conv => lhs; unfold onlyL
    unfold amStep
    simp only [← hk, hs]
  constructor
  · intro hl
    refine ⟨P, h1, ?_, h3, by omega⟩
    rw [h2, e, if_neg (by rw [hl]; cases there <;> simp)]
  · intro hl
    refine ⟨P, h1, h3, h4, fun v' W' ho hb => ⟨P ++ [x], ho, ?_, hb, by simp; omega⟩⟩
    rw [h2, e, if_pos (by rw [hl]; simp), List.append_assoc]
    rfl
theorem skip_none {B : List Th} {k : Nat} (x : Th) (h : B.length ≤ k) : skipL (B.drop k) x = B.drop k ∧ likeB (B.drop k) x = false := by
  rw [List.drop_of_length_le h]
  exact ⟨rfl, rfl⟩
theorem skip_some {B : List Th} {k : Nat} (x : Th) (h : k < B.length) : (cmpT2 B[k] x < 0 → skipL (B.drop k) x = skipL (B.drop (k + 1)) x) ∧ (¬ cmpT2 B[k] x < 0 → skipL (B.drop k) x = B.drop k) ∧ likeB (B.drop k) x = decide (cmpT2 B[k] x = 0) := by
  rw [List.drop_eq_getElem_cons h]
  refine ⟨fun hc => ?_, fun hc => ?_, rfl⟩
  · conv => lhs; unfold skipL
    rw [if_pos hc]
  · conv => lhs; unfold skipL
    rw [if_neg hc]
/-- What Held leaves. -/
def RowEnd (L : List Th) (w : World) (e : Ending) (w' : World) : Prop := ∃ v, e = .returned v ∧ OwnTh w.heap.size w' v L ∧ Below w.heap.size w w'
set_option maxRecDepth 100000 in
set_option maxHeartbeats 4000000 in
theorem held_true {S S' : Nat → Prop} {a b : Value} {A B : List Th} {w : World} (ha : ThIn S w a A) (hb : ThIn S' w b B) (hA : A.length ≤ 1000) (hB : B.length ≤ 1000) :
    Calls Try.prog 29 #[a, b, .bool true] w (RowEnd (onlyL (amStep true) B A) w) := by
  have HA := Lib.hid ha
  have HB := Lib.hid hb
  obtain ⟨pa, ca, rfl, hla, -, -⟩ := ha
  obtain ⟨pb, cb, rfl, hlb, -, -⟩ := hb
  have HLa := Lib.hid hA
  have HLb := Lib.hid hB
  have H0 := Lib.hid (show HeJ true A B w 0 0 (.slice none 0 0) w from ⟨[], OwnTh.nil _ _, rfl, Below.refl _ _, Nat.le_refl _⟩)
  go_enter Try.func29, Try.ntmps29
  go_wp2_with fail
  go_loopw [7, 8, 9] (fun k v i wr => ∃ kk ii : Nat, kk ≤ B.length ∧ ii ≤ A.length ∧ k = .int .i64 kk ∧ i = .int .i64 ii ∧ Hid (HeJ true A B w kk ii v wr)) (fun _ _ i _ => A.length - (intOf i).toNat)
  case atStart => exact ⟨0, 0, Nat.zero_le _, Nat.zero_le _, rfl, rfl, H0⟩
  case round =>
    obtain ⟨k0, ii, hk0, hii, rfl, rfl, HJ⟩ := hrel
    by_cases hlt : ii < A.length
    · have hlt' : (ii : Int) < (A.length : Int) := by omega
      obtain ⟨ab, ao, rfl, habl, hac⟩ := HA.out.row (by intro e; rw [e] at hlt; simp at hlt)
      obtain ⟨x, hx⟩ : ∃ x, x = A[ii] := ⟨_, rfl⟩
      have hac1 := hac ii hlt
      rw [← hx] at hac1
      have HAc := Lib.hid (show ∀ W, Below w.heap.size w W → W.cell? ⟨ab, ao + ii * 2, none⟩ = some (.int .i8 x.1) ∧ W.cell? ⟨ab, ao + ii * 2 + 1, none⟩ = some (.int .i64 x.2) from fun W hb => ⟨(hb.cell (p := ⟨ab, _, none⟩) habl).trans hac1.1, (hb.cell (p := ⟨ab, _, none⟩) habl).trans hac1.2⟩)
      have HX := Lib.hid hx.symm
      clear hac hac1 hx
      go_wp2_with fail
      go_loopw [7] (fun k wq => ∃ kk : Nat, kk ≤ B.length ∧ k = .int .i64 kk ∧ Hid (skipL (B.drop kk) x = skipL (B.drop k0) x ∧ HeJ true A B w k0 ii u8 wq)) (fun k _ => B.length - (intOf k).toNat)
      case atStart => exact ⟨k0, hk0, rfl, Lib.hid ⟨rfl, HJ.out⟩⟩
      case round =>
        obtain ⟨kk, hkk, rfl, HR⟩ := hrel
        have HSk := Lib.hid HR.out.1
        have HJ1 := Lib.hid HR.out.2
        clear HR
        by_cases hkl : kk < B.length
        · have hkl' : (kk : Int) < (B.length : Int) := by omega
          obtain ⟨bb, bo, rfl, hbbl, hbc⟩ := HB.out.row (by intro e; rw [e] at hkl; simp at hkl)
          obtain ⟨y, hy⟩ : ∃ y, y = B[kk] := ⟨_, rfl⟩
          have hbc1 := hbc kk hkl
          rw [← hy] at hbc1
          have HFall := Lib.hid (show ∀ W, HeJ true A B w k0 ii u8 W → W.cell? ⟨bb, bo + kk * 2, none⟩ = some (.int .i8 y.1) ∧ W.cell? ⟨bb, bo + kk * 2 + 1, none⟩ = some (.int .i64 y.2) ∧ W.cell? ⟨ab, ao + ii * 2, none⟩ = some (.int .i8 x.1) ∧ W.cell? ⟨ab, ao + ii * 2 + 1, none⟩ = some (.int .i64 x.2) from fun W h => by
            obtain ⟨P, -, -, hb, -⟩ := h
            exact ⟨(hb.cell (p := ⟨bb, _, none⟩) hbbl).trans hbc1.1, (hb.cell (p := ⟨bb, _, none⟩) hbbl).trans hbc1.2, (HAc.out W hb).1, (HAc.out W hb).2⟩)
          have hsk := skip_some (B := B) x hkl
          rw [← hy] at hsk
          obtain ⟨z, hz⟩ : ∃ z, z = cmpT2 y x := ⟨_, rfl⟩
          rw [← hz] at hsk
          have HZ := Lib.hid hz
          have HK := Lib.hid hsk
          have HF1 := Lib.hid (HFall.out _ HJ1.out)
          clear hbc hbc1 hy hz hsk
          by_cases hz0 : z < 0
          · have HSn := Lib.hid ((HK.out.1 hz0).symm.trans HSk.out)
            go_wp2_with fail
            go_region_held3 (fun X => X.cell? ⟨bb, bo + kk * 2, none⟩ = some (.int .i8 y.1) ∧ X.cell? ⟨bb, bo + kk * 2 + 1, none⟩ = some (.int .i64 y.2) ∧ X.cell? ⟨ab, ao + ii * 2, none⟩ = some (.int .i8 x.1) ∧ X.cell? ⟨ab, ao + ii * 2 + 1, none⟩ = some (.int .i64 x.2)) (first | exact HF1.out | exact HG2.out)
              ((go_at_call 22; refine (cmp_any y x _).mono ?_; rintro e w2 ⟨rfl, hb2⟩; rw [← HZ.out]; have HJ2 := Lib.hid (HJ1.out.below ((Below.refl _ _).drew.trans hb2)); have HG2 := Lib.hid (HFall.out _ HJ2.out); clear hb2))
            go_wp2_with fail
            go_roundw
            case rel => exact ⟨kk + 1, hkl, by simp, Lib.hid ⟨HSn.out, HJ2.out⟩⟩
            case measure => simp [intOf]; omega
          · by_cases hz1 : z = 0
            · have HLk := Lib.hid (show likeB (B.drop kk) x = true by rw [HK.out.2.2]; exact decide_eq_true hz1)
              subst hz1
              have HSs := Lib.hid (HK.out.2.1 hz0)
              go_wp2_with fail
              go_region_held3 (fun X => X.cell? ⟨bb, bo + kk * 2, none⟩ = some (.int .i8 y.1) ∧ X.cell? ⟨bb, bo + kk * 2 + 1, none⟩ = some (.int .i64 y.2) ∧ X.cell? ⟨ab, ao + ii * 2, none⟩ = some (.int .i8 x.1) ∧ X.cell? ⟨ab, ao + ii * 2 + 1, none⟩ = some (.int .i64 x.2)) (first | exact HF1.out | exact HG2.out)
                ((go_at_call 22; refine (cmp_any y x _).mono ?_; rintro e w2 ⟨rfl, hb2⟩; rw [← HZ.out]; have HJ2 := Lib.hid (HJ1.out.below ((Below.refl _ _).drew.trans hb2)); have HG2 := Lib.hid (HFall.out _ HJ2.out); clear hb2))
              go_wp2_with fail
              go_region_held3 (fun X => X.cell? ⟨bb, bo + kk * 2, none⟩ = some (.int .i8 y.1) ∧ X.cell? ⟨bb, bo + kk * 2 + 1, none⟩ = some (.int .i64 y.2) ∧ X.cell? ⟨ab, ao + ii * 2, none⟩ = some (.int .i8 x.1) ∧ X.cell? ⟨ab, ao + ii * 2 + 1, none⟩ = some (.int .i64 x.2)) (first | exact HG2.out | exact HG3.out)
                ((go_at_call 22; refine (cmp_any y x _).mono ?_; rintro e w3 ⟨rfl, hb3⟩; rw [← HZ.out]; have HJ3 := Lib.hid (HJ2.out.below ((Below.refl _ _).drew.trans hb3)); have HG3 := Lib.hid (HFall.out _ HJ3.out); clear hb3))
              obtain ⟨W, hW⟩ : ∃ W, W = w3 := ⟨_, rfl⟩
              rw [← hW] at HJ3 ⊢
              clear hW
              obtain ⟨P, ho, hbW, hPl, hn⟩ := (HJ3.out.ask hlt HX.out HSk.out HSs.out).2 (by rw [HLk.out])
              have HN := Lib.hid hn
              have HO := Lib.hid ho
              have HBW := Lib.hid hbW
              obtain ⟨a0, a1⟩ := HAc.out W hbW
              have hP2 : P.length ≤ 1000000 := by have := HLa.out; omega
              have HP2 := Lib.hid hP2
              clear hn ho hbW hP2 hPl
              go_wp2_with (at_builtin; refine wpList_appTh rfl (.tmp 52) (.tmp 57) rfl w.heap.size _ _ _ P [x] rfl rfl (HO.out.alloc _) (litTh_in W x.1 x.2) HP2.out (by simp) (HBW.out.alloc HBW.out.size _).size ?_; rintro v9 w9 ho9 hg9 -; have HJn := Lib.hid (HN.out v9 w9 ho9 ((HBW.out.alloc HBW.out.size _).grown hg9 (HBW.out.alloc HBW.out.size _).size (fun k e => (HO.out.lt k e).1))); clear ho9 hg9)
              go_roundw
              case rel => exact ⟨kk, ii + 1, hkk, hlt, rfl, by simp, HJn⟩
              case measure => simp [intOf]; omega
            · have HLk := Lib.hid (show likeB (B.drop kk) x = false by rw [HK.out.2.2]; exact decide_eq_false hz1)
              have hz2 : (z == 0) = false := by simpa using hz1
              have hz3 : (z != 0) = true := by unfold bne; rw [hz2]; rfl
              have HSs := Lib.hid (HK.out.2.1 hz0)
              go_wp2_with fail
              go_region_held3 (fun X => X.cell? ⟨bb, bo + kk * 2, none⟩ = some (.int .i8 y.1) ∧ X.cell? ⟨bb, bo + kk * 2 + 1, none⟩ = some (.int .i64 y.2) ∧ X.cell? ⟨ab, ao + ii * 2, none⟩ = some (.int .i8 x.1) ∧ X.cell? ⟨ab, ao + ii * 2 + 1, none⟩ = some (.int .i64 x.2)) (first | exact HF1.out | exact HG2.out)
                ((go_at_call 22; refine (cmp_any y x _).mono ?_; rintro e w2 ⟨rfl, hb2⟩; rw [← HZ.out]; have HJ2 := Lib.hid (HJ1.out.below ((Below.refl _ _).drew.trans hb2)); have HG2 := Lib.hid (HFall.out _ HJ2.out); clear hb2))
              go_wp2_with fail
              go_region_held3 (fun X => X.cell? ⟨bb, bo + kk * 2, none⟩ = some (.int .i8 y.1) ∧ X.cell? ⟨bb, bo + kk * 2 + 1, none⟩ = some (.int .i64 y.2) ∧ X.cell? ⟨ab, ao + ii * 2, none⟩ = some (.int .i8 x.1) ∧ X.cell? ⟨ab, ao + ii * 2 + 1, none⟩ = some (.int .i64 x.2)) (first | exact HG2.out | exact HG3.out)
                ((go_at_call 22; refine (cmp_any y x _).mono ?_; rintro e w3 ⟨rfl, hb3⟩; rw [← HZ.out]; have HJ3 := Lib.hid (HJ2.out.below ((Below.refl _ _).drew.trans hb3)); have HG3 := Lib.hid (HFall.out _ HJ3.out); clear hb3))
              obtain ⟨W, hW⟩ : ∃ W, W = w3 := ⟨_, rfl⟩
              rw [← hW] at HJ3 ⊢
              clear hW
              have HJn := Lib.hid ((HJ3.out.ask hlt HX.out HSk.out HSs.out).1 (by rw [HLk.out]; rfl))
              go_wp2_with fail
              go_roundw
              case rel => exact ⟨kk, ii + 1, hkk, hlt, rfl, by simp, HJn⟩
              case measure => simp [intOf]; omega
        · have hkl' : ¬ (kk : Int) < (B.length : Int) := by omega
          have HSs := Lib.hid (skip_none (B := B) (k := kk) x (by omega))
          have HJ2 := Lib.hid (HJ1.out.below ((Below.refl _ _).drew.drew))
          go_wp2_with fail
          go_region
          go_wp2_with fail
          go_region
          obtain ⟨W, hW⟩ : ∃ W, W = wr.drew.drew := ⟨_, rfl⟩
          rw [← hW] at HJ2 ⊢
          clear hW
          have HJn := Lib.hid ((HJ2.out.ask hlt HX.out HSk.out HSs.out.1).1 (by rw [HSs.out.2]; rfl))
          go_wp2_with fail
          go_roundw
          case rel => exact ⟨kk, ii + 1, hkk, hlt, rfl, by simp, HJn⟩
          case measure => simp [intOf]; omega
    · obtain rfl : ii = A.length := by omega
      go_wp2_with fail
      go_ret
      obtain ⟨P, h1, h2, h3, -⟩ := HJ.out
      rw [List.drop_length] at h2
      have e : onlyL (amStep true) B A = P := by rw [h2]; unfold onlyL; rw [List.append_nil]
      rw [e]
      exact ⟨_, rfl, h1, h3⟩
set_option maxRecDepth 100000 in
set_option maxHeartbeats 4000000 in
theorem held_false {S S' : Nat → Prop} {a b : Value} {A B : List Th} {w : World} (ha : ThIn S w a A) (hb : ThIn S' w b B) (hA : A.length ≤ 1000) (hB : B.length ≤ 1000) :
    Calls Try.prog 29 #[a, b, .bool false] w (RowEnd (onlyL (amStep false) B A) w) := by
  have HA := Lib.hid ha
  have HB := Lib.hid hb
  obtain ⟨pa, ca, rfl, hla, -, -⟩ := ha
  obtain ⟨pb, cb, rfl, hlb, -, -⟩ := hb
  have HLa := Lib.hid hA
  have HLb := Lib.hid hB
  have H0 := Lib.hid (show HeJ false A B w 0 0 (.slice none 0 0) w from ⟨[], OwnTh.nil _ _, rfl, Below.refl _ _, Nat.le_refl _⟩)
  go_enter Try.func29, Try.ntmps29
  go_wp2_with fail
  go_loopw [7, 8, 9] (fun k v i wr => ∃ kk ii : Nat, kk ≤ B.length ∧ ii ≤ A.length ∧ k = .int .i64 kk ∧ i = .int .i64 ii ∧ Hid (HeJ false A B w kk ii v wr)) (fun _ _ i _ => A.length - (intOf i).toNat)
  case atStart => exact ⟨0, 0, Nat.zero_le _, Nat.zero_le _, rfl, rfl, H0⟩
  case round =>
    obtain ⟨k0, ii, hk0, hii, rfl, rfl, HJ⟩ := hrel
    by_cases hlt : ii < A.length
    · have hlt' : (ii : Int) < (A.length : Int) := by omega
      obtain ⟨ab, ao, rfl, habl, hac⟩ := HA.out.row (by intro e; rw [e] at hlt; simp at hlt)
      obtain ⟨x, hx⟩ : ∃ x, x = A[ii] := ⟨_, rfl⟩
      have hac1 := hac ii hlt
      rw [← hx] at hac1
      have HAc := Lib.hid (show ∀ W, Below w.heap.size w W → W.cell? ⟨ab, ao + ii * 2, none⟩ = some (.int .i8 x.1) ∧ W.cell? ⟨ab, ao + ii * 2 + 1, none⟩ = some (.int .i64 x.2) from fun W hb => ⟨(hb.cell (p := ⟨ab, _, none⟩) habl).trans hac1.1, (hb.cell (p := ⟨ab, _, none⟩) habl).trans hac1.2⟩)
      have HX := Lib.hid hx.symm
      clear hac hac1 hx
      go_wp2_with fail
      go_loopw [7] (fun k wq => ∃ kk : Nat, kk ≤ B.length ∧ k = .int .i64 kk ∧ Hid (skipL (B.drop kk) x = skipL (B.drop k0) x ∧ HeJ false A B w k0 ii u8 wq)) (fun k _ => B.length - (intOf k).toNat)
      case atStart => exact ⟨k0, hk0, rfl, Lib.hid ⟨rfl, HJ.out⟩⟩
      case round =>
        obtain ⟨kk, hkk, rfl, HR⟩ := hrel
        have HSk := Lib.hid HR.out.1
        have HJ1 := Lib.hid HR.out.2
        clear HR
        by_cases hkl : kk < B.length
        · have hkl' : (kk : Int) < (B.length : Int) := by omega
          obtain ⟨bb, bo, rfl, hbbl, hbc⟩ := HB.out.row (by intro e; rw [e] at hkl; simp at hkl)
          obtain ⟨y, hy⟩ : ∃ y, y = B[kk] := ⟨_, rfl⟩
          have hbc1 := hbc kk hkl
          rw [← hy] at hbc1
          have HFall := Lib.hid (show ∀ W, HeJ false A B w k0 ii u8 W → W.cell? ⟨bb, bo + kk * 2, none⟩ = some (.int .i8 y.1) ∧ W.cell? ⟨bb, bo + kk * 2 + 1, none⟩ = some (.int .i64 y.2) ∧ W.cell? ⟨ab, ao + ii * 2, none⟩ = some (.int .i8 x.1) ∧ W.cell? ⟨ab, ao + ii * 2 + 1, none⟩ = some (.int .i64 x.2) from fun W h => by
            obtain ⟨P, -, -, hb, -⟩ := h
            exact ⟨(hb.cell (p := ⟨bb, _, none⟩) hbbl).trans hbc1.1, (hb.cell (p := ⟨bb, _, none⟩) hbbl).trans hbc1.2, (HAc.out W hb).1, (HAc.out W hb).2⟩)
          have hsk := skip_some (B := B) x hkl
          rw [← hy] at hsk
          obtain ⟨z, hz⟩ : ∃ z, z = cmpT2 y x := ⟨_, rfl⟩
          rw [← hz] at hsk
          have HZ := Lib.hid hz
          have HK := Lib.hid hsk
          have HF1 := Lib.hid (HFall.out _ HJ1.out)
          clear hbc hbc1 hy hz hsk
          by_cases hz0 : z < 0
          · have HSn := Lib.hid ((HK.out.1 hz0).symm.trans HSk.out)
            go_wp2_with fail
            go_region_held3 (fun X => X.cell? ⟨bb, bo + kk * 2, none⟩ = some (.int .i8 y.1) ∧ X.cell? ⟨bb, bo + kk * 2 + 1, none⟩ = some (.int .i64 y.2) ∧ X.cell? ⟨ab, ao + ii * 2, none⟩ = some (.int .i8 x.1) ∧ X.cell? ⟨ab, ao + ii * 2 + 1, none⟩ = some (.int .i64 x.2)) (first | exact HF1.out | exact HG2.out)
              ((go_at_call 22; refine (cmp_any y x _).mono ?_; rintro e w2 ⟨rfl, hb2⟩; rw [← HZ.out]; have HJ2 := Lib.hid (HJ1.out.below ((Below.refl _ _).drew.trans hb2)); have HG2 := Lib.hid (HFall.out _ HJ2.out); clear hb2))
            go_wp2_with fail
            go_roundw
            case rel => exact ⟨kk + 1, hkl, by simp, Lib.hid ⟨HSn.out, HJ2.out⟩⟩
            case measure => simp [intOf]; omega
          · by_cases hz1 : z = 0
            · have HLk := Lib.hid (show likeB (B.drop kk) x = true by rw [HK.out.2.2]; exact decide_eq_true hz1)
              subst hz1
              have HSs := Lib.hid (HK.out.2.1 hz0)
              go_wp2_with fail
              go_region_held3 (fun X => X.cell? ⟨bb, bo + kk * 2, none⟩ = some (.int .i8 y.1) ∧ X.cell? ⟨bb, bo + kk * 2 + 1, none⟩ = some (.int .i64 y.2) ∧ X.cell? ⟨ab, ao + ii * 2, none⟩ = some (.int .i8 x.1) ∧ X.cell? ⟨ab, ao + ii * 2 + 1, none⟩ = some (.int .i64 x.2)) (first | exact HF1.out | exact HG2.out)
                ((go_at_call 22; refine (cmp_any y x _).mono ?_; rintro e w2 ⟨rfl, hb2⟩; rw [← HZ.out]; have HJ2 := Lib.hid (HJ1.out.below ((Below.refl _ _).drew.trans hb2)); have HG2 := Lib.hid (HFall.out _ HJ2.out); clear hb2))
              go_wp2_with fail
              go_region_held3 (fun X => X.cell? ⟨bb, bo + kk * 2, none⟩ = some (.int .i8 y.1) ∧ X.cell? ⟨bb, bo + kk * 2 + 1, none⟩ = some (.int .i64 y.2) ∧ X.cell? ⟨ab, ao + ii * 2, none⟩ = some (.int .i8 x.1) ∧ X.cell? ⟨ab, ao + ii * 2 + 1, none⟩ = some (.int .i64 x.2)) (first | exact HG2.out | exact HG3.out)
                ((go_at_call 22; refine (cmp_any y x _).mono ?_; rintro e w3 ⟨rfl, hb3⟩; rw [← HZ.out]; have HJ3 := Lib.hid (HJ2.out.below ((Below.refl _ _).drew.trans hb3)); have HG3 := Lib.hid (HFall.out _ HJ3.out); clear hb3))
              obtain ⟨W, hW⟩ : ∃ W, W = w3 := ⟨_, rfl⟩
              rw [← hW] at HJ3 ⊢
              clear hW
              have HJn := Lib.hid ((HJ3.out.ask hlt HX.out HSk.out HSs.out).1 (by rw [HLk.out]; rfl))
              go_wp2_with fail
              go_roundw
              case rel => exact ⟨kk, ii + 1, hkk, hlt, rfl, by simp, HJn⟩
              case measure => simp [intOf]; omega
            · have HLk := Lib.hid (show likeB (B.drop kk) x = false by rw [HK.out.2.2]; exact decide_eq_false hz1)
              have hz2 : (z == 0) = false := by simpa using hz1
              have hz3 : (z != 0) = true := by unfold bne; rw [hz2]; rfl
              have HSs := Lib.hid (HK.out.2.1 hz0)
              go_wp2_with fail
              go_region_held3 (fun X => X.cell? ⟨bb, bo + kk * 2, none⟩ = some (.int .i8 y.1) ∧ X.cell? ⟨bb, bo + kk * 2 + 1, none⟩ = some (.int .i64 y.2) ∧ X.cell? ⟨ab, ao + ii * 2, none⟩ = some (.int .i8 x.1) ∧ X.cell? ⟨ab, ao + ii * 2 + 1, none⟩ = some (.int .i64 x.2)) (first | exact HF1.out | exact HG2.out)
                ((go_at_call 22; refine (cmp_any y x _).mono ?_; rintro e w2 ⟨rfl, hb2⟩; rw [← HZ.out]; have HJ2 := Lib.hid (HJ1.out.below ((Below.refl _ _).drew.trans hb2)); have HG2 := Lib.hid (HFall.out _ HJ2.out); clear hb2))
              go_wp2_with fail
              go_region_held3 (fun X => X.cell? ⟨bb, bo + kk * 2, none⟩ = some (.int .i8 y.1) ∧ X.cell? ⟨bb, bo + kk * 2 + 1, none⟩ = some (.int .i64 y.2) ∧ X.cell? ⟨ab, ao + ii * 2, none⟩ = some (.int .i8 x.1) ∧ X.cell? ⟨ab, ao + ii * 2 + 1, none⟩ = some (.int .i64 x.2)) (first | exact HG2.out | exact HG3.out)
                ((go_at_call 22; refine (cmp_any y x _).mono ?_; rintro e w3 ⟨rfl, hb3⟩; rw [← HZ.out]; have HJ3 := Lib.hid (HJ2.out.below ((Below.refl _ _).drew.trans hb3)); have HG3 := Lib.hid (HFall.out _ HJ3.out); clear hb3))
              obtain ⟨W, hW⟩ : ∃ W, W = w3 := ⟨_, rfl⟩
              rw [← hW] at HJ3 ⊢
              clear hW
              obtain ⟨P, ho, hbW, hPl, hn⟩ := (HJ3.out.ask hlt HX.out HSk.out HSs.out).2 (by rw [HLk.out])
              have HN := Lib.hid hn
              have HO := Lib.hid ho
              have HBW := Lib.hid hbW
              obtain ⟨a0, a1⟩ := HAc.out W hbW
              have hP2 : P.length ≤ 1000000 := by have := HLa.out; omega
              have HP2 := Lib.hid hP2
              clear hn ho hbW hP2 hPl
              go_wp2_with (at_builtin; refine wpList_appTh rfl (.tmp 52) (.tmp 57) rfl w.heap.size _ _ _ P [x] rfl rfl (HO.out.alloc _) (litTh_in W x.1 x.2) HP2.out (by simp) (HBW.out.alloc HBW.out.size _).size ?_; rintro v9 w9 ho9 hg9 -; have HJn := Lib.hid (HN.out v9 w9 ho9 ((HBW.out.alloc HBW.out.size _).grown hg9 (HBW.out.alloc HBW.out.size _).size (fun k e => (HO.out.lt k e).1))); clear ho9 hg9)
              go_roundw
              case rel => exact ⟨kk, ii + 1, hkk, hlt, rfl, by simp, HJn⟩
              case measure => simp [intOf]; omega
        · have hkl' : ¬ (kk : Int) < (B.length : Int) := by omega
          have HSs := Lib.hid (skip_none (B := B) (k := kk) x (by omega))
          have HJ2 := Lib.hid (HJ1.out.below ((Below.refl _ _).drew.drew))
          go_wp2_with fail
          go_region
          go_wp2_with fail
          go_region
          obtain ⟨W, hW⟩ : ∃ W, W = wr.drew.drew := ⟨_, rfl⟩
          rw [← hW] at HJ2 ⊢
          clear hW
          obtain ⟨P, ho, hbW, hPl, hn⟩ := (HJ2.out.ask hlt HX.out HSk.out HSs.out.1).2 (by rw [HSs.out.2])
          have HN := Lib.hid hn
          have HO := Lib.hid ho
          have HBW := Lib.hid hbW
          obtain ⟨a0, a1⟩ := HAc.out W hbW
          have hP2 : P.length ≤ 1000000 := by have := HLa.out; omega
          have HP2 := Lib.hid hP2
          clear hn ho hbW hP2 hPl
          go_wp2_with (at_builtin; refine wpList_appTh rfl (.tmp 52) (.tmp 57) rfl w.heap.size _ _ _ P [x] rfl rfl (HO.out.alloc _) (litTh_in W x.1 x.2) HP2.out (by simp) (HBW.out.alloc HBW.out.size _).size ?_; rintro v9 w9 ho9 hg9 -; have HJn := Lib.hid (HN.out v9 w9 ho9 ((HBW.out.alloc HBW.out.size _).grown hg9 (HBW.out.alloc HBW.out.size _).size (fun k e => (HO.out.lt k e).1))); clear ho9 hg9)
          go_roundw
          case rel => exact ⟨kk, ii + 1, hkk, hlt, rfl, by simp, HJn⟩
          case measure => simp [intOf]; omega
    · obtain rfl : ii = A.length := by omega
      go_wp2_with fail
      go_ret
      obtain ⟨P, h1, h2, h3, -⟩ := HJ.out
      rw [List.drop_length] at h2
      have e : onlyL (amStep false) B A = P := by rw [h2]; unfold onlyL; rw [List.append_nil]
      rw [e]
      exact ⟨_, rfl, h1, h3⟩
theorem held_any {S S' : Nat → Prop} {a b : Value} {A B : List Th} {w : World} (ha : ThIn S w a A) (hb : ThIn S' w b B) (hA : A.length ≤ 1000) (hB : B.length ≤ 1000) (there : Bool) :
    Calls Try.prog 29 #[a, b, .bool there] w (RowEnd (onlyL (amStep there) B A) w) := by
  cases there with
  | true => exact held_true ha hb hA hB
  | false => exact held_false ha hb hA hB
end Go.Proofs.Ytcfnpbmkcdmafaa

