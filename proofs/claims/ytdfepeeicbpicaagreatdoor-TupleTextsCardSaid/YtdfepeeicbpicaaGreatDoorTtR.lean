/-
  Contract of tuple.Read at any text.
-/
import Derived.Test.YtdfepeeicbpicaaGreatDoorTtV
namespace Go.Proofs.YtdfepeeicbpicaaGreatDoor
open Go Go.RowKit

/-- What Read answers: the tuple whose text it is, if there is one. -/
def RdEnd (L : List UInt8) (w : World) (e : Ending) (w' : World) : Prop :=
  Below w.heap.size w w' ∧ ((∃ v A, e = .returned (.tuple #[v, .int .i64 0]) ∧ TupIn w'.heap.size w' v A ∧ ValT A ∧ A.length ≤ 8 ∧ textT A = L) ∨ (e = .returned (.tuple #[.slice none 0 0, .int .i64 20]) ∧ ∀ T, ValT T → T.length ≤ 8 → textT T ≠ L))
theorem open_pre (T : List V3) : Lib.hasPrefix (textT T) [40] = true := by simp [Lib.hasPrefix, textT]
theorem close_suf (T : List V3) : Lib.hasSuffix ((textT T).drop 1) [41] = true := by
  show List.isSuffixOf [41] ((textT T).drop 1) = true
  rw [List.isSuffixOf_iff_suffix]
  exact ⟨joinT T, by simp [textT]⟩
theorem pre_cons {l : List UInt8} (h : Lib.hasPrefix l [40] = true) : l = 40 :: l.drop 1 := by
  obtain ⟨t, rfl⟩ := List.isPrefixOf_iff_prefix.1 h
  rfl
theorem suf_snoc {l : List UInt8} (h : Lib.hasSuffix l [41] = true) : l = l.take (l.length - 1) ++ [41] := by
  obtain ⟨t, rfl⟩ := List.isSuffixOf_iff_suffix.1 h
  simp
set_option maxHeartbeats 2000000 in
set_option maxRecDepth 100000 in
theorem tread_any (s : ByteArray) (w : World) (hs : s.size ≤ 1000000) (G : Glob w) :
    Calls Tryz.prog 8 #[.string s] w (RdEnd s.data.toList w) := by
  have HG := Lib.hid G
  have HP := Lib.hid (cutpre_any s ⟨#[40]⟩ w hs)
  clear G
  go_enter Tryz.func8, Tryz.ntmps8
  go_wp2_with fail
  refine HP.out.mono ?_
  cases hp : Lib.hasPrefix s.data.toList (⟨#[40]⟩ : ByteArray).data.toList with
  | false =>
    rintro e w1 ⟨rfl, rfl⟩
    have HNo := Lib.hid (show ∀ T, ValT T → T.length ≤ 8 → textT T ≠ s.data.toList from fun T _ _ e => by
      have := open_pre T
      rw [e] at this
      rw [show Lib.hasPrefix s.data.toList [40] = false from hp] at this
      cases this)
    have HC := Lib.hid (cutsuf_any s ⟨#[41]⟩ w hs)
    clear hp
    go_wp2_with fail
    refine HC.out.mono ?_
    rintro e w2 ⟨rfl, rfl⟩
    generalize (if Lib.hasSuffix s.data.toList (⟨#[41]⟩ : ByteArray).data.toList = true then _ else _) = X
    generalize Lib.hasSuffix s.data.toList (⟨#[41]⟩ : ByteArray).data.toList = y
    go_wp2_with fail
    go_ret2
    exact ⟨Below.refl _ _, .inr ⟨rfl, HNo.out⟩⟩
  | true =>
    have h40 := pre_cons (l := s.data.toList) hp
    have hl1 : (s.extract (⟨#[40]⟩ : ByteArray).size s.size).data.toList = s.data.toList.drop 1 := by rw [tail_list]; rfl
    have hs1 : (s.extract (⟨#[40]⟩ : ByteArray).size s.size).size ≤ 1000000 := by rw [ByteArray.size_extract]; omega
    obtain ⟨s1, hs1'⟩ : ∃ s1, s1 = s.extract (⟨#[40]⟩ : ByteArray).size s.size := ⟨_, rfl⟩
    rw [← hs1'] at hl1 hs1 ⊢
    rintro e w1 ⟨rfl, rfl⟩
    have H40 := Lib.hid h40
    have HL1 := Lib.hid hl1
    have HC := Lib.hid (cutsuf_any s1 ⟨#[41]⟩ w hs1)
    clear hp h40 hl1 hs1'
    go_wp2_with fail
    refine HC.out.mono ?_
    cases hq : Lib.hasSuffix s1.data.toList (⟨#[41]⟩ : ByteArray).data.toList with
    | false =>
      rintro e w2 ⟨rfl, rfl⟩
      have HNo := Lib.hid (show ∀ T, ValT T → T.length ≤ 8 → textT T ≠ s.data.toList from fun T _ _ e => by
        have := close_suf T
        rw [e, ← HL1.out] at this
        rw [show Lib.hasSuffix s1.data.toList [41] = false from hq] at this
        cases this)
      clear hq
      go_wp2_with fail
      go_ret2
      exact ⟨Below.refl _ _, .inr ⟨rfl, HNo.out⟩⟩
    | true =>
      have h41 := suf_snoc (l := s1.data.toList) hq
      have hl2 : (s1.extract 0 (s1.size - (⟨#[41]⟩ : ByteArray).size)).data.toList = s1.data.toList.take (s1.data.toList.length - 1) := by rw [head_list, ← Lib.size_eq]; rfl
      have hs2 : (s1.extract 0 (s1.size - (⟨#[41]⟩ : ByteArray).size)).size ≤ 1000000 := by rw [ByteArray.size_extract]; omega
      obtain ⟨s2, hs2'⟩ : ∃ s2, s2 = s1.extract 0 (s1.size - (⟨#[41]⟩ : ByteArray).size) := ⟨_, rfl⟩
      rw [← hs2'] at hl2 hs2 ⊢
      rintro e w2 ⟨rfl, rfl⟩
      have HEq := Lib.hid (show ∀ T, textT T = s.data.toList ↔ joinT T = s2.data.toList from fun T => by
        rw [H40.out, ← HL1.out, h41, ← hl2]
        unfold textT
        rw [List.cons_append]
        constructor
        · intro e
          injection e with _ e
          exact List.append_cancel_right e
        · intro e
          rw [e])
      have HV := Lib.hid (valsT_any s2 w hs2 HG.out)
      clear hq h41 hl2 hs2'
      go_wp2_with fail
      refine HV.out.mono ?_
      rintro e w3 ⟨hb3, v3, ok, rfl, ⟨rfl, A, hA, hva, h8, hj⟩ | ⟨rfl, hno⟩⟩
      · have HB3 := Lib.hid hb3
        have HR := Lib.hid (show TupIn w3.heap.size w3 v3 A ∧ ValT A ∧ A.length ≤ 8 ∧ textT A = s.data.toList from ⟨hA, hva, h8, (HEq.out A).2 hj⟩)
        clear hb3 hA hva h8 hj
        go_wp2_with fail
        go_ret2
        exact ⟨HB3.out, .inl ⟨v3, A, rfl, HR.out⟩⟩
      · have HB3 := Lib.hid hb3
        have HNo := Lib.hid (show ∀ T, ValT T → T.length ≤ 8 → textT T ≠ s.data.toList from fun T hT h8 e => hno T hT h8 ((HEq.out T).1 e))
        clear hb3 hno
        go_wp2_with fail
        go_ret2
        exact ⟨HB3.out, .inr ⟨rfl, HNo.out⟩⟩
end Go.Proofs.YtdfepeeicbpicaaGreatDoor
