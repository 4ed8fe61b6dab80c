/-
  strings.CutPrefix, strings.CutSuffix; tuple.extent.
-/
import Derived.Test.YtdfepeeicbpicaaGreatDoorTtP
import Derived.Test.YtdfepeeicbpicaaGreatDoorShelfP
import Derived.Test.YtdfepeeicbpicaaGreatDoorTupC
namespace Go.Proofs.YtdfepeeicbpicaaGreatDoor
open Go Go.RowKit

theorem tail_list (s : ByteArray) (k : Nat) : (s.extract k s.size).data.toList = s.data.toList.drop k := by
  rw [Lib.extract_data, List.take_of_length_le (by rw [List.length_drop, ← Lib.size_eq]; omega)]
theorem head_list (s : ByteArray) (k : Nat) : (s.extract 0 k).data.toList = s.data.toList.take k := by
  rw [Lib.extract_data]
  simp
/-- What is left behind a beginning, or ahead of an end. -/
def CutEndS (ok : Bool) (yes no : ByteArray) (w : World) (e : Ending) (w' : World) : Prop := e = .returned (.tuple #[.string (if ok = true then yes else no), .bool ok]) ∧ w = w'
theorem pre_len {s p : ByteArray} (h : Lib.hasPrefix s.data.toList p.data.toList = true) : p.size ≤ s.size := by
  have := (List.isPrefixOf_iff_prefix.1 h).length_le
  rwa [← Lib.size_eq, ← Lib.size_eq] at this
theorem suf_len {s p : ByteArray} (h : Lib.hasSuffix s.data.toList p.data.toList = true) : p.size ≤ s.size := by
  have := (List.isSuffixOf_iff_suffix.1 h).length_le
  rwa [← Lib.size_eq, ← Lib.size_eq] at this
set_option maxHeartbeats 400000 in
theorem slpre_any (s p : ByteArray) (w : World) (hs : s.size ≤ 1000000) :
    Calls Tryz.prog 35 #[.string s, .string p] w (CutEndS (Lib.hasPrefix s.data.toList p.data.toList) (s.extract p.size s.size) s w) := by
  have HP := Lib.hid (Tryz.stringslite_HasPrefix s p w)
  go_enter Tryz.func35, Tryz.ntmps35
  cases hb : Lib.hasPrefix s.data.toList p.data.toList with
  | true =>
    have hl := pre_len hb
    have hl' : (p.size : Int) ≤ (s.size : Int) := by omega
    have hs' : (s.size : Int) ≤ 1000000 := by omega
    rw [hb] at HP
    go_wp2_with fail
    refine HP.out.mono ?_
    rintro e w1 ⟨rfl, rfl⟩
    go_wp2_with fail
    go_ret2
    exact ⟨rfl, rfl⟩
  | false =>
    rw [hb] at HP
    go_wp2_with fail
    refine HP.out.mono ?_
    rintro e w1 ⟨rfl, rfl⟩
    go_wp2_with fail
    go_ret2
    exact ⟨rfl, rfl⟩
set_option maxHeartbeats 400000 in
theorem cutpre_any (s p : ByteArray) (w : World) (hs : s.size ≤ 1000000) :
    Calls Tryz.prog 17 #[.string s, .string p] w (CutEndS (Lib.hasPrefix s.data.toList p.data.toList) (s.extract p.size s.size) s w) := by
  have HP := Lib.hid (slpre_any s p w hs)
  go_enter Tryz.func17, Tryz.ntmps17
  go_wp2_with fail
  refine HP.out.mono ?_
  rintro e w1 ⟨rfl, rfl⟩
  go_wp2_with fail
  all_goals (go_ret2; exact ⟨rfl, rfl⟩)
set_option maxHeartbeats 400000 in
theorem slsuf_any (s p : ByteArray) (w : World) (hs : s.size ≤ 1000000) :
    Calls Tryz.prog 36 #[.string s, .string p] w (CutEndS (Lib.hasSuffix s.data.toList p.data.toList) (s.extract 0 (s.size - p.size)) s w) := by
  have HP := Lib.hid (Tryz.stringslite_HasSuffix s p w (by omega))
  go_enter Tryz.func36, Tryz.ntmps36
  cases hb : Lib.hasSuffix s.data.toList p.data.toList with
  | true =>
    have hl := suf_len hb
    have hl' : (p.size : Int) ≤ (s.size : Int) := by omega
    have hs' : (s.size : Int) ≤ 1000000 := by omega
    have he : ((s.size : Int) - (p.size : Int)).toNat = s.size - p.size := by omega
    have h0 : (0 : Int) ≤ (s.size : Int) - (p.size : Int) := by omega
    have h1 : (s.size : Int) - (p.size : Int) ≤ 1000000 := by omega
    have h2 : (s.size : Int) - (p.size : Int) ≤ (s.size : Int) := by omega
    rw [hb] at HP
    go_wp2_with fail
    refine HP.out.mono ?_
    rintro e w1 ⟨rfl, rfl⟩
    go_wp2_with fail
    go_ret2
    exact ⟨rfl, rfl⟩
  | false =>
    rw [hb] at HP
    go_wp2_with fail
    refine HP.out.mono ?_
    rintro e w1 ⟨rfl, rfl⟩
    go_wp2_with fail
    go_ret2
    exact ⟨rfl, rfl⟩
set_option maxHeartbeats 400000 in
theorem cutsuf_any (s p : ByteArray) (w : World) (hs : s.size ≤ 1000000) :
    Calls Tryz.prog 18 #[.string s, .string p] w (CutEndS (Lib.hasSuffix s.data.toList p.data.toList) (s.extract 0 (s.size - p.size)) s w) := by
  have HP := Lib.hid (slsuf_any s p w hs)
  go_enter Tryz.func18, Tryz.ntmps18
  go_wp2_with fail
  refine HP.out.mono ?_
  rintro e w1 ⟨rfl, rfl⟩
  go_wp2_with fail
  all_goals (go_ret2; exact ⟨rfl, rfl⟩)
/-- How far extent has come. -/
def ExR (s : ByteArray) (q : Bool) (k : Nat) : Prop := (k ≤ s.size ∧ extL false s.data.toList = k + extL q (s.data.toList.drop k)) ∨ (k = s.size + 1 ∧ extL false s.data.toList = s.size)
theorem exr_start (s : ByteArray) : ExR s false 0 := .inl ⟨Nat.zero_le _, by simp⟩
theorem exr_end {s : ByteArray} {q : Bool} {k : Nat} (h : ExR s q k) (hk : s.size ≤ k) : extL false s.data.toList = s.size := by
  rcases h with ⟨h1, h2⟩ | ⟨-, h⟩
  · obtain rfl : k = s.size := by omega
    rw [h2, List.drop_of_length_le (by rw [← Lib.size_eq]; exact Nat.le_refl _)]
    rw [ext_nil]
    rfl
  · exact h
theorem exr_at {s : ByteArray} {q : Bool} {k : Nat} (h : ExR s q k) (hk : k < s.size) : extL false s.data.toList = k + extL q (s[k] :: s.data.toList.drop (k + 1)) := by
  rcases h with ⟨h1, h2⟩ | ⟨h1, -⟩
  · rw [h2, bytesAt s k hk]
  · omega
theorem exr_esc {s : ByteArray} {q : Bool} {k : Nat} (h : ExR s q k) (hk : k < s.size) (hc : s[k] = 92) : ExR s q (k + 1 + 1) := by
  have h1 := exr_at h hk
  rw [hc] at h1
  by_cases h2 : k + 1 < s.size
  · rw [bytesAt s (k + 1) h2, ext_esc] at h1
    exact .inl ⟨by omega, by omega⟩
  · rw [List.drop_of_length_le (by rw [← Lib.size_eq]; omega), ext_esc1] at h1
    exact .inr ⟨by omega, by omega⟩
theorem exr_quote {s : ByteArray} {q : Bool} {k : Nat} (h : ExR s q k) (hk : k < s.size) (hc : s[k] = 34) : ExR s (!q) (k + 1) := by
  have h1 := exr_at h hk
  rw [hc, ext_quote] at h1
  exact .inl ⟨by omega, by omega⟩
theorem exr_comma {s : ByteArray} {k : Nat} (h : ExR s false k) (hk : k < s.size) (hc : s[k] = 44) : extL false s.data.toList = k := by
  have h1 := exr_at h hk
  rwa [hc, ext_comma] at h1
theorem exr_other {s : ByteArray} {q : Bool} {k : Nat} (h : ExR s q k) (hk : k < s.size) (h1 : s[k] ≠ 92) (h2 : s[k] ≠ 34) (h3 : s[k] ≠ 44 ∨ q = true) : ExR s q (k + 1) := by
  have h4 := exr_at h hk
  rw [ext_other _ h1 h2 h3] at h4
  exact .inl ⟨by omega, by omega⟩
theorem byte_is {c d : UInt8} {n : Int} (hd : (d.toNat : Int) = n) (h : ((c.toNat : Int) == n) = true) : c = d := UInt8.toNat_inj.1 (by have := eq_of_beq h; omega)
theorem byte_ne {c d : UInt8} {n : Int} (hd : (d.toNat : Int) = n) (h : ((c.toNat : Int) == n) = false) : c ≠ d := by
  rintro rfl
  rw [hd] at h
  simp at h
set_option maxHeartbeats 1000000 in
set_option maxRecDepth 100000 in
theorem extent_any (s : ByteArray) (w : World) (hs : s.size ≤ 1000000) :
    Calls Tryz.prog 37 #[.string s] w fun e w' => e = .returned (.int .i64 ((extL false s.data.toList : Nat) : Int)) ∧ w = w' := by
  have hs' : (s.size : Int) ≤ 1000000 := by omega
  go_enter Tryz.func37, Tryz.ntmps37
  go_wp2_with fail
  go_loopw [3, 4] (fun qv i wr => ∃ k : Nat, k ≤ s.size + 1 ∧ i = .int .i64 k ∧ ∃ q : Bool, qv = .bool q ∧ Hid (ExR s q k) ∧ w = wr) (fun _ i _ => s.size + 1 - (intOf i).toNat)
  case atStart => exact ⟨0, Nat.zero_le _, rfl, false, rfl, Lib.hid (exr_start s), rfl⟩
  case round =>
    obtain ⟨k, hk, rfl, q, rfl, HI, rfl⟩ := hrel
    have h0 : (0 : Int) ≤ (k : Int) := by omega
    by_cases hlt : k < s.size
    case neg =>
      have hge : (s.size : Int) ≤ (k : Int) := by omega
      have HE := Lib.hid (exr_end HI.out (by omega))
      go_wp2_with fail
      go_ret
      exact ⟨by rw [HE.out]; rfl, rfl⟩
    have hlt' : (k : Int) < (s.size : Int) := by omega
    cases h92 : ((s[k].toNat : Int) == 92) with
    | true =>
      have HN := Lib.hid (exr_esc HI.out hlt (byte_is rfl h92))
      go_wp2_with fail
      go_roundw
      case rel => exact ⟨k + 1 + 1, by omega, by go_num, q, rfl, HN, trivial⟩
      case measure => simp [intOf]; omega
    | false =>
      have N92 := Lib.hid (byte_ne (d := 92) rfl h92)
      cases h34 : ((s[k].toNat : Int) == 34) with
      | true =>
        have HN := Lib.hid (exr_quote HI.out hlt (byte_is rfl h34))
        go_wp2_with fail
        go_roundw
        case rel => exact ⟨k + 1, by omega, by go_num, !q, rfl, HN, trivial⟩
        case measure => simp [intOf]; omega
      | false =>
        have N34 := Lib.hid (byte_ne (d := 34) rfl h34)
        cases h44 : ((s[k].toNat : Int) == 44) with
        | true =>
          cases q with
          | false =>
            have HE := Lib.hid (exr_comma HI.out hlt (byte_is rfl h44))
            go_wp2_with fail
            go_ret
            exact ⟨by rw [HE.out]; rfl, rfl⟩
          | true =>
            have HN := Lib.hid (exr_other HI.out hlt N92.out N34.out (.inr rfl))
            go_wp2_with fail
            go_roundw
            case rel => exact ⟨k + 1, by omega, by go_num, true, rfl, HN, trivial⟩
            case measure => simp [intOf]; omega
        | false =>
          have HN := Lib.hid (exr_other HI.out hlt N92.out N34.out (.inl (byte_ne rfl h44)))
          go_wp2_with fail
          go_roundw
          case rel => exact ⟨k + 1, by omega, by go_num, q, rfl, HN, trivial⟩
          case measure => simp [intOf]; omega
end Go.Proofs.YtdfepeeicbpicaaGreatDoor
