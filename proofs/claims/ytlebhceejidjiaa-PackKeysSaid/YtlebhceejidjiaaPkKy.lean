/-
  The law PackKeys' own walk.
-/
import Derived.Test.YtlebhceejidjiaaPkRf
namespace Go.Proofs.Ytlebhceejidjiaa
open Go Go.RowKit

theorem okO_len {o : Option (List V3)} {T : List V3} (h : okO o = some T) : T.length ≤ 8 := by
  unfold okO at h
  cases o with
  | none => cases h
  | some U =>
    simp only at h
    split at h
    · rename_i hm
      injection h with h
      rw [← h]
      exact hm.1
    · cases h
theorem nil_in (n : Nat) (w : World) : TupIn n w (.slice none 0 0) [] := ⟨none, 0, rfl, by simp, .inl rfl⟩
set_option maxHeartbeats 2000000 in
set_option maxRecDepth 100000 in
theorem keys_any (v : Value) (l : List UInt8) (w : World) (h : ArgB w v l) : Calls Try.prog 5 #[v] w fun e w' => e = .returned (.bool true) ∧ Below w.heap.size w w' := by
  have H := Lib.hid h
  clear h
  go_enter Try.func5, Try.ntmps5
  go_wp2_with fail
  refine (short_arg v l w H.out).mono ?_
  rintro e w0 ⟨⟨v0, rfl, hv⟩, rfl⟩
  have HV := Lib.hid hv
  have HLn := Lib.hid (shortL_len l)
  obtain ⟨m, hm⟩ : ∃ m, m = shortL l := ⟨_, rfl⟩
  rw [← hm] at HV HLn
  clear hv hm H
  have HQ := Lib.hid (keys_eq m.length m [] (Nat.le_refl _) (by simp) (by simp))
  go_wp2_with fail
  refine (fromKey_any v0 m w HV.out).mono ?_
  rintro e w1 ⟨hb1, hx1⟩
  have HV1 := Lib.hid (HV.out.below hb1)
  have HB1 := Lib.hid hb1
  clear hb1
  rcases hx1 with ⟨T, v1, ho1, rfl, hr1⟩ | ⟨ho1, rfl⟩
  · have HO1 := Lib.hid ho1
    have HR1 := Lib.hid hr1
    clear ho1 hr1
    go_wp2_with fail
    refine (rfromKey_any v0 m w1 HV1.out HLn.out).mono ?_
    rintro e w2 ⟨hb2, hx2⟩
    have HR12 := Lib.hid (HR1.out.below hb2)
    have HB2 := Lib.hid (below_2 HB1.out hb2)
    clear hb2
    rcases hx2 with ⟨T2, v2, ho2, rfl, hr2⟩ | ⟨ho2, rfl⟩
    · have e := ho2
      rw [← HQ.out, HO1.out] at e
      injection e with e
      subst e
      have HL8 := Lib.hid (okO_len ho2)
      have HS := Lib.hid (same_any v1 v2 T T w2.heap.size w2 (HR12.out.in_ (Nat.le_trans HL8.out (by decide))) (hr2.in_ (Nat.le_trans HL8.out (by decide))) (Nat.le_refl _))
      clear ho2 hr2
      go_wp2_with fail
      refine HS.out.mono ?_
      rintro e w3 ⟨rfl, hg⟩
      have HB3 := Lib.hid (below_2 HB2.out hg.below)
      have hc : (cmpT T T == 0) = true := by rw [cmpT_self]; rfl
      rw [hc]
      clear hg hc
      go_wp2_with fail
      refine (alive_true w3).mono ?_
      rintro e w4 ⟨rfl, hb4⟩
      have HB4 := Lib.hid (below_2 HB3.out hb4)
      clear hb4
      go_wp2_with fail
      go_ret
      exact ⟨rfl, HB4.out⟩
    · exact absurd (HO1.out.symm.trans (HQ.out.trans ho2)) (by simp)
  · have HO1 := Lib.hid ho1
    clear ho1
    go_wp2_with fail
    refine (rfromKey_any v0 m w1 HV1.out HLn.out).mono ?_
    rintro e w2 ⟨hb2, hx2⟩
    have HB2 := Lib.hid (below_2 HB1.out hb2)
    clear hb2
    rcases hx2 with ⟨T2, v2, ho2, rfl, hr2⟩ | ⟨ho2, rfl⟩
    · exact absurd (HO1.out.symm.trans (HQ.out.trans ho2)) (by simp)
    · have HS := Lib.hid (same_any (.slice none 0 0) (.slice none 0 0) [] [] w2.heap.size w2 (nil_in _ _) (nil_in _ _) (Nat.le_refl _))
      clear ho2
      go_wp2_with fail
      refine HS.out.mono ?_
      rintro e w3 ⟨rfl, hg⟩
      have HB3 := Lib.hid (below_2 HB2.out hg.below)
      have hc : (cmpT [] [] == 0) = true := by rw [cmpT_self]; rfl
      rw [hc]
      clear hg hc
      go_wp2_with fail
      refine (alive_true w3).mono ?_
      rintro e w4 ⟨rfl, hb4⟩
      have HB4 := Lib.hid (below_2 HB3.out hb4)
      clear hb4
      go_wp2_with fail
      go_ret
      exact ⟨rfl, HB4.out⟩
end Go.Proofs.Ytlebhceejidjiaa
