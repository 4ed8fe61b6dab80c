/-
  For every number and kind the law CrcLong returns true and leaves its arguments as they were: a piece with too many bytes has no frame, and a head that tells too many is none.
  Conditions: those that the row prints; the table crc.nibbles holds what its initialiser lays, which the card ties to the program's text; none of the proof's own.
-/
import Derived.Test.YteaeiejkdnbcnaaDoorCrLz
import Derived.Test.YteaeiejkdnbcnaaDoorTie
import Derived.Test.YteaeiejkdnbcnaaDoorCards
namespace Go.Proofs.YteaeiejkdnbcnaaDoor
open Go Go.RowKit

set_option maxHeartbeats 2000000 in
set_option maxRecDepth 100000 in
theorem long_any (n k : Nat) (w : World) (hn : n ≤ 255) (hk : k ≤ 255) (HG0 : Glob w) :
    Calls Tryd.prog 6 #[.int .u8 (n : Nat), .int .u8 (k : Nat)] w fun e w' => e = .returned (.bool true) ∧ Below w.heap.size w w' := by
  have HG := Lib.hid HG0
  obtain ⟨K, hK⟩ : ∃ K : UInt8, (k : Int) = (K.toNat : Int) := ⟨UInt8.ofNat k, by rw [UInt8.toNat_ofNat', Nat.mod_eq_of_lt (by omega)]⟩
  rw [hK]
  obtain ⟨i0, hi, hz0, hz1, hz2⟩ := info_parts Tryd.infoB
  have HI := Lib.hid hi
  have HZ0 := Lib.hid hz0
  have HZ1 := Lib.hid hz1
  have HZ2 := Lib.hid hz2
  have q1 : (0 : Int) ≤ (n : Int) := by omega
  have q2 : (n : Int) ≤ 255 := by omega
  clear HG0 hK hi hz0 hz1 hz2
  go_enter Tryd.func6, Tryd.ntmps6
  go_wp2_with fail
  refine (awake_true w HG.out).mono ?_
  rintro e w1 ⟨rfl, hb1⟩
  have HB1 := Lib.hid hb1
  clear hb1
  go_wp2_with (at_make; refine wpList_make_full w1 rfl _ _ 22 rfl w1.heap.size 5 i0 (.int .u8 0) 1 Tryd.underlying22 HI.out HZ0.out HZ1.out .i64 .i64 1048577 1048577 1048577 rfl rfl rfl rfl (by rw [HZ2.out]; decide) (by unfold maxLen; decide) (Nat.le_refl _) ?_; intro w2 ho2 hb2)
  have HB2 := Lib.hid (HB1.out.trans (Below.mono (Below.grown (Below.refl w1.heap.size w1) hb2 (Nat.le_refl _) (fun k hk => by cases hk)) HB1.out.size))
  have HF := Lib.hid (frame_long K (some ⟨w1.heap.size, 0, none⟩) 1048577 (List.replicate 1048577 0) w2 (by rw [List.length_replicate]; decide))
  rw [List.length_replicate] at HF
  clear ho2 hb2
  refine HF.out.mono ?_
  rintro e w3 ⟨rfl, hb3⟩
  have HB3 := Lib.hid (HB2.out.trans (hb3.mono HB2.out.size))
  clear hb3
  obtain ⟨h5, hh5⟩ : ∃ h5, h5 = K :: encL (BitVec.ofNat 32 (1048577 + n)) := ⟨_, rfl⟩
  have hl5 : h5.length = 5 := by rw [hh5]; rfl
  have HI4 := Lib.hid (show BytIn (w3.heap.size + 1) (w3.alloc (.cells #[.int .u8 (K.toNat : Int), .int .u8 ((1048577 + (n : Int)) % 256), .int .u8 ((1048577 + (n : Int)) / 256 % 256), .int .u8 ((1048577 + (n : Int)) / 65536), .int .u8 ((1048577 + (n : Int)) / 16777216)] 5)) (.slice (some ⟨w3.heap.size, 0, none⟩) 5 5) h5 from
    BytIn.lit w3 _ h5 5 hl5.symm (by
      have hr : rg (BitVec.ofNat 32 (1048577 + n)) = 1048577 + (n : Int) := by
        unfold rg
        rw [BitVec.toNat_ofNat]
        omega
      rw [hh5]
      show _ = .int .u8 (K.toNat : Int) :: bytesV (encL (BitVec.ofNat 32 (1048577 + n)))
      rw [encL_v, hr, show (1048577 + (n : Int)) / 65536 % 256 = (1048577 + (n : Int)) / 65536 by omega]))
  obtain ⟨w4, hw4⟩ : ∃ w4, w4 = w3.alloc (.cells #[.int .u8 (K.toNat : Int), .int .u8 ((1048577 + (n : Int)) % 256), .int .u8 ((1048577 + (n : Int)) / 256 % 256), .int .u8 ((1048577 + (n : Int)) / 65536), .int .u8 ((1048577 + (n : Int)) / 16777216)] 5) := ⟨_, rfl⟩
  have HB4 := Lib.hid (show Below w.heap.size w w4 by rw [hw4]; exact HB3.out.alloc HB3.out.size _)
  have hs4 : w4.heap.size = w3.heap.size + 1 := by rw [hw4]; exact size_one _ _
  rw [← hw4, ← hs4] at HI4
  have HH5 := Lib.hid hh5
  have HL5 := Lib.hid hl5
  clear hh5 hl5
  go_wp2_with fail
  rw [← hw4]
  clear hw4 hs4
  refine (rseal_any _ h5 w4 HI4.out (by rw [HL5.out]; decide)).mono ?_
  rintro e w5 ⟨v5, rfl, ho5, hb5⟩
  have HB5 := Lib.hid (HB4.out.trans (hb5.mono HB4.out.size))
  obtain ⟨g, cap, e5, hg5⟩ := ho5.rowZ (by rw [sealL_len]; omega)
  subst e5
  have HL9 := Lib.hid (show (sealL h5).length = 9 by rw [sealL_len, HL5.out])
  have HO5 := Lib.hid ho5
  have HG5 := Lib.hid hg5
  have HZ5 := Lib.hid hb5.size
  clear ho5 hb5 hg5
  go_wp2_with (at_builtin; refine wpList_zeros rfl (.tmp 39) (.tmp 41) rfl w4.heap.size g cap n (sealL h5) rfl rfl HO5.out (by omega) (by rw [HL9.out]; decide) HZ5.out HG5.out ?_; intro v6 w6 ho6 hb6)
  have HO6 := Lib.hid ho6
  have HB6 := Lib.hid (HB5.out.trans (hb6.mono (by have := HB4.out.size; omega)))
  clear ho6 hb6
  have HU := Lib.hid (unfE_long K n (List.replicate n 0) (by omega))
  rw [← HH5.out] at HU
  refine (unf_any v6 (sealL h5 ++ List.replicate n 0) w6 HO6.out.byC (by rw [List.length_append, HL9.out]; omega) (by rw [List.length_append, HL9.out, List.length_replicate]; omega) (HG.out.below HB6.out)).mono ?_
  rintro e w7 ⟨v7, rfl, ho7, hb7⟩
  rw [HU.out] at ho7 ⊢
  have HB7 := Lib.hid (HB6.out.trans (hb7.mono HB6.out.size))
  obtain ⟨p7, c7, e7⟩ := ho7.in_.shape
  subst e7
  clear ho7 hb7
  have HFin := Lib.hid (HB7.out.alloc HB7.out.size (.cells #[.int .u8 0, .slice p7 0 c7] 35))
  go_wp2_with fail
  go_ret
  exact ⟨rfl, HFin.out⟩

open Go.ChangeShapes Go.WideShapes Go.ChangeAt
set_option maxRecDepth 100000 in
theorem lifted_long_any (os : Os) (started : os.Started) (H : Type) (enc : TypeId × Value → H) :
    ReturnsInHanded {} Tryd.checked os 6 .any (fun w args => (Rows.crcLongSpec.pre enc Tryd.prog Tryd.f6 [] false w args ∧ laidMetH Tryd.prog laid4 w) ∧ sizedMet enc Tryd.prog Tryd.f6 (OpenSpec.ofChange Rows.crcLongSpec) false w args)
      (Rows.crcLongSpec.post enc Tryd.prog Tryd.f6 false true false false) := by
  refine returnsInHanded_of_change_and (C := Tryd.checked) (X := fun w _ => laidMetH Tryd.prog laid4 w) (fun _ _ _ hh h => h.of_heap hh) own started (by kernel_rfl) Tryd.func6
    (ChangeSpec.witness_shaped (enc := enc) (C := Tryd.checked) (os := os) (X := fun w _ => laidMetH Tryd.prog laid4 w) false (World.doorLaid Tryd.prog 400 os) #[.int .u8 0, .int .u8 0] 8 rfl (World.shaped_of_RefB (by kernel_rfl) (by kernel_rfl)) (by kernel_rfl) (by kernel_rfl) (by kernel_rfl) (door_met os _)) ?_
  intro W base args ds gs before hval0 hW _ _ hL _
  have hval : ∀ (j : Nat) t v, Tryd.f6.params[j]? = some t → args[j]? = some v → Value.okWide Tryd.prog W .any base t v := hval0
  have hW' := hW
  obtain ⟨p, q, hA0, hV, rfl, hfz, hnd⟩ := hW
  have hA : DataW.TrodAll enc Tryd.prog W 0 (fun _ => true) true Tryd.f6.params.toList args.toList ds p := hA0
  rw [Tryd.params6] at hA hval
  obtain ⟨v0, vs0, d0, ds0, p0, q0, hargs, rfl, rfl, h0, r0⟩ := trodAll_cons hA
  obtain ⟨v1, vs1, d1, ds1, p1, q1, rfl, rfl, rfl, h1, r1⟩ := trodAll_cons r0
  obtain ⟨rfl, rfl, rfl⟩ := trodAll_nil r1
  obtain rfl : args = #[v0, v1] := by cases args; simp_all
  obtain ⟨rfl, rfl⟩ := trodVars_none hV
  have t0 := h0
  have lt0 : ∀ x ∈ p0, x.block < W.heap.size := by obtain ⟨m, hm⟩ := t0; exact DataW.trod_lt m _ _ _ hm
  have t1 := h1
  have lt1 : ∀ x ∈ p1, x.block < W.heap.size := by obtain ⟨m, hm⟩ := t1; exact DataW.trod_lt m _ _ _ hm
  obtain ⟨x0v, rfl, -, -, wf0⟩ := open_int Tryd.underlying5 (hval 0 5 v0 rfl rfl) h0
  have wg0 : 0 ≤ x0v ∧ x0v ≤ 255 := by simpa [Lit.wf, IntKind.min, IntKind.max, IntKind.signed, IntKind.bits] using wf0
  obtain ⟨n0, rfl⟩ := Int.eq_ofNat_of_zero_le wg0.1
  obtain ⟨x1v, rfl, -, -, wf1⟩ := open_int Tryd.underlying5 (hval 1 5 v1 rfl rfl) h1
  have wg1 : 0 ≤ x1v ∧ x1v ≤ 255 := by simpa [Lit.wf, IntKind.min, IntKind.max, IntKind.signed, IntKind.bits] using wf1
  obtain ⟨n1, rfl⟩ := Int.eq_ofNat_of_zero_le wg1.1
  clear hA0 hval0
  refine (long_any n0 n1 W (by have := wg0.2; omega) (by have := wg1.2; omega) (glob_of_laid hL)).mono fun e W' ⟨he, bel⟩ => ?_
  subst he
  exact ⟨_, rfl, _, _, _, [], _, [], hW', trodAll_mk1 (shut_bool Tryd.underlying4 _), (trodAll_cons_mk (Below.trod laidOut (by kernel_rfl) (of_decide_eq_true (by kernel_rfl)) t0 bel lt0) (trodAll_cons_mk (Below.trod laidOut (by kernel_rfl) (of_decide_eq_true (by kernel_rfl)) t1 bel lt1) trodAll_mk0)), rfl, bel.frame _, fun h => by cases h⟩

theorem holds_long_any : Rows.CrcLongSaid :=
  OpenClaim.holds_of_wide 6 Tryd.f6 rfl rfl rfl rfl rfl rfl rfl ⟨rfl, rfl, rfl, rfl, rfl⟩ rfl rfl rfl rfl rfl (by kernel_rfl) Tryd.func6 (by kernel_rfl)
    (of_decide_eq_true (by kernel_rfl)) (by unfold Func.isWrapper; rw [if_neg (of_decide_eq_false (by kernel_rfl))]; exact ⟨rfl, rfl⟩)
    (fun os started H enc _ => lifted_long_any os started H enc)

theorem card_long_any : Rows.CrcLongCardSaid :=
  Claim7.holds_tied_plain_at .later [] Rows.crcLongCard.laidKinds true Rows.crcLongCard.stood.harness Rows.crcLongCard.stood.looks
    holds_long_any (fun _ h => by cases h) (by kernel_rfl) (fun _ h => by cases h) crcLong_row_tie rfl ⟨rfl, rfl⟩ (by kernel_rfl) rfl
    (fun f fn hf hfn => by
      obtain rfl : f = 6 := Option.some.inj ((show Tryd.prog.funcNamed "pedigree/pedigreelaw04.CrcLong" = some 6 by kernel_rfl).symm.trans hf) |>.symm
      obtain rfl : fn = Tryd.f6 := (Option.some.inj (Tryd.func6.symm.trans hfn)).symm
      exact ⟨by kernel_rfl, fun j t ht => by
        rw [Tryd.params6] at ht
        have hm : t ∈ [5, 5] := by simpa using Array.mem_of_getElem? ht
        have hall : ([5, 5].all fun u => !Tryd.prog.wantsStandIn u) = true := by kernel_rfl
        exact (show Tryd.prog.wantsStandIn t = false by simpa using List.all_eq_true.1 hall t hm)⟩)
    (by kernel_rfl)
#print axioms card_long_any


end Go.Proofs.YteaeiejkdnbcnaaDoor
