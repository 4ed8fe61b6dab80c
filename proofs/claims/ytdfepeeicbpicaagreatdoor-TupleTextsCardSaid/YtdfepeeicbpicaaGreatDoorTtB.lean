/-
  The walk of the law TupleBack.
-/
import Derived.Test.YtdfepeeicbpicaaGreatDoorTtR
import Derived.Test.YtdfepeeicbpicaaGreatDoorTtF
namespace Go.Proofs.YtdfepeeicbpicaaGreatDoor
open Go Go.RowKit

theorem strT_list (T : List V3) : (strT T).data.toList = textT T := by simp [strT]
theorem strT_inj {A B : List V3} (hA : ValT A) (hB : ValT B) (e : strT A = strT B) : A = B := textT_inj hA hB (by rw [← strT_list, ← strT_list, e])
theorem valT_ok {T : List V3} (h : OkT T) (hI : ∀ x ∈ T, I64 x.n) : ValT T := fun x hx => ⟨h.2 x hx, hI x hx⟩
theorem arg_i64 {w : World} {v : Value} {T : List V3} (h : ArgT w v T) : ∀ x ∈ T.take 20, I64 x.n := fun x hx => by
  obtain ⟨_, _, -, -, -, -, h4⟩ := h
  exact (h4 x (List.mem_of_mem_take hx)).1
theorem strT_size {T : List V3} (h : OkT T) (hv : ValT T) : (strT T).size ≤ 1000000 := by
  have h1 := joinT_len T hv
  have h2 := h.1
  rw [Lib.size_eq, strT_list]
  unfold textT
  simp
  omega
theorem TupIn.stepT {w w' : World} {v : Value} {T : List V3} (h : TupIn w.heap.size w v T) (hb : Below w.heap.size w w') : TupIn w'.heap.size w' v T := (h.below hb).mono hb.size
/-- Same, in one form. -/
theorem same_st {w : World} {v1 v2 : Value} {A B : List V3} (h1 : TupIn w.heap.size w v1 A) (h2 : TupIn w.heap.size w v2 B) : Calls Tryz.prog 10 #[v1, v2] w fun e w' => e = .returned (.bool (cmpT A B == 0)) ∧ Below w.heap.size w w' :=
  (same_any v1 v2 A B w.heap.size w h1 h2 (Nat.le_refl _)).mono fun _ _ ⟨he, hg⟩ => ⟨he, hg.below⟩
theorem text_eq {A B : List V3} (hA : ValT A) (hB : ValT B) : ((strT A).toList == (strT B).toList) = (cmpT A B == 0) := by
  by_cases h : A = B
  · subst h
    rw [cmpT_self]
    simp
  · have h1 : cmpT A B ≠ 0 := fun e => h ((cmpT_zero A B).1 e)
    have h2 : (strT A).toList ≠ (strT B).toList := fun e => h (strT_inj hA hB (by
      apply ByteArray.ext
      apply Array.toList_inj.1
      rw [← Lib.toList_data, ← Lib.toList_data, e]))
    rw [beq_eq_false_iff_ne.2 h2, beq_eq_false_iff_ne.2 h1]
set_option maxHeartbeats 4000000 in
set_option maxRecDepth 100000 in
theorem lback (va : Value) (A₀ : List V3) (vb : Value) (B₀ : List V3) (w : World) (h1 : ArgT w va A₀) (h2 : ArgT w vb B₀) (G : Glob w) :
    Calls Tryz.prog 4 #[va, vb] w fun e w' => e = .returned (.bool true) ∧ Below w.heap.size w w' := by
  have HG := Lib.hid G
  have H1 := Lib.hid h1
  have H2 := Lib.hid h2
  have HIa := Lib.hid (arg_i64 h1)
  have HIb := Lib.hid (arg_i64 h2)
  clear h1 h2 G
  go_enter Tryz.func4, Tryz.ntmps4
  go_wp2_with fail
  refine (awake_true _ HG.out).mono ?_
  rintro e w1 ⟨rfl, b1⟩
  have B1 := Lib.hid b1
  replace H1 := Lib.hid (H1.out.below b1)
  replace H2 := Lib.hid (H2.out.below b1)
  clear b1
  go_wp2_with fail
  refine (cut_any va A₀ w1 H1.out).mono ?_
  rintro e w2 ⟨xa, rfl, ca, rfl⟩
  have HA := Lib.hid ca.1
  clear ca
  go_wp2_with fail
  refine (cut_any vb B₀ w1 H2.out).mono ?_
  rintro e w2 ⟨xb, rfl, cb, rfl⟩
  have HB := Lib.hid cb.1
  clear cb H1 H2
  generalize A₀.take 20 = A at HA HIa
  generalize B₀.take 20 = B at HB HIb
  go_wp2_with fail
  refine (ttext_any xa A w1.heap.size w1 HA.out (Nat.le_refl _) HIa.out (HG.out.below B1.out)).mono ?_
  rintro e w2 ⟨hta, b2⟩
  have B2 := Lib.hid (B1.out.trans (b2.mono B1.out.size))
  replace HA := Lib.hid (HA.out.stepT b2)
  replace HB := Lib.hid (HB.out.stepT b2)
  clear b2
  rcases hta with ⟨oa, rfl⟩ | ⟨oa, rfl⟩
  · have HOa := Lib.hid oa
    have HVa := Lib.hid (valT_ok oa HIa.out)
    clear oa
    go_wp2_with fail
    refine (ttext_any xb B w2.heap.size w2 HB.out (Nat.le_refl _) HIb.out (HG.out.below B2.out)).mono ?_
    rintro e w3 ⟨htb, b3⟩
    have B3 := Lib.hid (B2.out.trans (b3.mono B2.out.size))
    replace HA := Lib.hid (HA.out.stepT b3)
    replace HB := Lib.hid (HB.out.stepT b3)
    clear b3
    rcases htb with ⟨ob, rfl⟩ | ⟨ob, rfl⟩
    · have HOb := Lib.hid ob
      have HVb := Lib.hid (valT_ok ob HIb.out)
      have HEq := Lib.hid (text_eq HVa.out HVb.out)
      have HRd := Lib.hid (tread_any (strT A) w3 (strT_size HOa.out HVa.out) (HG.out.below B3.out))
      rw [strT_list] at HRd
      have HInj := Lib.hid (fun A' (hv : ValT A') (e : textT A' = textT A) => textT_inj hv HVa.out e)
      clear ob
      generalize strT A = sa at HEq HRd ⊢
      generalize strT B = sb at HEq ⊢
      go_wp2_with fail
      refine HRd.out.mono ?_
      rintro e w4 ⟨b4, ⟨v4, A', rfl, hi4, hv4, h84, he4⟩ | ⟨rfl, hno⟩⟩
      case inr => exact absurd rfl (hno A HVa.out HOa.out.1)
      obtain rfl := HInj.out A' hv4 he4
      have HR4 := Lib.hid hi4
      have B4 := Lib.hid (B3.out.trans (b4.mono B3.out.size))
      replace HA := Lib.hid (HA.out.stepT b4)
      replace HB := Lib.hid (HB.out.stepT b4)
      clear b4 hi4 hv4 h84 he4 HRd HInj
      go_wp2_with fail
      refine (same_st HR4.out HA.out).mono ?_
      rintro e w5 ⟨rfl, b5⟩
      rw [cmpT_self]
      have B5 := Lib.hid (B4.out.trans (b5.mono B4.out.size))
      replace HA := Lib.hid (HA.out.stepT b5)
      replace HB := Lib.hid (HB.out.stepT b5)
      have HEq' := HEq.out
      clear b5 HR4
      obtain ⟨z, hz⟩ : ∃ z, z = (cmpT A' B == 0) := ⟨_, rfl⟩
      rw [← hz] at HEq'
      go_wp2_with fail
      refine (same_st HA.out HB.out).mono ?_
      rintro e w6 ⟨rfl, b6⟩
      rw [← hz]
      have B6 := Lib.hid (B5.out.trans (b6.mono B5.out.size))
      clear b6 hz
      go_wp2_with fail
      go_ret
      exact ⟨by simp, B6.out⟩
    · have HOb := Lib.hid ob
      clear ob
      go_wp2_with fail
      refine (rcheck_any xa A w3.heap.size w3 HA.out (Nat.le_refl _)).mono ?_
      rintro e w4 ⟨⟨-, rfl⟩ | ⟨hno, -⟩, b4⟩
      case inr => exact absurd HOa.out hno
      have B4 := Lib.hid (B3.out.trans (b4.mono B3.out.size))
      replace HB := Lib.hid (HB.out.stepT b4)
      clear b4
      go_wp2_with fail
      refine (rcheck_any xb B w4.heap.size w4 HB.out (Nat.le_refl _)).mono ?_
      rintro e w5 ⟨⟨hyes, -⟩ | ⟨-, rfl⟩, b5⟩
      case inl => exact absurd hyes HOb.out
      have B5 := Lib.hid (B4.out.trans (b5.mono B4.out.size))
      clear b5
      go_wp2_with fail
      go_ret
      exact ⟨rfl, B5.out⟩
  · have HOa := Lib.hid oa
    clear oa
    go_wp2_with fail
    refine (ttext_any xb B w2.heap.size w2 HB.out (Nat.le_refl _) HIb.out (HG.out.below B2.out)).mono ?_
    rintro e w3 ⟨htb, b3⟩
    have B3 := Lib.hid (B2.out.trans (b3.mono B2.out.size))
    replace HA := Lib.hid (HA.out.stepT b3)
    clear b3
    obtain ⟨sb, z, rfl⟩ : ∃ sb z, e = .returned (.tuple #[.string sb, .int .i64 z]) := by
      rcases htb with ⟨-, rfl⟩ | ⟨-, rfl⟩
      · exact ⟨_, _, rfl⟩
      · exact ⟨_, _, rfl⟩
    clear htb
    go_wp2_with fail
    refine (rcheck_any xa A w3.heap.size w3 HA.out (Nat.le_refl _)).mono ?_
    rintro e w4 ⟨⟨hyes, -⟩ | ⟨-, rfl⟩, b4⟩
    case inl => exact absurd hyes HOa.out
    have B4 := Lib.hid (B3.out.trans (b4.mono B3.out.size))
    clear b4
    go_wp2_with fail
    go_ret
    exact ⟨rfl, B4.out⟩
end Go.Proofs.YtdfepeeicbpicaaGreatDoor
