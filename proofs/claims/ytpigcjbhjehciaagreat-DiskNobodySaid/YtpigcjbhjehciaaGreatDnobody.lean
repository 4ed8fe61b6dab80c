/-
  For every act the law DiskNobody returns true and leaves its argument as it was: a disk that nobody made refuses every call, and the example of a loss of power holds.
  Conditions: those that the row prints; none of the proof's own.
-/
import Derived.Test.YtpigcjbhjehciaaGreatDkP
import Derived.Test.YtpigcjbhjehciaaGreatDkAl
import Derived.Test.YtpigcjbhjehciaaGreatDkOp
namespace Go.Proofs.YtpigcjbhjehciaaGreat
open Go Go.RowKit

theorem lnobody (kd at_ : Int) (nm to_ : ByteArray) (b l0 l1 l2 : Value) (w : World) :
    Calls Tryz.prog 4 #[.agg #[.int .i64 kd, .string nm, .string to_, .int .i64 at_, b, l0, l1, l2]] w fun e w' => e = .returned (.bool true) ∧ Below w.heap.size w w' :=
  lnobody_of kd at_ nm to_ b l0 l1 l2 w (Lib.hid alive_true)

open Go.ChangeShapes Go.WideShapes Go.ChangeAt
set_option maxRecDepth 100000 in
theorem lifted_dnobody (os : Os) (started : os.Started) (H : Type) (enc : TypeId × Value → H) :
    ReturnsInHanded {} Tryz.checked os 4 .any (Rows.diskNobodySpec.pre6 enc Tryz.prog Tryz.f4 Rows.diskNobodyRow.domain false) (Rows.diskNobodySpec.post enc Tryz.prog Tryz.f4 false true false false) := by
  refine returnsInHanded_of_change (C := Tryz.checked) own started (by kernel_rfl) Tryz.func4
    (ChangeSpec.witness6 (enc := enc) (C := Tryz.checked) false ⟨#[], #[.agg #[.int .i64 0, .string ⟨#[]⟩, .string ⟨#[]⟩, .int .i64 0, .slice none 0 0, .int .i64 0, .slice none 0 0, .slice none 0 0]], []⟩ 8 (by kernel_rfl) (by kernel_rfl) (by kernel_rfl) (by kernel_rfl)) ?_
  intro W base args ds gs before hval0 hW _ _
  have hval : ∀ (j : Nat) t v, Tryz.f4.params[j]? = some t → args[j]? = some v → Value.okWide Tryz.prog W .any base t v := hval0
  have hW' := hW
  obtain ⟨p, q, hA0, hV, rfl, hfz, hnd⟩ := hW
  have hA : DataW.TrodAll enc Tryz.prog W 0 (fun _ => true) true Tryz.f4.params.toList args.toList ds p := hA0
  rw [Tryz.params4] at hA hval
  obtain ⟨v0, vs0, d0, ds0, p0, q0, hargs, rfl, rfl, h0, r0⟩ := trodAll_cons hA
  obtain ⟨rfl, rfl, rfl⟩ := trodAll_nil r0
  obtain rfl : args = #[v0] := by cases args; simp_all
  obtain ⟨rfl, rfl⟩ := trodVars_none hV
  have t0 := h0
  have lt0 : ∀ x ∈ p0, x.block < W.heap.size := by obtain ⟨m, hm⟩ := t0; exact DataW.trod_lt m _ _ _ hm
  obtain ⟨kd0, at0, nm0, to0, b0, l00, l01, l02, rfl⟩ := open_op (hval 0 36 v0 rfl rfl) h0
  clear hA0 hval0
  refine (lnobody kd0 at0 nm0 to0 b0 l00 l01 l02 W ).mono fun e W' ⟨he, bel⟩ => ?_
  subst he
  exact ⟨_, rfl, _, _, _, [], _, [], hW', trodAll_mk1 (shut_bool Tryz.underlying4 _), (trodAll_cons_mk (Below.trod laidOut (by kernel_rfl) (of_decide_eq_true (by kernel_rfl)) t0 bel lt0) trodAll_mk0), rfl, bel.frame _, fun h => by cases h⟩

theorem holds_dnobody : Rows.DiskNobodySaid :=
  OpenClaim.holds_of_wide 4 Tryz.f4 rfl rfl rfl rfl rfl rfl rfl ⟨rfl, rfl, rfl, rfl, rfl⟩ rfl rfl rfl rfl rfl (by kernel_rfl) Tryz.func4 (by kernel_rfl)
    (of_decide_eq_true (by kernel_rfl)) (by unfold Func.isWrapper; rw [if_neg (of_decide_eq_false (by kernel_rfl))]; exact ⟨rfl, rfl⟩)
    (fun os started H enc _ => lifted_dnobody os started H enc)
#print axioms holds_dnobody

end Go.Proofs.YtpigcjbhjehciaaGreat
