/-
  The frame of a pack law's proof: closed facts on the program; an argument that is a byte slice, opened.
-/
import Derived.Test.YthnpiafpkllbpaaPkW
import Derived.Test.YthnpiafpkllbpaaOpenB
import Derived.ProofKit
import Derived.OpenShut
import Derived.ChangeOld
import Derived.Lib.SmallJoins
namespace Go.Proofs.Ythnpiafpkllbpaa
open Go Go.RowKit Go.ChangeShapes Go.WideShapes Go.Deep

set_option maxRecDepth 100000
theorem own : ownKnob Try.prog.godebug = none := by kernel_rfl
theorem laidOut : laidOutB Try.prog = true := by kernel_rfl
theorem cellsU8 : Try.prog.cellsOf 5 = 1 := by kernel_rfl
/-- A byte slice that an argument brings. -/
def ArgB (W : World) (v : Value) (l : List UInt8) : Prop := BytIn W.heap.size W v l ∧ ∃ (p : Option Addr) (cap : Nat), v = .slice p l.length cap ∧ l.length ≤ cap ∧ cap ≤ maxLen
theorem open_byt {H : Type} {enc : TypeId × Value → H} {W : World} {base : Nat} {sp : Nat → Bool} {held : Bool} {r : Reach} {b0 : Nat} {v : Value} {d : DataW H} {p : List MemPlace}
    (hv : Value.okWide Try.prog W r b0 22 v) (h : DataW.Trod enc Try.prog W base sp held 22 v d p) : ∃ l : List UInt8, ArgB W v l := by
  obtain ⟨a, len, cap, rfl⟩ := okWide_slice Try.underlying22 hv
  obtain ⟨fuel, hf⟩ := h
  have hf' : DataW.trod enc Try.prog W base sp held fuel 22 [.slice a len cap] = some (d, p) := hf
  rcases open_slice Try.underlying22 hf' with ⟨e, -⟩ | ⟨a', len', cap', m, n, D, Pl, e, -, hle, hcap, hm, -, hi⟩
  · simp at e
    obtain ⟨rfl, rfl, rfl⟩ := e
    exact ⟨[], .inl ⟨rfl, rfl⟩, none, 0, rfl, Nat.le_refl _, Nat.zero_le _⟩
  · simp at e
    obtain ⟨rfl, rfl, rfl⟩ := e
    have hlm : len ≤ m := by rw [hm]; split <;> omega
    have hx : ∀ i, i < len → ∃ c : UInt8, W.cell? (a'.add i) = some (.int .u8 (c.toNat : Int)) := by
      intro i hil
      obtain ⟨cs', hc, ht⟩ := hi i (by omega)
      rw [cellsU8] at hc
      obtain ⟨_, hcl, hat⟩ := World.cells?_some hc
      match cs', hcl with
      | [c0], _ =>
        obtain ⟨k, hk, -, wk⟩ := DataW.trod_int Try.underlying5 ht
        simp at hk
        subst hk
        have h0 := hat 0 (by omega)
        have e0 : (a'.add (i * 1)).add 0 = a'.add i := by unfold Addr.add; simp
        rw [e0] at h0
        have wk' : 0 ≤ k ∧ k ≤ 255 := by simpa [Lit.wf, IntKind.min, IntKind.max, IntKind.signed, IntKind.bits] using wk
        refine ⟨UInt8.ofNat k.toNat, ?_⟩
        rw [u8_cell wk']
        exact h0
    obtain ⟨l, rfl, hl⟩ := list_of _ hx
    refine ⟨l, .inr ⟨a', cap, rfl, fun j hj => ⟨?_, hl j hj⟩⟩, some a', cap, rfl, hle, hcap⟩
    have hb := World.block_lt_of_cell? W _ (hl j hj)
    rwa [add_block] at hb
theorem ArgB.below {W W' : World} {v : Value} {l : List UInt8} (h : ArgB W v l) (hb : Below W.heap.size W W') : ArgB W' v l := ⟨(h.1.below hb).mono hb.size, h.2⟩
end Go.Proofs.Ythnpiafpkllbpaa
