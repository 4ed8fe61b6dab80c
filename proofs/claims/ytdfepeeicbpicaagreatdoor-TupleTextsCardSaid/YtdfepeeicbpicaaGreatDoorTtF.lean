/-
  The frame of a tuple law's proof in a seat with the library's errors: what the row's condition on the library's variables gives the walks ('Glob'), the start that meets the condition; the laws' own cut.
-/
import Derived.Test.YtdfepeeicbpicaaGreatDoorAwake
import Derived.Test.YtdfepeeicbpicaaGreatDoorOpenB
import Derived.Test.YtdfepeeicbpicaaGreatDoorPre
import Derived.Test.YtdfepeeicbpicaaGreatDoorTtV
import Derived.ProofKit
import Derived.LaidMore
import Derived.OpenShut
import Derived.ShutString
import Derived.ChangeOld
import Derived.Stop.Joined
import Derived.Stop.LaidErr
import Derived.Lib.SmallJoins
namespace Go.Proofs.YtdfepeeicbpicaaGreatDoor
open Go Go.ChangeShapes Go.WideShapes Go.ChangeAt Go.RowKit Go.Deep

set_option maxRecDepth 100000
theorem own : ownKnob Tryz.prog.godebug = none := by kernel_rfl
theorem laidOut : laidOutB Tryz.prog = true := by kernel_rfl
theorem tyTab : (Tryz.prog.globals[0]?).map (·.type) = some 125 := by kernel_rfl
theorem tySyn : (Tryz.prog.globals[4]?).map (·.type) = some 72 := by kernel_rfl
theorem tyRng : (Tryz.prog.globals[5]?).map (·.type) = some 72 := by kernel_rfl
theorem cellsTab : Tryz.prog.cellsOf 125 = 20 := by kernel_rfl
theorem cellsU64 : Tryz.prog.cellsOf 77 = 1 := by kernel_rfl
theorem cellsErr : Tryz.prog.cellsOf 168 = 1 := by kernel_rfl
theorem cellsStr : Tryz.prog.cellsOf 9 = 1 := by kernel_rfl
theorem errStar : "*" ++ "errors.errorString" = "*errors.errorString" := by decide
theorem errRow (u : TypeId) (h : Tryz.prog.typeName? 3 u = some "*errors.errorString") : u = 166 :=
  typeName_ptr_named (nm := "errors.errorString") (by rw [errStar]; kernel_rfl) (by kernel_rfl) (by decide) u (by rw [errStar]; exact h)

/-- What every row of layer 1 lists. -/
def laid5 {H : Type} : List (String × DataW H) := [("math/bits.deBruijn32tab", Rows.laid_math_bits_deBruijn32tab), ("math/bits.deBruijn64tab", Rows.laid_math_bits_deBruijn64tab), ("internal/strconv.uint64pow10", Rows.laid_internal_strconv_uint64pow10), ("strconv.ErrRange", Rows.laid_strconv_ErrRange), ("strconv.ErrSyntax", Rows.laid_strconv_ErrSyntax)]

theorem glob_of_laid {W : World} (h0 : laidMetH Tryz.prog laid5 W) : Glob W := by
  rw [MakeChecks.laidMetH_plain _ _ _ (by kernel_rfl)] at h0
  have h2 := h0.tail.tail
  have h3 := h2.tail
  have h4 := h3.tail
  have tab := Lib.tabIs_of_head (k := .u64) (zs := Lib.pow10Tab) gTab tyTab Tryz.underlying125 Tryz.underlying77 cellsU64 cellsTab h2
  obtain ⟨ar, sr, hr, -, -, -⟩ := laid_sentinel h3 gRng tyRng Tryz.underlying72 errRow Tryz.underlying166 Tryz.underlying168 rfl rfl Tryz.underlying9 cellsErr cellsStr
  obtain ⟨at_, ss, hs, -, -, -⟩ := laid_sentinel h4 gSyn tySyn Tryz.underlying72 errRow Tryz.underlying166 Tryz.underlying168 rfl rfl Tryz.underlying9 cellsErr cellsStr
  refine ⟨tab, ⟨_, _, hs⟩, ⟨_, _, hr⟩, ?_⟩
  have hv1 := hr
  unfold World.var? at hv1
  rw [gRng] at hv1
  simp only [Option.bind_some] at hv1
  rcases Nat.lt_or_ge 5 W.heap.size with hl | hl
  · omega
  · rw [Array.getElem?_eq_none hl] at hv1
    cases hv1

/-- The door's own heap meets the condition. -/
theorem door_met (os : Os) (args : Array Value) : laidMetH Tryz.prog laid5 ((World.doorLaid Tryz.prog 400 os).forCall (fun _ _ => 0) ⟨#[], args, []⟩).memory :=
  laidMetH_of_parts3 (fuel := 8) (laidMet_of_run' 8 (by kernel_rfl) (by kernel_rfl)) (by kernel_rfl) (by kernel_rfl)

/-- What cut answers: the first 20 values, where they lie. -/
def CutEnd (T : List V3) (w : World) (e : Ending) (w' : World) : Prop := ∃ v, e = .returned v ∧ TupCap w.heap.size w v (T.take 20) ∧ w = w'
set_option maxHeartbeats 400000 in
theorem cut_any (v : Value) (T : List V3) (w : World) (h : ArgT w v T) : Calls Tryz.prog 5 #[v] w (CutEnd T w) := by
  obtain ⟨p, cap, rfl, h1, h2, h3, -⟩ := h
  unfold maxLen at h2
  have H3 := Lib.hid h3
  clear h3
  have h1' : (T.length : Int) ≤ (cap : Int) := by omega
  have h2' : (cap : Int) ≤ 9223372036854775807 := by omega
  rcases Nat.lt_or_ge 20 T.length with h | h
  · have h' : (20 : Int) < (T.length : Int) := by omega
    have hc : (20 : Int) ≤ (cap : Int) := by omega
    have HE : Hid (TupCap w.heap.size w (.slice p 20 cap) (T.take 20)) := Lib.hid (by
      have hl : (T.take 20).length = 20 := by rw [List.length_take]; omega
      refine ⟨⟨p, cap, by rw [hl], by omega, ?_⟩, _, _, _, rfl, by omega⟩
      rcases H3.out with rfl | ⟨b, off, rfl, hb, hc⟩
      · exact .inl rfl
      · exact .inr ⟨b, off, rfl, hb, hc.take 20⟩)
    go_enter Tryz.func5, Tryz.ntmps5
    go_wp2_with fail
    go_ret
    exact ⟨_, rfl, HE.out, rfl⟩
  · have h' : (T.length : Int) ≤ 20 := by omega
    have HE : Hid (TupCap w.heap.size w (.slice p T.length cap) (T.take 20)) := Lib.hid (by
      rw [List.take_of_length_le h]
      exact ⟨⟨p, cap, rfl, by omega, H3.out⟩, _, _, _, rfl, h1⟩)
    go_enter Tryz.func5, Tryz.ntmps5
    go_wp2_with fail
    go_ret
    exact ⟨_, rfl, HE.out, rfl⟩
theorem TupCap.below {n₀ : Nat} {w w' : World} {v : Value} {T : List V3} (h : TupCap n₀ w v T) (hb : Below n₀ w w') : TupCap n₀ w' v T := ⟨h.1.below hb, h.2⟩
end Go.Proofs.YtdfepeeicbpicaaGreatDoor
