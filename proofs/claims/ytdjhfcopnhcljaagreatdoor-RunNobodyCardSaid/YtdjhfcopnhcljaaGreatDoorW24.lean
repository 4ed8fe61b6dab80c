/-
  Contract of run.Bytes.
-/
import Derived.Test.YtdjhfcopnhcljaaGreatDoorW23
namespace Go.Proofs.YtdjhfcopnhcljaaGreatDoor
section
open Go Go.RowKit

/-- The numbers of these entries are of their kinds. -/
def Kin (E : List Ct) : Prop := ∀ c ∈ E, AllI c.1 ∧ -9223372036854775808 ≤ c.2 ∧ c.2 ≤ 9223372036854775807
theorem Kin.ok {E : List Ct} (h : Kin E) (hr : IsRun E) : ∀ c ∈ E, OkC c := fun c hc => by
  obtain ⟨j, hj, rfl⟩ := List.getElem_of_mem hc
  exact ⟨(hr.1 j hj hj).1, (h _ hc).1, (h _ hc).2.1, (h _ hc).2.2⟩
/-- What Bytes answers. -/
def BytesEnd (E : List Ct) (w : World) (e : Ending) (w' : World) : Prop :=
  ((IsRun E ∧ ∃ v, e = .returned (.tuple #[v, .int .i64 0]) ∧ OwnB w.heap.size w' v (runL E)) ∨ (¬ IsRun E ∧ e = .returned (.tuple #[.slice none 0 0, .int .i64 70]))) ∧ Below w.heap.size w w'
set_option maxRecDepth 100000 in
set_option maxHeartbeats 2000000 in
theorem runBytes_any (v : Value) (E : List Ct) (w : World) (h : EnIn w.heap.size w v E) (hE : E.length ≤ 1000) (hK : Kin E) (G : Glob w) :
    Calls Tryz.prog 10 #[v] w (BytesEnd E w) := by
  have HV := Lib.hid h
  have HK := Lib.hid hK
  have HG := Lib.hid G
  have HC := Lib.hid (check_any v E w h (by omega))
  obtain ⟨p0, c0, rfl, -⟩ := h
  clear hK G
  go_enter Tryz.func10, Tryz.ntmps10
  go_wp2_with fail
  refine HC.out.mono ?_
  rintro e w1 ⟨⟨hr, rfl⟩ | ⟨hr, rfl⟩, hb1⟩
  · have HB1 := Lib.hid hb1
    have HR := Lib.hid hr
    clear hb1 hr HC
    go_wp2_with fail
    refine (encoded_any _ E _ ((HV.out.below HB1.out).mono HB1.out.size) hE (HK.out.ok HR.out) (HG.out.below HB1.out)).mono ?_
    rintro e w2 ⟨v2, rfl, ho2, hb2⟩
    have HO := Lib.hid (ho2.mono HB1.out.size)
    have HB2 := Lib.hid (HB1.out.trans (hb2.mono HB1.out.size))
    clear ho2 hb2
    go_wp2_with fail
    go_ret2
    exact ⟨.inl ⟨HR.out, _, rfl, HO.out⟩, HB2.out⟩
  · have HB1 := Lib.hid hb1
    have HR := Lib.hid hr
    clear hb1 hr HC
    go_wp2_with fail
    go_ret2
    exact ⟨.inr ⟨HR.out, rfl⟩, HB1.out⟩
end
end Go.Proofs.YtdjhfcopnhcljaaGreatDoor
