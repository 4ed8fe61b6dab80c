/-
  Contracts of the document's Compare and Same, and of the laws' short.
-/
import Derived.Test.YtcfnpbmkcdmafaaMgF
import Derived.Laws.StructEq
namespace Go.Proofs.Ytcfnpbmkcdmafaa
open Go Go.RowKit

def cmpT2 (x y : Th) : Int := if x.1 < y.1 then -1 else if y.1 < x.1 then 1 else 0
set_option maxHeartbeats 1000000 in
theorem neqTh_run (x y : Th) (W : World) : (binOp .neq 28 (.agg #[.int .i8 x.1, .int .i64 x.2]) (.agg #[.int .i8 y.1, .int .i64 y.2])).run Try.prog W = .ok (.bool (!decide (x = y))) W := by
  rw [run_neq_struct]
  simp [go_sem]
  by_cases h1 : x.1 = y.1
  · by_cases h2 : x.2 = y.2
    · rw [if_pos h1]; simp [Prod.ext h1 h2]
    · rw [if_pos h1]; simp [h2, show x ≠ y from fun e => h2 (by rw [e])]
  · rw [if_neg h1]; simp [show x ≠ y from fun e => h1 (by rw [e])]
set_option maxRecDepth 100000 in
theorem cmp_any (x y : Th) (w : World) : Calls Try.prog 22 #[thV x, thV y] w fun e w' => e = .returned (.int .i64 (cmpT2 x y)) ∧ Below w.heap.size w w' := by
  have hB : ∀ W, Below w.heap.size w W → Below w.heap.size w W.drew := fun W h => h.drew
  have h0 : Below w.heap.size w ((w.alloc (.cells #[.int .i8 x.1, .int .i64 x.2] 28)).alloc (.cells #[.int .i8 y.1, .int .i64 y.2] 28)) := ((Below.refl _ _).alloc (Nat.le_refl _) _).alloc (by simp) _
  have HH := Lib.hid h0
  clear h0 hB
  unfold cmpT2
  go_enter Try.func22, Try.ntmps22
  by_cases h1 : x.1 < y.1
  · rw [if_pos h1]
    go_wp2_with fail
    go_ret
    exact ⟨rfl, HH.out⟩
  · rw [if_neg h1]
    by_cases h2 : y.1 < x.1
    · rw [if_pos h2]
      go_wp2_with fail
      go_ret
      exact ⟨rfl, HH.out⟩
    · rw [if_neg h2]
      go_wp2_with fail
      go_ret
      exact ⟨rfl, HH.out⟩
set_option maxRecDepth 100000 in
set_option maxHeartbeats 2000000 in
theorem same_any {S S' : Nat → Prop} {a b : Value} {L M : List Th} {w : World} (ha : ThIn S w a L) (hb : ThIn S' w b M) (hL : L.length ≤ 1000000) (hM : M.length ≤ 1000000) :
    Calls Try.prog 16 #[a, b] w fun e w' => e = .returned (.bool (decide (L = M))) ∧ Below w.heap.size w w' := by
  obtain ⟨pa, ca, rfl, hla, -, ha⟩ := ha
  obtain ⟨pb, cb, rfl, hlb, -, hb⟩ := hb
  by_cases hl : L.length = M.length
  · have hl' : (M.length : Int) = (L.length : Int) := by omega
    have HL := Lib.hid hl
    have HA := Lib.hid ha
    have HB := Lib.hid hb
    clear hl ha hb
    go_enter Try.func16, Try.ntmps16
    go_wp2_with fail
    go_loopw [5] (fun i wr => ∃ n : Nat, n ≤ L.length ∧ i = .int .i64 n ∧ Hid (L.take n = M.take n ∧ Below w.heap.size w wr)) (fun i _ => L.length - (intOf i).toNat)
    case atStart => exact ⟨0, Nat.zero_le _, rfl, Lib.hid ⟨by simp, Below.refl _ _⟩⟩
    case round =>
      obtain ⟨n, hn, rfl, HR⟩ := hrel
      by_cases hlt : n < L.length
      · rcases HA.out with h0 | ⟨ba, oa, rfl, -, hba, HCa⟩
        · subst h0; simp at hlt
        rcases HB.out with h0 | ⟨bb, ob, rfl, -, hbb, HCb⟩
        · have := HL.out; rw [h0] at this; simp at this; subst this; simp at hlt
        have hlM : n < M.length := by have := HL.out; omega
        obtain ⟨x, hx⟩ : ∃ x, x = L[n] := ⟨_, rfl⟩
        obtain ⟨y, hy⟩ : ∃ y, y = M[n] := ⟨_, rfl⟩
        obtain ⟨xa0, xa1⟩ := HCa n hlt
        obtain ⟨yb0, yb1⟩ := HCb n hlM
        rw [← hx] at xa0 xa1
        rw [← hy] at yb0 yb1
        have x0 : wr.cell? ⟨ba, oa + n * 2, none⟩ = some (.int .i8 x.1) := (HR.out.2.cell (p := ⟨ba, _, none⟩) hba).trans xa0
        have x1 : wr.cell? ⟨ba, oa + n * 2 + 1, none⟩ = some (.int .i64 x.2) := (HR.out.2.cell (p := ⟨ba, _, none⟩) hba).trans xa1
        have y0 : wr.cell? ⟨bb, ob + n * 2, none⟩ = some (.int .i8 y.1) := (HR.out.2.cell (p := ⟨bb, _, none⟩) hbb).trans yb0
        have y1 : wr.cell? ⟨bb, ob + n * 2 + 1, none⟩ = some (.int .i64 y.2) := (HR.out.2.cell (p := ⟨bb, _, none⟩) hbb).trans yb1
        clear xa0 xa1 yb0 yb1 HCa HCb
        have hlt' : (n : Int) < (L.length : Int) := by omega
        have q := neqTh_run x y
        have HT : Hid (x = y → L.take (n + 1) = M.take (n + 1)) := Lib.hid fun e => by
          rw [List.take_succ_eq_append_getElem hlt, List.take_succ_eq_append_getElem hlM, HR.out.1, ← hx, ← hy, e]
        have HF : Hid (¬ x = y → decide (L = M) = false) := Lib.hid fun e => by
          refine decide_eq_false fun e' => e ?_
          subst e'; rw [hx, hy]
        clear hx hy hlM hba hbb
        by_cases he : x = y
        · have qd : decide (x = y) = true := decide_eq_true he
          rw [qd] at q
          have HE := Lib.hid he
          clear qd he
          go_wp2_with fail
          go_region
          go_wp2_with fail
          go_roundw
          case rel => exact ⟨n + 1, hlt, by simp, Lib.hid ⟨HT.out HE.out, HR.out.2.drew⟩⟩
          case measure => simp [intOf]; omega
        · have qd : decide (x = y) = false := decide_eq_false he
          rw [qd] at q
          have HE := Lib.hid he
          clear qd he
          go_wp2_with fail
          go_region
          go_wp2_with fail
          go_ret
          exact ⟨by rw [HF.out HE.out]; rfl, HR.out.2.drew⟩
      · obtain rfl : n = L.length := by omega
        have HE := Lib.hid (show decide (L = M) = true from decide_eq_true (by
          have h1 := HR.out.1
          rw [List.take_length, HL.out, List.take_length] at h1
          exact h1))
        go_wp2_with fail
        go_ret
        exact ⟨by rw [HE.out]; rfl, HR.out.2⟩
  · have hne : decide (L = M) = false := decide_eq_false fun e => hl (by rw [e])
    have HE := Lib.hid hne
    clear hne ha hb
    have h1 : ¬ (L.length : Int) = (M.length : Int) := by omega
    go_enter Try.func16, Try.ntmps16
    go_wp2_with fail
    go_ret
    exact ⟨by rw [HE.out]; rfl, Below.refl _ _⟩
set_option maxRecDepth 100000 in
theorem short_any {S : Nat → Prop} {v : Value} {L : List Th} {w : World} (h : ThIn S w v L) :
    Calls Try.prog 12 #[v] w fun e w' => ∃ v', e = .returned v' ∧ ThIn S w v' (L.take 30) ∧ w = w' := by
  obtain ⟨p, c, rfl, hl, hm, hr⟩ := h
  unfold maxLen at hm
  by_cases h1 : 30 < L.length
  · have h2 : (30 : Int) < (L.length : Int) := by omega
    have h3 : (30 : Int) ≤ (c : Int) := by omega
    have hlen : (L.take 30).length = 30 := by rw [List.length_take]; omega
    have HR : Hid (ThIn S w (.slice p 30 c) (L.take 30)) := Lib.hid (by
      refine ⟨p, c, by rw [hlen], by omega, by unfold maxLen; omega, ?_⟩
      rcases hr with hr | ⟨b, off, rfl, hb, hbl, hr⟩
      · subst hr; simp at h1
      · refine .inr ⟨b, off, rfl, hb, hbl, fun j hj => ?_⟩
        rw [List.getElem_take]
        exact hr j (by omega))
    clear hr hlen h1
    go_enter Try.func12, Try.ntmps12
    go_wp2_with fail
    go_ret
    exact ⟨_, rfl, HR.out, rfl⟩
  · have h2 : ¬ (30 : Int) < (L.length : Int) := by omega
    have HR : Hid (ThIn S w (.slice p L.length c) (L.take 30)) := Lib.hid (by rw [List.take_of_length_le (by omega)]; exact ⟨p, c, rfl, hl, by unfold maxLen; omega, hr⟩)
    clear hr h1
    go_enter Try.func12, Try.ntmps12
    go_wp2_with fail
    go_ret
    exact ⟨_, rfl, HR.out, rfl⟩
end Go.Proofs.Ytcfnpbmkcdmafaa
