/-
  Contracts of pack.taken at byte strings, and of pack.TakeText.
-/
import Derived.Test.YthnpiafpkllbpaaPkTi
import Derived.Lib.AppendZeros
import Derived.WalkSpells
namespace Go.Proofs.Ythnpiafpkllbpaa
open Go Go.RowKit

theorem OwnB.set {B : Nat} {w : World} {v : Value} {l : List UInt8} (h : OwnB B w v l) {a : Addr} (ha : a.block < B) (u : Value) : OwnB B (w.setCell a u) v l := ownsRow_setCell_below h ha u
/-- The deferred closure, where the frame panics. -/
theorem catchX_bad (p : Addr) (x : Int) (w : World) (hc : w.cell? p = some (.int .i64 x)) (hz : w.frozen? p = false) :
    CallsD Try.prog 49 #[.pointer (some p)] (.panicking badP) w fun e u' w' =>
      e = .returned (.tuple #[]) ∧ u' = .panicking [{ v := .iface 25 (.int .i64 30), recovered := true }] ∧ w' = w.setCell p (.int .i64 30) := by
  refine callsD_of_wpS Try.func49 rfl fun c₀ cs hu => ?_
  apply wpS_seq
  apply wpS_region
  simp [wpOpsS, go_sem, recoverD, hu, badP, Try.ntmps49, Exit.thenS]
  refine wpS_cond (t := true) (by simp [Act.eval, Array.replicate]) ?_
  simp only [if_true]
  apply wpS_region
  simp [wpOpsS, go_sem, hc, hz, bodyPostS, results, Try.results49]
/-- The deferred closure, where the frame returns. -/
theorem catchX_idle (p : Addr) (w : World) :
    CallsD Try.prog 49 #[.pointer (some p)] .returning w fun e u' w' => e = .returned (.tuple #[]) ∧ u' = .returning ∧ w' = w := by
  refine callsD_of_wpS Try.func49 rfl fun c₀ cs hu => ?_
  apply wpS_seq
  apply wpS_region
  simp [wpOpsS, go_sem, recoverD, hu, Try.ntmps49, Exit.thenS]
  refine wpS_cond (t := false) (by simp [Act.eval, Array.replicate]) ?_
  simp only [Bool.false_eq_true, if_false]
  refine wpS_of_wp (wp_skip ?_)
  cases c₀
  simp_all [bodyPostS, results, Try.results49]

/-- What taken answers at byte strings. -/
def TakenXEnd (l : List UInt8) (o : Option (List UInt8 × List UInt8)) (w : World) (e : Ending) (w' : World) : Prop :=
  Below w.heap.size w w' ∧ ((∃ T r v, o = some (T, r) ∧ e = .returned (.tuple #[v, .int .i64 ((l.length : Int) - (r.length : Int)), .int .i64 0]) ∧ OwnB w.heap.size w' v T) ∨ (o = none ∧ e = .returned (.tuple #[.slice none 0 0, .int .i64 0, .int .i64 30])))
set_option maxHeartbeats 1000000 in
set_option maxRecDepth 100000 in
theorem takenX_any (pm : Addr) (v : Value) (l : List UInt8) (o : Option (List UInt8 × List UInt8)) (w : World) (hb : BytIn w.heap.size w v l) (hs : ∃ p cap, v = .slice p l.length cap ∧ l.length ≤ cap ∧ cap ≤ maxLen)
    (hread : ∀ W R, RestAt w.heap.size W R l → w.heap.size + 2 ≤ W.heap.size → Below w.heap.size w W → Calls Try.prog 31 #[.pointer (some ⟨R, 0, none⟩), .pointer (some pm)] W (ReadEnd (fun T W' v => OwnB (w.heap.size + 2) W' v T) w.heap.size R o W)) :
    Calls Try.prog 30 #[v, .func (.func 31) #[] #[.pointer (some pm)]] w (TakenXEnd l o w) := by
  have HB := Lib.hid hb
  have HR := Lib.hid hread
  clear hb hread
  obtain ⟨p, cap, rfl, h1, h2⟩ := hs
  have hmf : ∀ (fn : Fn) (first cap : Array Value) (w : World), (Instr.makeFunc fn first cap).run Try.prog w = .ok (.func fn first cap) w := fun _ _ _ _ => rfl
  go_enter_defers Try.func30, Try.ntmps30
  go_wp2_with fail
  refine (HR.out _ (w.heap.size + 1) (start_rest w p cap l h1 h2 HB.out _) (by simp) (((Below.refl w.heap.size w).alloc (Nat.le_refl _) _).alloc (by simp) _)).mono ?_
  rintro e w1 ⟨hk, ⟨T, r, vt, rfl, rfl, ho, hr⟩ | ⟨rfl, rfl⟩⟩
  · have HO := Lib.hid ho
    have HK := Lib.hid hk
    have HRR := Lib.hid hr
    have HE := Lib.hid (err_cell w w1 _ hk)
    clear ho hk hr
    obtain ⟨-, p', cap', hbl, hlc, hcm, -⟩ := HRR.out
    have c1 : w1.cell? ⟨w.heap.size + 1, 0, none⟩ = some (.slice p' r.length cap') := cell_of_row w1 _ 0 _ _ (0, 0) hbl
    obtain ⟨c0, f0⟩ := HE.out
    clear hbl
    unfold maxLen at hcm h2
    have b1 : (l.length : Int) ≤ 9223372036854775807 := by omega
    have b2 : (r.length : Int) ≤ 9223372036854775807 := by omega
    have b3 : (0 : Int) ≤ (l.length : Int) := by omega
    have b4 : (0 : Int) ≤ (r.length : Int) := by omega
    go_wp2_with fail
    go_region
    all_goals
      go_wp2_with fail
      refine leaves_cons (f := 49) (args := #[.pointer (some ⟨w.heap.size, 0, none⟩)]) (by simp) (by simp [go_sem]) ?_
      refine (catchX_idle ⟨w.heap.size, 0, none⟩ _).mono ?_
      rintro e u' w'' ⟨rfl, rfl, rfl⟩
      have cs := err_set w w1 _ HK.out
      simp [Leaves, settle, results, Try.results30, go_sem, cs]
      refine ⟨((below_read w w1 _ _ HK.out).setCell (Nat.le_refl _) _).drew, .inl ⟨T, r, vt, rfl, rfl, ?_⟩⟩
      exact (HO.out.set (by simp) _).mono (by omega)
  · have HK := Lib.hid hk
    have HE := Lib.hid (err_cell w w1 _ hk)
    clear hk
    obtain ⟨c0, f0⟩ := HE.out
    go_wp2_with fail
    refine leaves_cons (f := 49) (args := #[.pointer (some ⟨w.heap.size, 0, none⟩)]) (by simp) (by simp [go_sem]) ?_
    refine (catchX_bad ⟨w.heap.size, 0, none⟩ 0 w1 c0 f0).mono ?_
    rintro e u' w'' ⟨rfl, rfl, rfl⟩
    have cs := err_set w w1 _ HK.out
    simp [Leaves, settle, results, Try.results30, go_sem, cs]
    exact ⟨(below_read w w1 _ _ HK.out).setCell (Nat.le_refl _) _, .inr ⟨rfl, rfl⟩⟩
set_option maxHeartbeats 1000000 in
set_option maxRecDepth 100000 in
theorem bclone_any (v : Value) (l : List UInt8) (w : World) (h : BytIn w.heap.size w v l) (hl : l.length ≤ 100000000000000) :
    Calls Try.prog 32 #[v] w (EndB l w) := by
  have HL := Lib.hid hl
  clear hl
  rcases h with ⟨rfl, rfl⟩ | ⟨a, cap, rfl, hb⟩
  · have hnil : ∀ W : World, (binOp .eql 22 (.slice none 0 0) (.slice none 0 0)).run Try.prog W = .ok (.bool true) W := fun W => Lib.run_eql_slice_nil (P := Try.prog) W 22 5 none 0 0 0 0 Try.underlying22
    go_enter Try.func32, Try.ntmps32
    go_wp2_with fail
    go_ret
    exact ⟨_, rfl, OwnB.nil _ _, Below.refl _ _⟩
  · have hnil : ∀ W : World, (binOp .eql 22 (.slice (some a) l.length cap) (.slice none 0 0)).run Try.prog W = .ok (.bool false) W := fun W => Lib.run_eql_slice_nil (P := Try.prog) W 22 5 (some a) l.length cap 0 0 Try.underlying22
    have HB : Hid (BytIn (w.heap.size + 1) (w.alloc (.cells #[] 5)) (.slice (some a) l.length cap) l) := Lib.hid (BytIn.mono (BytIn.below (n₀ := w.heap.size) (.inr ⟨a, cap, rfl, hb⟩) ((Below.refl _ _).alloc (Nat.le_refl _) _)) (Nat.le_succ _))
    clear hb
    have HO : Hid (OwnB w.heap.size (w.alloc (.cells #[] 5)) (.slice (some ⟨w.heap.size, 0, none⟩) 0 0) []) := Lib.hid (OwnB.lit w.heap.size w #[] [] 0 (Nat.le_refl _) rfl (by decide) rfl)
    have HW : Hid (Below w.heap.size w (w.alloc (.cells #[] 5))) := Lib.hid ((Below.refl _ _).alloc (Nat.le_refl _) _)
    go_enter Try.func32, Try.ntmps32
    go_wp2_with (at_builtin; refine wpList_app rfl (.tmp 5) (.tmp 6) rfl w.heap.size (w.heap.size + 1) w _ _ [] l rfl rfl HO.out HB.out (by rw [List.length_nil, Nat.zero_add]; exact HL.out) HW.out (Nat.le_refl _) ?_; intro v' w1 ho hb)
    go_ret
    exact ⟨v', rfl, ho, hb⟩

/-- A byte string of at most so many bytes, and of no more than any may have. -/
def textM (m : Int) (l : List UInt8) : Option (List UInt8 × List UInt8) := if m < 0 then none else textQ l (min m 1048576).toNat
theorem textM_neg {m : Int} (h : m < 0) (l : List UInt8) : textM m l = none := if_pos h
theorem textM_of {m : Int} (h : 0 ≤ m) (l : List UInt8) : textM m l = textQ l (min m 1048576).toNat := if_neg (by omega)
theorem textM_small {m : Int} {l s r : List UInt8} (h : textM m l = some (s, r)) : s.length ≤ 1048576 := by
  rcases Int.lt_or_le m 0 with h0 | h0
  · rw [textM_neg h0] at h; cases h
  · rw [textM_of h0] at h
    have := (textQ_is h).2
    omega
set_option maxHeartbeats 2000000 in
set_option maxRecDepth 100000 in
theorem rdTextM_any (n₀ R : Nat) (l : List UInt8) (m : Int) (w : World) (h : RestAt n₀ w R l) (hm : -9223372036854775808 ≤ m ∧ m ≤ 9223372036854775807) : Calls Try.prog 33 #[.pointer (some ⟨R, 0, none⟩), .int .i64 m] w (ReadEnd (fun s w' v => BytIn n₀ w' v s) n₀ R (textM m l) w) := by
  have H := Lib.hid h
  clear h
  obtain ⟨m1, m2⟩ := hm
  go_enter Try.func33, Try.ntmps33
  go_wp2_with fail
  refine (rdNum_any n₀ R l w H.out).mono ?_
  rintro e w1 ⟨hk, ⟨n, r, v, ho, rfl, rfl, hr⟩ | ⟨ho, rfl⟩⟩
  · have HK := Lib.hid hk
    have HR := Lib.hid hr
    have HQ := Lib.hid ho
    clear hk hr ho
    rcases Int.lt_or_le m 0 with h0 | h0
    · have HO' : Hid (textM m l = none) := Lib.hid (textM_neg h0 l)
      go_wp2_with fail
      exact ⟨rfl, HK.out, .inr ⟨HO'.out, rfl⟩⟩
    · have HO : Hid (textM m l = if n ≤ (min m 1048576).toNat ∧ n ≤ r.length then some (r.take n, r.drop n) else none) := Lib.hid (by rw [textM_of h0]; unfold textQ; rw [HQ.out])
      have hb1 : 0 ≤ min m 1048576 := by omega
      have hb2 : min m 1048576 ≤ 1048576 := by omega
      by_cases hn : n ≤ (min m 1048576).toNat
      · have hn' : (n : Int) ≤ min m 1048576 := by omega
        have HN := Lib.hid hn
        clear hn
        go_wp2_with fail
        refine (take_any n₀ R r n w1 HR.out).mono ?_
        rintro e w2 (⟨hl, p, cap, rfl, hb, hr2, hk2⟩ | ⟨hl, rfl, rfl⟩)
        · have HO' : Hid (textM m l = some (r.take n, r.drop n)) := Lib.hid (by rw [HO.out, if_pos ⟨HN.out, hl⟩])
          have HK2 := Lib.hid (HK.out.trans hk2)
          have HB := Lib.hid hb
          have HR2 := Lib.hid hr2
          clear hb hr2 hk2
          go_wp2_with fail
          go_ret
          exact ⟨HK2.out, .inl ⟨_, _, _, HO'.out, rfl, HB.out, HR2.out⟩⟩
        · have HO' : Hid (textM m l = none) := Lib.hid (by rw [HO.out, if_neg (fun h => by omega)])
          go_wp2_with fail
          exact ⟨rfl, HK.out, .inr ⟨HO'.out, rfl⟩⟩
      · have hn' : min m 1048576 < (n : Int) := by omega
        have HO' : Hid (textM m l = none) := Lib.hid (by rw [HO.out, if_neg (fun h => hn h.1)])
        clear hn
        go_wp2_with fail
        exact ⟨rfl, HK.out, .inr ⟨HO'.out, rfl⟩⟩
  · have HK := Lib.hid hk
    have HO : Hid (textM m l = none) := Lib.hid (by unfold textM textQ; rw [ho]; split <;> rfl)
    clear hk ho
    go_wp2_with fail
    exact ⟨rfl, HK.out, .inr ⟨HO.out, rfl⟩⟩

set_option maxHeartbeats 1000000 in
set_option maxRecDepth 100000 in
theorem rdClone_any (n₀ R : Nat) (l : List UInt8) (m : Int) (pm : Addr) (w : World) (h : RestAt n₀ w R l) (hn : n₀ ≤ w.heap.size) (hc : w.cell? pm = some (.int .i64 m)) (hm : -9223372036854775808 ≤ m ∧ m ≤ 9223372036854775807) : Calls Try.prog 31 #[.pointer (some ⟨R, 0, none⟩), .pointer (some pm)] w (ReadEnd (fun s w' v => OwnB w.heap.size w' v s) n₀ R (textM m l) w) := by
  have H := Lib.hid h
  have HM := Lib.hid hm
  have hRlt := h.lt
  clear h hm
  go_enter Try.func31, Try.ntmps31
  go_wp2_with fail
  refine (rdTextM_any n₀ R l m w H.out HM.out).mono ?_
  rintro e w1 ⟨hk, ⟨s, r, v, ho, rfl, hv, hr⟩ | ⟨ho, rfl⟩⟩
  · have HK := Lib.hid hk
    have HV := Lib.hid hv
    have HR := Lib.hid hr
    have HO := Lib.hid ho
    have hz := hk.size
    have HS := Lib.hid (textM_small ho)
    clear hk hv hr ho
    go_wp2_with fail
    refine (bclone_any v s w1 (HV.out.mono (by omega)) (by have := HS.out; omega)).mono ?_
    rintro e w2 ⟨v2, rfl, hv2, hb2⟩
    have HK2 := Lib.hid (HK.out.below (hb2.mono hz))
    have HR2 := Lib.hid (HR.out.below hb2 HR.out.lt)
    have HV2 := Lib.hid (hv2.mono hz)
    clear hv2 hb2
    go_wp2_with fail
    go_ret
    exact ⟨HK2.out, .inl ⟨_, _, _, HO.out, rfl, HV2.out, HR2.out⟩⟩
  · have HK := Lib.hid hk
    have HO := Lib.hid ho
    clear hk ho
    go_wp2_with fail
    exact ⟨rfl, HK.out, .inr ⟨HO.out, rfl⟩⟩
set_option maxHeartbeats 1000000 in
set_option maxRecDepth 100000 in
theorem takeText_any (v : Value) (l : List UInt8) (m : Int) (w : World) (h : ArgB w v l) (hm : -9223372036854775808 ≤ m ∧ m ≤ 9223372036854775807) : Calls Try.prog 10 #[v, .int .i64 m] w (TakenXEnd l (textM m l) w) := by
  have HA : ArgB (w.alloc (.cells #[.int .i64 m] 3)) v l := h.below ((Below.refl _ _).alloc (Nat.le_refl _) _)
  have HT := Lib.hid (takenX_any ⟨w.heap.size, 0, none⟩ v l (textM m l) (w.alloc (.cells #[.int .i64 m] 3)) HA.1 HA.2 (fun W R hr hs hb => (rdClone_any _ R l m ⟨w.heap.size, 0, none⟩ W hr (by omega) ((hb.cell (p := ⟨w.heap.size, 0, none⟩) (by simp)).trans (cell_of_row _ _ 0 _ _ (0, 0) (heap_alloc_new w _))) hm).mono (by
    rintro e w' ⟨hk, ⟨x, r, v, ho, he, hv, hr'⟩ | hx⟩
    · exact ⟨hk, .inl ⟨x, r, v, ho, he, hv.mono hs, hr'⟩⟩
    · exact ⟨hk, .inr hx⟩)))
  clear h HA
  go_enter Try.func10, Try.ntmps10
  go_wp2_with fail
  refine HT.out.mono ?_
  rintro e w1 ⟨hb, ⟨x, r, vt, ho, rfl, hv⟩ | ⟨ho, rfl⟩⟩
  · have HO := Lib.hid ho
    have HB : Hid (Below w.heap.size w w1) := Lib.hid (((Below.refl w.heap.size w).alloc (Nat.le_refl _) _).trans (hb.mono (by simp)))
    have HV := Lib.hid (hv.mono (B' := w.heap.size) (by simp))
    clear hb ho hv
    go_wp2_with fail
    go_ret3
    exact ⟨HB.out, .inl ⟨x, r, vt, HO.out, rfl, HV.out⟩⟩
  · have HO := Lib.hid ho
    have HB : Hid (Below w.heap.size w w1) := Lib.hid (((Below.refl w.heap.size w).alloc (Nat.le_refl _) _).trans (hb.mono (by simp)))
    clear hb ho
    go_wp2_with fail
    go_ret3
    exact ⟨HB.out, .inr ⟨HO.out, rfl⟩⟩
end Go.Proofs.Ythnpiafpkllbpaa
