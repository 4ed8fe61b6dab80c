/-
  Contracts of pack.taken at byte strings, and of pack.TakeText.
  Plain facts: the bytes that are read as a tuple's key are that tuple's key. No program is named here.
  Plain facts: what was written is read, whatever stands behind it. No program is named here.
-/
import Derived.Test.YtdjhfcopnhcljaaGreatDoorW19
import Derived.Lib.AppendZeros
import Derived.WalkSpells
import Derived.Test.YtdjhfcopnhcljaaGreatDoorW14
import Derived.Test.YtdjhfcopnhcljaaGreatDoorW17
namespace Go.Proofs.YtdjhfcopnhcljaaGreatDoor
section
open Go Go.RowKit

theorem OwnB.set {B : Nat} {w : World} {v : Value} {l : List UInt8} (h : OwnB B w v l) {a : Addr} (ha : a.block < B) (u : Value) : OwnB B (w.setCell a u) v l := ownsRow_setCell_below h ha u
/-- The deferred closure, where the frame panics. -/
theorem catchX_bad (p : Addr) (x : Int) (w : World) (hc : w.cell? p = some (.int .i64 x)) (hz : w.frozen? p = false) :
    CallsD Tryz.prog 208 #[.pointer (some p)] (.panicking badP) w fun e u' w' =>
      e = .returned (.tuple #[]) ∧ u' = .panicking [{ v := .iface 25 (.int .i64 30), recovered := true }] ∧ w' = w.setCell p (.int .i64 30) := by
  refine callsD_of_wpS Tryz.func208 rfl fun c₀ cs hu => ?_
  apply wpS_seq
  apply wpS_region
  simp [wpOpsS, go_sem, recoverD, hu, badP, Tryz.ntmps208, Exit.thenS]
  refine wpS_cond (t := true) (by simp [Act.eval, Array.replicate]) ?_
  simp only [if_true]
  apply wpS_region
  simp [wpOpsS, go_sem, hc, hz, bodyPostS, results, Tryz.results208]
/-- The deferred closure, where the frame returns. -/
theorem catchX_idle (p : Addr) (w : World) :
    CallsD Tryz.prog 208 #[.pointer (some p)] .returning w fun e u' w' => e = .returned (.tuple #[]) ∧ u' = .returning ∧ w' = w := by
  refine callsD_of_wpS Tryz.func208 rfl fun c₀ cs hu => ?_
  apply wpS_seq
  apply wpS_region
  simp [wpOpsS, go_sem, recoverD, hu, Tryz.ntmps208, Exit.thenS]
  refine wpS_cond (t := false) (by simp [Act.eval, Array.replicate]) ?_
  simp only [Bool.false_eq_true, if_false]
  refine wpS_of_wp (wp_skip ?_)
  cases c₀
  simp_all [bodyPostS, results, Tryz.results208]

/-- What taken answers at byte strings. -/
def TakenXEnd (l : List UInt8) (o : Option (List UInt8 × List UInt8)) (w : World) (e : Ending) (w' : World) : Prop :=
  Below w.heap.size w w' ∧ ((∃ T r v, o = some (T, r) ∧ e = .returned (.tuple #[v, .int .i64 ((l.length : Int) - (r.length : Int)), .int .i64 0]) ∧ OwnB w.heap.size w' v T) ∨ (o = none ∧ e = .returned (.tuple #[.slice none 0 0, .int .i64 0, .int .i64 30])))
set_option maxHeartbeats 1000000 in
set_option maxRecDepth 100000 in
theorem takenX_any (pm : Addr) (v : Value) (l : List UInt8) (o : Option (List UInt8 × List UInt8)) (w : World) (hb : BytIn w.heap.size w v l) (hs : ∃ p cap, v = .slice p l.length cap ∧ l.length ≤ cap ∧ cap ≤ maxLen)
    (hread : ∀ W R, RestAt w.heap.size W R l → w.heap.size + 2 ≤ W.heap.size → Below w.heap.size w W → Calls Tryz.prog 194 #[.pointer (some ⟨R, 0, none⟩), .pointer (some pm)] W (ReadEnd (fun T W' v => OwnB (w.heap.size + 2) W' v T) w.heap.size R o W)) :
    Calls Tryz.prog 193 #[v, .func (.func 194) #[] #[.pointer (some pm)]] w (TakenXEnd l o w) := by
  have HB := Lib.hid hb
  have HR := Lib.hid hread
  clear hb hread
  obtain ⟨p, cap, rfl, h1, h2⟩ := hs
  have hmf : ∀ (fn : Fn) (first cap : Array Value) (w : World), (Instr.makeFunc fn first cap).run Tryz.prog w = .ok (.func fn first cap) w := fun _ _ _ _ => rfl
  go_enter_defers Tryz.func193, Tryz.ntmps193
  go_wp2_with fail
  refine (HR.out _ (w.heap.size + 1) (start_rest w p cap l h1 h2 HB.out _) (by simp) (((Below.refl w.heap.size w).alloc (Nat.le_refl _) _).alloc (by simp) _)).mono ?_
  rintro e w1 ⟨hk, ⟨T, r, vt, rfl, rfl, ho, hr⟩ | ⟨rfl, rfl⟩⟩
  · have HO := Lib.hid ho
    have HK := Lib.hid hk
    have HRR := Lib.hid hr
    have HE := Lib.hid (err_cell w w1 _ hk)
    clear ho hk hr
    obtain ⟨-, p', cap', hbl, hlc, hcm, -⟩ := HRR.out
    have c1 : w1.cell? ⟨w.heap.size + 1, 0, none⟩ = some (.slice p' r.length cap') := cell_of_row w1 _ 0 _ _ (0, 0) hbl
    obtain ⟨c0, f0⟩ := HE.out
    clear hbl
    unfold maxLen at hcm h2
    have b1 : (l.length : Int) ≤ 9223372036854775807 := by omega
    have b2 : (r.length : Int) ≤ 9223372036854775807 := by omega
    have b3 : (0 : Int) ≤ (l.length : Int) := by omega
    have b4 : (0 : Int) ≤ (r.length : Int) := by omega
    go_wp2_with fail
    go_region
    all_goals
      go_wp2_with fail
      refine leaves_cons (f := 208) (args := #[.pointer (some ⟨w.heap.size, 0, none⟩)]) (by simp) (by simp [go_sem]) ?_
      refine (catchX_idle ⟨w.heap.size, 0, none⟩ _).mono ?_
      rintro e u' w'' ⟨rfl, rfl, rfl⟩
      have cs := err_set w w1 _ HK.out
      simp [Leaves, settle, results, Tryz.results193, go_sem, cs]
      refine ⟨((below_read w w1 _ _ HK.out).setCell (Nat.le_refl _) _).drew, .inl ⟨T, r, vt, rfl, rfl, ?_⟩⟩
      exact (HO.out.set (by simp) _).mono (by omega)
  · have HK := Lib.hid hk
    have HE := Lib.hid (err_cell w w1 _ hk)
    clear hk
    obtain ⟨c0, f0⟩ := HE.out
    go_wp2_with fail
    refine leaves_cons (f := 208) (args := #[.pointer (some ⟨w.heap.size, 0, none⟩)]) (by simp) (by simp [go_sem]) ?_
    refine (catchX_bad ⟨w.heap.size, 0, none⟩ 0 w1 c0 f0).mono ?_
    rintro e u' w'' ⟨rfl, rfl, rfl⟩
    have cs := err_set w w1 _ HK.out
    simp [Leaves, settle, results, Tryz.results193, go_sem, cs]
    exact ⟨(below_read w w1 _ _ HK.out).setCell (Nat.le_refl _) _, .inr ⟨rfl, rfl⟩⟩
set_option maxHeartbeats 1000000 in
set_option maxRecDepth 100000 in
theorem bclone_any (v : Value) (l : List UInt8) (w : World) (h : BytIn w.heap.size w v l) (hl : l.length ≤ 100000000000000) :
    Calls Tryz.prog 176 #[v] w (EndB l w) := by
  have HL := Lib.hid hl
  clear hl
  rcases h with ⟨rfl, rfl⟩ | ⟨a, cap, rfl, hb⟩
  · have hnil : ∀ W : World, (binOp .eql 24 (.slice none 0 0) (.slice none 0 0)).run Tryz.prog W = .ok (.bool true) W := fun W => Lib.run_eql_slice_nil (P := Tryz.prog) W 24 5 none 0 0 0 0 Tryz.underlying24
    go_enter Tryz.func176, Tryz.ntmps176
    go_wp2_with fail
    go_ret
    exact ⟨_, rfl, OwnB.nil _ _, Below.refl _ _⟩
  · have hnil : ∀ W : World, (binOp .eql 24 (.slice (some a) l.length cap) (.slice none 0 0)).run Tryz.prog W = .ok (.bool false) W := fun W => Lib.run_eql_slice_nil (P := Tryz.prog) W 24 5 (some a) l.length cap 0 0 Tryz.underlying24
    have HB : Hid (BytIn (w.heap.size + 1) (w.alloc (.cells #[] 5)) (.slice (some a) l.length cap) l) := Lib.hid (BytIn.mono (BytIn.below (n₀ := w.heap.size) (.inr ⟨a, cap, rfl, hb⟩) ((Below.refl _ _).alloc (Nat.le_refl _) _)) (Nat.le_succ _))
    clear hb
    have HO : Hid (OwnB w.heap.size (w.alloc (.cells #[] 5)) (.slice (some ⟨w.heap.size, 0, none⟩) 0 0) []) := Lib.hid (OwnB.lit w.heap.size w #[] [] 0 (Nat.le_refl _) rfl (by decide) rfl)
    have HW : Hid (Below w.heap.size w (w.alloc (.cells #[] 5))) := Lib.hid ((Below.refl _ _).alloc (Nat.le_refl _) _)
    go_enter Tryz.func176, Tryz.ntmps176
    go_wp2_with (at_builtin; refine wpList_app rfl (.tmp 5) (.tmp 6) rfl w.heap.size (w.heap.size + 1) w _ _ [] l rfl rfl HO.out HB.out (by rw [List.length_nil, Nat.zero_add]; exact HL.out) HW.out (Nat.le_refl _) ?_; intro v' w1 ho hb)
    go_ret
    exact ⟨v', rfl, ho, hb⟩

/-- A byte string of at most so many bytes, and of no more than any may have. -/
def textM (m : Int) (l : List UInt8) : Option (List UInt8 × List UInt8) := if m < 0 then none else textQ l (min m 1048576).toNat
theorem textM_neg {m : Int} (h : m < 0) (l : List UInt8) : textM m l = none := if_pos h
theorem textM_of {m : Int} (h : 0 ≤ m) (l : List UInt8) : textM m l = textQ l (min m 1048576).toNat := if_neg (by omega)
theorem textM_small {m : Int} {l s r : List UInt8} (h : textM m l = some (s, r)) : s.length ≤ 1048576 := by
  rcases Int.lt_or_le m 0 with h0 | h0
  · rw [textM_neg h0] at h; cases h
  · rw [textM_of h0] at h
    have := (textQ_is h).2
    omega
set_option maxHeartbeats 2000000 in
set_option maxRecDepth 100000 in
theorem rdTextM_any (n₀ R : Nat) (l : List UInt8) (m : Int) (w : World) (h : RestAt n₀ w R l) (hm : -9223372036854775808 ≤ m ∧ m ≤ 9223372036854775807) : Calls Tryz.prog 195 #[.pointer (some ⟨R, 0, none⟩), .int .i64 m] w (ReadEnd (fun s w' v => BytIn n₀ w' v s) n₀ R (textM m l) w) := by
  have H := Lib.hid h
  clear h
  obtain ⟨m1, m2⟩ := hm
  go_enter Tryz.func195, Tryz.ntmps195
  go_wp2_with fail
  refine (rdNum_any n₀ R l w H.out).mono ?_
  rintro e w1 ⟨hk, ⟨n, r, v, ho, rfl, rfl, hr⟩ | ⟨ho, rfl⟩⟩
  · have HK := Lib.hid hk
    have HR := Lib.hid hr
    have HQ := Lib.hid ho
    clear hk hr ho
    rcases Int.lt_or_le m 0 with h0 | h0
    · have HO' : Hid (textM m l = none) := Lib.hid (textM_neg h0 l)
      go_wp2_with fail
      exact ⟨rfl, HK.out, .inr ⟨HO'.out, rfl⟩⟩
    · have HO : Hid (textM m l = if n ≤ (min m 1048576).toNat ∧ n ≤ r.length then some (r.take n, r.drop n) else none) := Lib.hid (by rw [textM_of h0]; unfold textQ; rw [HQ.out])
      have hb1 : 0 ≤ min m 1048576 := by omega
      have hb2 : min m 1048576 ≤ 1048576 := by omega
      by_cases hn : n ≤ (min m 1048576).toNat
      · have hn' : (n : Int) ≤ min m 1048576 := by omega
        have HN := Lib.hid hn
        clear hn
        go_wp2_with fail
        refine (take_any n₀ R r n w1 HR.out).mono ?_
        rintro e w2 (⟨hl, p, cap, rfl, hb, hr2, hk2⟩ | ⟨hl, rfl, rfl⟩)
        · have HO' : Hid (textM m l = some (r.take n, r.drop n)) := Lib.hid (by rw [HO.out, if_pos ⟨HN.out, hl⟩])
          have HK2 := Lib.hid (HK.out.trans hk2)
          have HB := Lib.hid hb
          have HR2 := Lib.hid hr2
          clear hb hr2 hk2
          go_wp2_with fail
          go_ret
          exact ⟨HK2.out, .inl ⟨_, _, _, HO'.out, rfl, HB.out, HR2.out⟩⟩
        · have HO' : Hid (textM m l = none) := Lib.hid (by rw [HO.out, if_neg (fun h => by omega)])
          go_wp2_with fail
          exact ⟨rfl, HK.out, .inr ⟨HO'.out, rfl⟩⟩
      · have hn' : min m 1048576 < (n : Int) := by omega
        have HO' : Hid (textM m l = none) := Lib.hid (by rw [HO.out, if_neg (fun h => hn h.1)])
        clear hn
        go_wp2_with fail
        exact ⟨rfl, HK.out, .inr ⟨HO'.out, rfl⟩⟩
  · have HK := Lib.hid hk
    have HO : Hid (textM m l = none) := Lib.hid (by unfold textM textQ; rw [ho]; split <;> rfl)
    clear hk ho
    go_wp2_with fail
    exact ⟨rfl, HK.out, .inr ⟨HO.out, rfl⟩⟩

set_option maxHeartbeats 1000000 in
set_option maxRecDepth 100000 in
theorem rdClone_any (n₀ R : Nat) (l : List UInt8) (m : Int) (pm : Addr) (w : World) (h : RestAt n₀ w R l) (hn : n₀ ≤ w.heap.size) (hc : w.cell? pm = some (.int .i64 m)) (hm : -9223372036854775808 ≤ m ∧ m ≤ 9223372036854775807) : Calls Tryz.prog 194 #[.pointer (some ⟨R, 0, none⟩), .pointer (some pm)] w (ReadEnd (fun s w' v => OwnB w.heap.size w' v s) n₀ R (textM m l) w) := by
  have H := Lib.hid h
  have HM := Lib.hid hm
  have hRlt := h.lt
  clear h hm
  go_enter Tryz.func194, Tryz.ntmps194
  go_wp2_with fail
  refine (rdTextM_any n₀ R l m w H.out HM.out).mono ?_
  rintro e w1 ⟨hk, ⟨s, r, v, ho, rfl, hv, hr⟩ | ⟨ho, rfl⟩⟩
  · have HK := Lib.hid hk
    have HV := Lib.hid hv
    have HR := Lib.hid hr
    have HO := Lib.hid ho
    have hz := hk.size
    have HS := Lib.hid (textM_small ho)
    clear hk hv hr ho
    go_wp2_with fail
    refine (bclone_any v s w1 (HV.out.mono (by omega)) (by have := HS.out; omega)).mono ?_
    rintro e w2 ⟨v2, rfl, hv2, hb2⟩
    have HK2 := Lib.hid (HK.out.below (hb2.mono hz))
    have HR2 := Lib.hid (HR.out.below hb2 HR.out.lt)
    have HV2 := Lib.hid (hv2.mono hz)
    clear hv2 hb2
    go_wp2_with fail
    go_ret
    exact ⟨HK2.out, .inl ⟨_, _, _, HO.out, rfl, HV2.out, HR2.out⟩⟩
  · have HK := Lib.hid hk
    have HO := Lib.hid ho
    clear hk ho
    go_wp2_with fail
    exact ⟨rfl, HK.out, .inr ⟨HO.out, rfl⟩⟩
set_option maxHeartbeats 1000000 in
set_option maxRecDepth 100000 in
theorem takeText_any (v : Value) (l : List UInt8) (m : Int) (w : World) (h : ArgB w v l) (hm : -9223372036854775808 ≤ m ∧ m ≤ 9223372036854775807) : Calls Tryz.prog 174 #[v, .int .i64 m] w (TakenXEnd l (textM m l) w) := by
  have HA : ArgB (w.alloc (.cells #[.int .i64 m] 3)) v l := h.below ((Below.refl _ _).alloc (Nat.le_refl _) _)
  have HT := Lib.hid (takenX_any ⟨w.heap.size, 0, none⟩ v l (textM m l) (w.alloc (.cells #[.int .i64 m] 3)) HA.1 HA.2 (fun W R hr hs hb => (rdClone_any _ R l m ⟨w.heap.size, 0, none⟩ W hr (by omega) ((hb.cell (p := ⟨w.heap.size, 0, none⟩) (by simp)).trans (cell_of_row _ _ 0 _ _ (0, 0) (heap_alloc_new w _))) hm).mono (by
    rintro e w' ⟨hk, ⟨x, r, v, ho, he, hv, hr'⟩ | hx⟩
    · exact ⟨hk, .inl ⟨x, r, v, ho, he, hv.mono hs, hr'⟩⟩
    · exact ⟨hk, .inr hx⟩)))
  clear h HA
  go_enter Tryz.func174, Tryz.ntmps174
  go_wp2_with fail
  refine HT.out.mono ?_
  rintro e w1 ⟨hb, ⟨x, r, vt, ho, rfl, hv⟩ | ⟨ho, rfl⟩⟩
  · have HO := Lib.hid ho
    have HB : Hid (Below w.heap.size w w1) := Lib.hid (((Below.refl w.heap.size w).alloc (Nat.le_refl _) _).trans (hb.mono (by simp)))
    have HV := Lib.hid (hv.mono (B' := w.heap.size) (by simp))
    clear hb ho hv
    go_wp2_with fail
    go_ret3
    exact ⟨HB.out, .inl ⟨x, r, vt, HO.out, rfl, HV.out⟩⟩
  · have HO := Lib.hid ho
    have HB : Hid (Below w.heap.size w w1) := Lib.hid (((Below.refl w.heap.size w).alloc (Nat.le_refl _) _).trans (hb.mono (by simp)))
    clear hb ho
    go_wp2_with fail
    go_ret3
    exact ⟨HB.out, .inr ⟨HO.out, rfl⟩⟩
end
section
open Go

theorem beL_snoc (k x : Nat) (c : UInt8) : beL (k + 1) (x * 256 + c.toNat) = beL k x ++ [c] := by
  have hc := c.toNat_lt
  induction k with
  | zero =>
    show [UInt8.ofNat ((x * 256 + c.toNat) / 256 ^ 0 % 256)] = [c]
    rw [Nat.pow_zero, Nat.div_one, show (x * 256 + c.toNat) % 256 = c.toNat by omega, UInt8.ofNat_toNat]
  | succ j ih =>
    have e : (x * 256 + c.toNat) / 256 ^ (j + 1) = x / 256 ^ j := by
      rw [Nat.pow_succ, Nat.mul_comm (256 ^ j) 256, ← Nat.div_div_eq_div_mul, show (x * 256 + c.toNat) / 256 = x by omega]
    rw [beL, ih, e]
    rfl
theorem beL_beN (l : List UInt8) : beL l.length (beN l) = l := by
  suffices h : ∀ r : List UInt8, beL r.reverse.length (beN r.reverse) = r.reverse by simpa using h l.reverse
  intro r
  induction r with
  | nil => rfl
  | cons c r ih =>
    rw [List.reverse_cons, beN_snoc, List.length_append, List.length_singleton, beL_snoc, ih]
theorem symP_is : ∀ (l acc s r : List UInt8), acc.length ≤ 256 → symP l acc = some (s, r) → ∃ t, s = acc ++ t ∧ l = t.flatMap escB ++ [0, 1] ++ r ∧ s.length ≤ 256
  | [], _, _, _ => fun _ h => by cases h
  | [_], _, _, _ => fun _ h => by cases h
  | c :: d :: l, acc, s, r => fun ha h => by
    rw [symP] at h
    by_cases hc : c = 0
    · rw [if_pos hc] at h
      by_cases hd : d = 1
      · rw [if_pos hd] at h
        injection h with h
        injection h with h1 h2
        subst h1 h2 hc hd
        exact ⟨[], by simp, rfl, ha⟩
      · rw [if_neg hd] at h
        by_cases he : d = 255
        · rw [if_pos he] at h
          by_cases h6 : acc.length = 256
          · rw [if_pos h6] at h; cases h
          · rw [if_neg h6] at h
            obtain ⟨t, h1, h2, h3⟩ := symP_is l (acc ++ [0]) s r (by simp; omega) h
            refine ⟨0 :: t, by rw [h1]; simp, ?_, h3⟩
            rw [hc, he, h2]
            rfl
        · rw [if_neg he] at h; cases h
    · rw [if_neg hc] at h
      by_cases h6 : acc.length = 256
      · rw [if_pos h6] at h; cases h
      · rw [if_neg h6] at h
        obtain ⟨t, h1, h2, h3⟩ := symP_is (d :: l) (acc ++ [c]) s r (by simp; omega) h
        refine ⟨c :: t, by rw [h1]; simp, ?_, h3⟩
        rw [List.flatMap_cons, show escB c = [c] from if_neg hc, h2]
        rfl
theorem keyP_is {l r : List UInt8} {x : V3} (h : keyP l = some (x, r)) : l = keyV x ++ r ∧ MayV x ∧ -9223372036854775808 ≤ x.n ∧ x.n ≤ 9223372036854775807 := by
  cases l with
  | nil => cases h
  | cons c l =>
    rw [keyP] at h
    by_cases h1 : c = 1
    · rw [if_pos h1] at h
      by_cases h8 : 8 ≤ l.length
      · rw [if_pos h8] at h
        injection h with h
        injection h with ha hb
        subst ha hb h1
        have hl : (l.take 8).length = 8 := by rw [List.length_take]; omega
        have hlt := beN_lt (l.take 8)
        rw [hl] at hlt
        have h256 : (256 : Nat) ^ 8 = 18446744073709551616 := by decide
        have hb := beL_beN (l.take 8)
        rw [hl] at hb
        refine ⟨?_, intV_may l, ?_, ?_⟩
        · have e : keyV (intV l) = 1 :: beL 8 (((beN (l.take 8) : Int) - 9223372036854775808) + 9223372036854775808).toNat := rfl
          rw [e, show (((beN (l.take 8) : Int) - 9223372036854775808) + 9223372036854775808).toNat = beN (l.take 8) by omega, hb, List.cons_append, List.take_append_drop]
        · show (-9223372036854775808 : Int) ≤ (beN (l.take 8) : Int) - 9223372036854775808; omega
        · show (beN (l.take 8) : Int) - 9223372036854775808 ≤ 9223372036854775807; omega
      · rw [if_neg h8] at h; cases h
    · rw [if_neg h1] at h
      by_cases h2 : c = 2
      · rw [if_pos h2] at h
        cases e : symP l [] with
        | none => rw [e] at h; cases h
        | some p =>
          obtain ⟨s, r'⟩ := p
          rw [e] at h
          injection h with h
          injection h with ha hb
          obtain ⟨t, h3, h4, h5⟩ := symP_is l [] s r' (by simp) e
          rw [List.nil_append] at h3
          subst ha hb h2 h3
          refine ⟨?_, symV_may h5, by show (-9223372036854775808 : Int) ≤ 0; decide, by show (0 : Int) ≤ 9223372036854775807; decide⟩
          rw [h4]
          rfl
      · rw [if_neg h2] at h; cases h
theorem keysP_is : ∀ (f : Nat) (l : List UInt8) (acc T : List V3), acc.length ≤ 8 → keysP f l acc = some T → ∃ U, T = acc ++ U ∧ l = keyT U ∧ T.length ≤ 8 ∧ ∀ x ∈ U, MayV x ∧ -9223372036854775808 ≤ x.n ∧ x.n ≤ 9223372036854775807
  | f, [], acc, T => fun ha h => by
    have e : keysP f [] acc = some acc := by cases f <;> rfl
    rw [e] at h
    injection h with h
    subst h
    exact ⟨[], by simp, rfl, ha, fun x hx => by cases hx⟩
  | 0, _ :: _, _, _ => fun _ h => by cases h
  | f + 1, c :: l, acc, T => fun ha h => by
    rw [keysP] at h
    by_cases h8 : acc.length = 8
    · rw [if_pos h8] at h; cases h
    · rw [if_neg h8] at h
      cases e : keyP (c :: l) with
      | none => rw [e] at h; cases h
      | some p =>
        obtain ⟨x, r⟩ := p
        rw [e] at h
        obtain ⟨U, h1, h2, h3, h4⟩ := keysP_is f r (acc ++ [x]) T (by simp; omega) h
        obtain ⟨h5, h6⟩ := keyP_is e
        refine ⟨x :: U, by rw [h1]; simp, ?_, h3, fun y hy => ?_⟩
        · rw [h5, h2, keyT_cons]
        · rcases List.mem_cons.1 hy with rfl | hy
          · exact h6
          · exact h4 y hy
/-- What FromKey takes is the key of what it answers. -/
theorem keysP_all {l : List UInt8} {T : List V3} (h : keysP l.length l [] = some T) : l = keyT T ∧ MayT T ∧ ∀ x ∈ T, -9223372036854775808 ≤ x.n ∧ x.n ≤ 9223372036854775807 := by
  obtain ⟨U, h1, h2, h3, h4⟩ := keysP_is l.length l [] T (by simp) h
  rw [List.nil_append] at h1
  subst h1
  exact ⟨h2, ⟨h3, fun x hx => (h4 x hx).1⟩, fun x hx => (h4 x hx).2⟩
end
section
open Go

theorem numP_go : ∀ (f z j x : Nat) (r : List UInt8), z ≤ f → x < 2 ^ (7 * j) → j < 10 → (0 < j → 0 < z) → x + z * 2 ^ (7 * j) < 18446744073709551616 → numP (numL z ++ r) j x = some (x + z * 2 ^ (7 * j), r) := by
  intro f
  induction f with
  | zero =>
    intro z j x r hz hx hj h0 hlt
    obtain rfl : z = 0 := by omega
    have hj0 : j = 0 := by
      rcases Nat.eq_zero_or_pos j with h | h
      · exact h
      · exact absurd (h0 h) (by omega)
    subst hj0
    rw [numL_lt (by decide)]
    rfl
  | succ f ih =>
    intro z j x r hz hx hj h0 hlt
    rcases Nat.lt_or_ge z 128 with h | h
    · have hc : (UInt8.ofNat z).toNat = z := by rw [UInt8.toNat_ofNat', Nat.mod_eq_of_lt (by omega)]
      have hm : z % 128 = z := Nat.mod_eq_of_lt h
      rw [numL_lt h, List.singleton_append, numP, if_neg (by omega), hc, hm, if_neg, if_pos h]
      rintro (h1 | ⟨h1, h2⟩)
      · omega
      · have := congrArg UInt8.toNat h1
        rw [hc] at this
        have h3 := h0 h2
        have h4 : (0 : UInt8).toNat = 0 := rfl
        omega
    · have hc : (UInt8.ofNat (z % 128 + 128)).toNat = z % 128 + 128 := by rw [UInt8.toNat_ofNat', Nat.mod_eq_of_lt (by omega)]
      have hm : (z % 128 + 128) % 128 = z % 128 := by omega
      have hle : z % 128 * 2 ^ (7 * j) ≤ z * 2 ^ (7 * j) := Nat.mul_le_mul_right _ (Nat.mod_le _ _)
      have hsum : z % 128 * 2 ^ (7 * j) + z / 128 * 2 ^ (7 * (j + 1)) = z * 2 ^ (7 * j) := by
        rw [show 7 * (j + 1) = 7 + 7 * j by omega, Nat.pow_add, show (2 : Nat) ^ 7 = 128 from rfl, ← Nat.mul_assoc, ← Nat.add_mul]
        congr 1
        omega
      have hj9 : j + 1 < 10 := by
        rcases Nat.lt_or_ge (j + 1) 10 with h1 | h1
        · exact h1
        · exfalso
          obtain rfl : j = 9 := by omega
          have h128 : 128 * 2 ^ (7 * 9) ≤ z * 2 ^ (7 * 9) := Nat.mul_le_mul_right _ h
          have e : 128 * 2 ^ (7 * 9) = 1180591620717411303424 := by decide
          omega
      rw [numL_ge h, List.cons_append, numP, if_neg (by omega), hc, hm, if_neg, if_neg (by omega), ih (z / 128) (j + 1) _ r (by omega) (group_next hx (Nat.mod_lt _ (by decide))) hj9 (fun _ => by omega) (by omega), Nat.add_assoc, hsum]
      rintro (h1 | ⟨h1, h2⟩)
      · omega
      · have := congrArg UInt8.toNat h1
        rw [hc] at this
        have h4 : (0 : UInt8).toNat = 0 := rfl
        omega
theorem numP_back {z : Nat} (r : List UInt8) (h : z < 18446744073709551616) : numP (numL z ++ r) 0 0 = some (z, r) := by
  have := numP_go z z 0 0 r (Nat.le_refl _) (by decide) (by decide) (fun h => absurd h (by decide)) (by simpa using h)
  simpa using this
theorem zigN_fits {x : Int} (h : -9223372036854775808 ≤ x ∧ x ≤ 9223372036854775807) : zigN x < 18446744073709551616 := by unfold zigN; split <;> omega
theorem intQ_back {x : Int} (r : List UInt8) (h : -9223372036854775808 ≤ x ∧ x ≤ 9223372036854775807) : intQ (intL x ++ r) = some (x, r) := by
  unfold intQ intL
  rw [numP_back r (zigN_fits h)]
  show some (unzig (zigN x), r) = some (x, r)
  rw [unzig_zigN]
theorem textQ_back (s r : List UInt8) {m : Nat} (h : s.length ≤ m) (hs : s.length < 18446744073709551616) : textQ (textL s ++ r) m = some (s, r) := by
  unfold textQ textL
  rw [List.append_assoc, numP_back _ hs]
  simp [h]
theorem noBytes {s : ByteArray} (h : s.toList = []) : s = ⟨#[]⟩ := by
  rw [Lib.toList_data] at h
  cases s with
  | mk a => cases a with
    | mk l => cases h; rfl
theorem symV_of {x : V3} (hk : x.k = 2) (hn : x.n = 0) : symV x.s.data.toList = x := by
  obtain ⟨k, n, s⟩ := x
  simp only at hk hn
  subst hk hn
  rfl
theorem valQ_back {x : V3} (r : List UInt8) (hx : MayV x) (hn : -9223372036854775808 ≤ x.n ∧ x.n ≤ 9223372036854775807) : valQ (oneL x ++ r) = some (x, r) := by
  unfold oneL
  rcases hx with ⟨hk, hs⟩ | ⟨hk, h0, hs⟩
  · rw [if_pos hk, List.cons_append, valQ_int, intQ_back r hn]
    have := noBytes hs
    obtain ⟨k, n, s⟩ := x
    simp only at hk this
    subst hk this
    rfl
  · have hl : x.s.data.toList.length ≤ 256 := hs
    rw [if_neg (by omega), List.cons_append, valQ_sym, textQ_back _ r hl (by omega)]
    show some (symV x.s.data.toList, r) = some (x, r)
    rw [symV_of hk h0]
theorem valsQ_back : ∀ (T : List V3) (r : List UInt8), (∀ x ∈ T, MayV x ∧ (-9223372036854775808 ≤ x.n ∧ x.n ≤ 9223372036854775807)) → valsQ T.length (T.flatMap oneL ++ r) = some (T, r)
  | [], r => fun _ => rfl
  | x :: T, r => fun h => by
    obtain ⟨h1, h2⟩ := h x List.mem_cons_self
    rw [List.flatMap_cons, List.append_assoc, List.length_cons, valsQ, valQ_back _ h1 h2]
    simp only
    rw [valsQ_back T r (fun y hy => h y (List.mem_cons_of_mem _ hy))]
    rfl
theorem tupQ_back {T : List V3} (r : List UInt8) (h : MayT T) (hn : ∀ x ∈ T, -9223372036854775808 ≤ x.n ∧ x.n ≤ 9223372036854775807) : tupQ (tupL T ++ r) = some (T, r) := by
  have h8 := h.1
  unfold tupL
  have hc : (UInt8.ofNat T.length).toNat = T.length := by rw [UInt8.toNat_ofNat', Nat.mod_eq_of_lt (by omega)]
  rw [List.cons_append, tupQ, hc, if_neg (by omega), valsQ_back T r (fun x hx => ⟨h.2 x hx, hn x hx⟩)]
theorem cntQ_back {T : List V3} {n : Int} (r : List UInt8) (h : MayT T) (hT : ∀ x ∈ T, -9223372036854775808 ≤ x.n ∧ x.n ≤ 9223372036854775807) (hn : -9223372036854775808 ≤ n ∧ n ≤ 9223372036854775807) : cntQ ((tupL T ++ intL n) ++ r) = some ((T, n), r) := by
  unfold cntQ
  rw [List.append_assoc, tupQ_back _ h hT]
  simp only
  rw [intQ_back r hn]
  rfl

theorem beN_beL (k x : Nat) (h : x < 256 ^ k) : beN (beL k x) = x := by
  have hg : ∀ (k x a : Nat), x < 256 ^ k → (beL k x).foldl (fun x c => x * 256 + c.toNat) a = a * 256 ^ k + x := by
    intro k
    induction k with
    | zero => intro x a h; simp at h; subst h; simp [beL]
    | succ k ih =>
      intro x a h
      have hp : 0 < 256 ^ k := Nat.pow_pos (by decide)
      have hx : x / 256 ^ k < 256 := by rw [Nat.div_lt_iff_lt_mul hp, ← Nat.pow_succ']; exact h
      rw [beL, List.foldl_cons, beL_mod k x, ih _ _ (Nat.mod_lt _ hp), UInt8.toNat_ofNat', Nat.mod_eq_of_lt (show x / 256 ^ k % 256 < 2 ^ 8 by omega), Nat.mod_eq_of_lt hx]
      have e := Nat.div_add_mod x (256 ^ k)
      rw [Nat.pow_succ', Nat.add_mul, Nat.mul_assoc, Nat.add_assoc, Nat.mul_comm (x / 256 ^ k)]
      omega
  have := hg k x 0 h
  simpa [beN] using this
theorem symP_next {c : UInt8} {l acc : List UInt8} (hc : c ≠ 0) (ha : acc.length ≠ 256) (hl : l ≠ []) : symP (c :: l) acc = symP l (acc ++ [c]) := by
  cases l with
  | nil => exact absurd rfl hl
  | cons d l => rw [symP, if_neg hc, if_neg ha]
theorem symP_back : ∀ (l acc r : List UInt8), acc.length + l.length ≤ 256 → symP (l.flatMap escB ++ [0, 1] ++ r) acc = some (acc ++ l, r)
  | [], acc, r => fun _ => by simp [symP]
  | c :: l, acc, r => fun h => by
    rw [List.length_cons] at h
    by_cases hc : c = 0
    · subst hc
      rw [List.flatMap_cons, show escB 0 = [0, 255] from rfl]
      simp only [List.cons_append, List.nil_append]
      rw [symP, if_pos rfl, if_neg (by decide), if_pos rfl, if_neg (by omega)]
      have := symP_back l (acc ++ [0]) r (by simp; omega)
      simp only [List.append_assoc, List.cons_append, List.nil_append] at this ⊢
      exact this
    · rw [List.flatMap_cons, show escB c = [c] from if_neg hc]
      simp only [List.cons_append, List.nil_append]
      rw [symP_next hc (by omega) (by simp)]
      have := symP_back l (acc ++ [c]) r (by simp; omega)
      simp only [List.append_assoc, List.cons_append, List.nil_append] at this ⊢
      exact this
theorem keyP_back {x : V3} (r : List UInt8) (hx : MayV x) (hn : -9223372036854775808 ≤ x.n ∧ x.n ≤ 9223372036854775807) : keyP (keyV x ++ r) = some (x, r) := by
  unfold keyV
  rcases hx with ⟨hk, hs⟩ | ⟨hk, h0, hs⟩
  · have hl := beL_len 8 (x.n + 9223372036854775808).toNat
    have h256 : (256 : Nat) ^ 8 = 18446744073709551616 := by decide
    have hb := beN_beL 8 (x.n + 9223372036854775808).toNat (by omega)
    rw [if_pos hk]
    unfold keyI
    rw [List.cons_append, keyP, if_pos rfl, if_pos (by simp [hl])]
    have ht : (beL 8 (x.n + 9223372036854775808).toNat ++ r).take 8 = beL 8 (x.n + 9223372036854775808).toNat := by rw [List.take_append_of_le_length (by omega), List.take_of_length_le (by omega)]
    have hd : (beL 8 (x.n + 9223372036854775808).toNat ++ r).drop 8 = r := by rw [List.drop_append_of_le_length (by omega), List.drop_of_length_le (by omega), List.nil_append]
    unfold intV
    rw [ht, hd, hb, show (((x.n + 9223372036854775808).toNat : Nat) : Int) - 9223372036854775808 = x.n by omega]
    have := noBytes hs
    obtain ⟨k, n, s⟩ := x
    simp only at hk this
    subst hk this
    rfl
  · have hl : x.s.data.toList.length ≤ 256 := hs
    rw [if_neg (by omega)]
    unfold keyS
    rw [List.cons_append, keyP, if_neg (by decide), if_pos rfl, symP_back _ [] r (by simpa using hl)]
    show some (symV ([] ++ x.s.data.toList), r) = some (x, r)
    rw [List.nil_append, symV_of hk h0]
theorem keysP_go : ∀ (U : List V3) (f : Nat) (acc : List V3), U.length ≤ f → acc.length + U.length ≤ 8 → (∀ x ∈ U, MayV x ∧ (-9223372036854775808 ≤ x.n ∧ x.n ≤ 9223372036854775807)) → keysP f (keyT U) acc = some (acc ++ U)
  | [], f, acc => fun _ _ _ => by
    have e : keysP f [] acc = some acc := by cases f <;> rfl
    rw [List.append_nil]
    exact e
  | x :: U, 0, acc => fun h _ _ => by simp at h
  | x :: U, f + 1, acc => fun h h8 hm => by
    rw [List.length_cons] at h h8
    obtain ⟨h1, h2⟩ := hm x List.mem_cons_self
    have hb := keyP_back (keyT U) h1 h2
    rw [keyT_cons]
    cases e : keyV x ++ keyT U with
    | nil => exact absurd (List.append_eq_nil_iff.1 e).1 (keyV_ne x)
    | cons c r =>
      rw [e] at hb
      rw [keysP, if_neg (by omega), hb]
      simp only
      rw [keysP_go U f (acc ++ [x]) (by omega) (by simp; omega) (fun y hy => hm y (List.mem_cons_of_mem _ hy))]
      simp
theorem keyT_len (U : List V3) : U.length ≤ (keyT U).length := by
  induction U with
  | nil => simp
  | cons x U ih =>
    have := List.length_pos_iff.2 (keyV_ne x)
    rw [keyT_cons, List.length_append, List.length_cons]
    omega
/-- FromKey answers the tuple whose key it is given. -/
theorem keysP_back {T : List V3} (h : MayT T) (hn : ∀ x ∈ T, -9223372036854775808 ≤ x.n ∧ x.n ≤ 9223372036854775807) : keysP (keyT T).length (keyT T) [] = some T := by
  have := keysP_go T (keyT T).length [] (keyT_len T) (by simpa using h.1) (fun x hx => ⟨h.2 x hx, hn x hx⟩)
  simpa using this
end
end Go.Proofs.YtdjhfcopnhcljaaGreatDoor
