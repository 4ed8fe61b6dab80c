/-
  Contracts of crc.Open and of the document's Open.
-/
import Derived.Test.YteaeiejkdnbcnaaDoorCrO
namespace Go.Proofs.YteaeiejkdnbcnaaDoor
open Go Go.RowKit

/-- Do the last four bytes tell the sum of those before? -/
def openB (l : List UInt8) : Bool := sameB (l.drop (l.length - 4)) (encL (sumL (l.take (l.length - 4))))
/-- What Open answers: an error's number, and bytes. -/
def openE (l : List UInt8) : Int × List UInt8 := if l.length < 4 then (41, []) else if openB l then (0, l.take (l.length - 4)) else (40, [])
def OpenEnd (l : List UInt8) (w : World) (e : Ending) (w' : World) : Prop := ∃ v, e = .returned (.tuple #[v, .int .i64 (openE l).1]) ∧ OwnB w.heap.size w' v (openE l).2 ∧ Below w.heap.size w w'
theorem OpenEnd.mk {l : List UInt8} {w w' : World} {v : Value} {k : Int} {m : List UInt8} (h : openE l = (k, m)) (ho : OwnB w.heap.size w' v m) (hb : Below w.heap.size w w') : OpenEnd l w (.returned (.tuple #[v, .int .i64 k])) w' :=
  ⟨v, by rw [h], by rw [h]; exact ho, hb⟩
theorem BytIn.take {n₀ : Nat} {w : World} {a : Addr} {cap : Nat} {l : List UInt8} (h : BytIn n₀ w (.slice (some a) l.length cap) l) (n : Nat) (hn : n ≤ l.length) : BytIn n₀ w (.slice (some a) n cap) (l.take n) := by
  rcases h with ⟨e, -⟩ | ⟨a', c', e, h⟩
  · simp at e
  · injection e with e1 _ e3
    injection e1 with e1
    subst e1 e3
    refine .inr ⟨_, _, by rw [List.length_take, Nat.min_eq_left hn], fun j hj => ?_⟩
    have hj' : j < l.length := by rw [List.length_take] at hj; omega
    rw [List.getElem_take]
    exact h j hj'
theorem BytIn.drop {n₀ : Nat} {w : World} {a : Addr} {cap : Nat} {l : List UInt8} (h : BytIn n₀ w (.slice (some a) l.length cap) l) (n c' : Nat) : BytIn n₀ w (.slice (some (a.add n)) (l.length - n) c') (l.drop n) := by
  rcases h with ⟨e, -⟩ | ⟨a', c', e, h⟩
  · simp at e
  · injection e with e1 _ e3
    injection e1 with e1
    subst e1 e3
    refine .inr ⟨_, _, by rw [List.length_drop], fun j hj => ?_⟩
    have hj' : n + j < l.length := by rw [List.length_drop] at hj; omega
    obtain ⟨h1, h2⟩ := h (n + j) hj'
    refine ⟨by rw [add_block]; exact h1, ?_⟩
    have hadd : (a.add n).add j = a.add (n + j) := by
      unfold Addr.add
      by_cases hi : n = 0 <;> by_cases hj : j = 0 <;> simp [hi, hj, Nat.add_assoc]
    rw [hadd, List.getElem_drop]
    exact h2
theorem below_drewN (w : World) (n : Nat) : Below w.heap.size w (w.drewN n) := ⟨rfl, rfl, rfl, Nat.le_refl _, fun _ _ => rfl⟩
set_option maxHeartbeats 1000000 in
set_option maxRecDepth 100000 in
theorem open_any (v : Value) (l : List UInt8) (w : World) (h : ByC w.heap.size w v l) (hl : l.length ≤ 90000000000000) (G : Glob w) :
    Calls Tryd.prog 11 #[v] w (OpenEnd l w) := by
  obtain ⟨hb, p, c, rfl, hlc, hc⟩ := h
  unfold maxLen at hc
  by_cases h4 : l.length < 4
  · have HE : Hid ((openE l) = (41, [])) := Lib.hid (by unfold openE; rw [if_pos h4])
    have h4' : (l.length : Int) < 4 := by omega
    clear hb
    go_enter Tryd.func11, Tryd.ntmps11
    go_wp2_with fail
    go_ret2
    exact OpenEnd.mk HE.out (OwnB.nil _ _) (Below.refl _ _)
  · obtain ⟨n, hn⟩ : ∃ n, l.length = n + 4 := ⟨l.length - 4, by omega⟩
    obtain ⟨a, rfl⟩ : ∃ a, p = some a := by
      rcases hb with ⟨e, rfl⟩ | ⟨a, c', e, -⟩
      · simp at h4
      · injection e with e1; exact ⟨a, e1⟩
    have HT := Lib.hid (hb.take n (by omega))
    have HD := Lib.hid (hb.drop n (c - n))
    have HLn := Lib.hid hn
    have hw : IntKind.i64.wrap ((l.length : Int) - 4) = (n : Int) := by rw [IntKind.wrap_i64]; omega
    have h1 : (4 : Int) ≤ (l.length : Int) := by omega
    have h2 : (n : Int) ≤ (c : Int) := by omega
    have h3 : (0 : Int) ≤ (n : Int) := by omega
    have h5 : (n : Int) ≤ (l.length : Int) := by omega
    have h6 : ¬ c = n := by omega
    have h7 : n ≤ l.length := by omega
    have h8 : n ≤ c := by omega
    clear hb hn
    go_enter Tryd.func11, Tryd.ntmps11
    go_wp2_with fail
    go_quiet (fail)
    rename_i nq
    obtain ⟨wq, hwq⟩ : ∃ wq, wq = w.drewN nq := ⟨_, rfl⟩
    rw [← hwq]
    have HQ : Hid (Below w.heap.size w wq ∧ w.heap.size = wq.heap.size) := Lib.hid (by rw [hwq]; exact ⟨below_drewN w nq, rfl⟩)
    clear hwq
    obtain ⟨T, hT⟩ : ∃ T, T = l.take n := ⟨_, rfl⟩
    obtain ⟨D, hD⟩ : ∃ D, D = l.drop n := ⟨_, rfl⟩
    have HT1 : Hid (BytIn wq.heap.size wq (.slice (some a) n c) T) := Lib.hid (by rw [hT, ← HQ.out.2]; exact HT.out.below HQ.out.1)
    have HD1 : Hid (BytIn wq.heap.size wq (.slice (some (a.add n)) (l.length - n) (c - n)) D) := Lib.hid (by rw [hD, ← HQ.out.2]; exact HD.out.below HQ.out.1)
    have HTl : Hid (T.length = n) := Lib.hid (by rw [hT, List.length_take]; omega)
    have HO : Hid (openE l = if sameB D (encL (sumL T)) then (0, T) else (40, [])) := Lib.hid (by
      unfold openE openB
      rw [if_neg h4, show l.length - 4 = n by have := HLn.out; omega, hT, hD])
    clear hT hD
    go_wp2_with fail
    refine (sum_any _ T _ HT1.out (by have := HTl.out; omega) (G.below HQ.out.1)).mono ?_
    rintro e w' ⟨rfl, rfl⟩
    go_wp2_with fail
    refine (enc_any _ _).mono ?_
    rintro e w1 ⟨v1, rfl, ho1, hb1⟩
    have HB1 := Lib.hid hb1
    have HI1 := Lib.hid ho1.in_
    have HD2 := Lib.hid (HD1.out.below hb1)
    have HT2 := Lib.hid ((HT1.out.below hb1).mono hb1.size)
    clear ho1 hb1
    go_wp2_with fail
    refine (equal_any _ _ D (encL (sumL T)) _ _ (HD2.out.mono HB1.out.size) HI1.out).mono ?_
    rintro e w' ⟨rfl, rfl⟩
    have HBW : Hid (Below w.heap.size w w1) := Lib.hid (HQ.out.1.trans (HB1.out.mono (by rw [HQ.out.2]; exact Nat.le_refl _)))
    cases hs : sameB D (encL (sumL T))
    · have HE : Hid (openE l = (40, [])) := Lib.hid (by rw [HO.out, hs]; rfl)
      clear hs
      go_wp2_with fail
      go_ret2
      exact OpenEnd.mk HE.out (OwnB.nil _ _) HBW.out
    · have HE : Hid (openE l = (0, T)) := Lib.hid (by rw [HO.out, hs]; rfl)
      clear hs
      go_wp2_with fail
      refine (clone_any _ T _ HT2.out (by have := HTl.out; omega)).mono ?_
      rintro e w2 ⟨v2, rfl, ho2, hb2⟩
      have HO2 := Lib.hid (ho2.mono HBW.out.size)
      have HB2 := Lib.hid (HBW.out.trans (hb2.mono HBW.out.size))
      clear ho2 hb2
      go_wp2_with fail
      go_ret2
      exact OpenEnd.mk HE.out HO2.out HB2.out
theorem glob_eq {w W : World} (h : Below w.heap.size w W) (G : Glob w) : Glob W := G.below h
set_option maxHeartbeats 1000000 in
set_option maxRecDepth 100000 in
theorem ropen_any (v : Value) (l : List UInt8) (w : World) (h : ByC w.heap.size w v l) (hl : l.length ≤ 90000000000000) :
    Calls Tryd.prog 12 #[v] w (OpenEnd l w) := by
  obtain ⟨hb, p, c, rfl, hlc, hc⟩ := h
  unfold maxLen at hc
  have hwn : IntKind.i64.wrap ((l.length : Int) - 4) = (l.length : Int) - 4 := by rw [IntKind.wrap_i64]; omega
  by_cases h4 : l.length < 4
  · have HE : Hid ((openE l) = (41, [])) := Lib.hid (by unfold openE; rw [if_pos h4])
    have h4' : (l.length : Int) < 4 := by omega
    have h5' : (l.length : Int) - 4 < 0 := by omega
    clear hb
    go_enter Tryd.func12, Tryd.ntmps12
    go_wp2_with fail
    go_ret2
    exact OpenEnd.mk HE.out (OwnB.nil _ _) (Below.refl _ _)
  · obtain ⟨n, hn⟩ : ∃ n, l.length = n + 4 := ⟨l.length - 4, by omega⟩
    obtain ⟨a, rfl⟩ : ∃ a, p = some a := by
      rcases hb with ⟨e, rfl⟩ | ⟨a, c', e, -⟩
      · simp at h4
      · injection e with e1; exact ⟨a, e1⟩
    have HT := Lib.hid (hb.take n (by omega))
    have HD := Lib.hid (hb.drop n (c - n))
    have HLn := Lib.hid hn
    have hw : wrap64 ((l.length : Int) - 4) = (n : Int) := by unfold wrap64; omega
    have hw2 : (l.length : Int) - 4 = (n : Int) := by omega
    have h1 : (4 : Int) ≤ (l.length : Int) := by omega
    have h2 : (n : Int) ≤ (c : Int) := by omega
    have h3 : (0 : Int) ≤ (n : Int) := by omega
    have h3' : ¬ (n : Int) < 0 := by omega
    have h5 : (n : Int) ≤ (l.length : Int) := by omega
    have h6 : ¬ c = n := by omega
    have h7 : n ≤ l.length := by omega
    have h8 : n ≤ c := by omega
    obtain ⟨T, hT⟩ : ∃ T, T = l.take n := ⟨_, rfl⟩
    obtain ⟨D, hD⟩ : ∃ D, D = l.drop n := ⟨_, rfl⟩
    have hTl : T.length = n := by rw [hT, List.length_take]; omega
    have hDl : D.length = 4 := by rw [hD, List.length_drop]; omega
    have HGet : Hid (∀ k, Calls Tryd.prog 35 #[.slice (some (a.add n)) (l.length - n) (c - n)] (w.drewN k) fun e w' => e = .returned (.int .u32 (decN D : Nat)) ∧ ∃ m, w' = w.drewN m) := Lib.hid (fun k =>
      Calls.quiet_of (get_any _ D (w.drewN k) (by rw [hD]; exact HD.out.below (below_drewN w k)) (by omega) (by omega)))
    have HSum : Hid (∀ k, Calls Tryd.prog 14 #[.slice (some a) n c] (w.drewN k) fun e w' => e = .returned (regV (sumL T)) ∧ ∃ m, w' = w.drewN m) := Lib.hid (fun k =>
      Calls.quiet_of_same ((rsum_any _ T (w.drewN k) (by rw [hT]; exact HT.out.below (below_drewN w k)) (by omega)).mono fun _ _ h => ⟨h.1, h.2.symm⟩))
    have HO : Hid (openE l = if sameB D (encL (sumL T)) then (0, T) else (40, [])) := Lib.hid (by
      unfold openE openB
      rw [if_neg h4, show l.length - 4 = n by have := HLn.out; omega, hT, hD])
    have HTT : Hid (BytIn w.heap.size w (.slice (some a) n c) T) := Lib.hid (by rw [hT]; exact HT.out)
    have HTl := Lib.hid hTl
    have hsame : sameB D (encL (sumL T)) = decide ((decN D : Int) = rg (sumL T)) := by
      rw [Bool.eq_iff_iff, sameB_iff, decide_eq_true_iff, ← decN_iff hDl]
      unfold rg
      exact ⟨fun h => by rw [h], fun h => by exact_mod_cast h⟩
    rw [hsame] at HO
    clear hsame hDl hTl hT hD hb hn hwn
    generalize (decN D : Int) = x at *
    by_cases hxy : x = rg (sumL T)
    · subst hxy
      have HE : Hid (openE l = (0, T)) := Lib.hid (by rw [HO.out, decide_eq_true rfl]; rfl)
      go_enter Tryd.func12, Tryd.ntmps12
      go_wp2_with fail
      go_quiet ((first | (go_at_call 35; exact HGet.out _) | (go_at_call 14; exact HSum.out _)))
      rename_i nq
      obtain ⟨wq, hwq⟩ : ∃ wq, wq = w.drewN nq := ⟨_, rfl⟩
      rw [← hwq]
      have HQ : Hid (Below w.heap.size w wq ∧ w.heap.size = wq.heap.size) := Lib.hid (by rw [hwq]; exact ⟨below_drewN w nq, rfl⟩)
      clear hwq
      have HI : Hid (BytIn w.heap.size (wq.alloc (.cells #[] 5)) (.slice (some a) n c) T) := Lib.hid (HTT.out.below (HQ.out.1.alloc (by rw [HQ.out.2]; exact Nat.le_refl _) _))
      have HO : Hid (OwnB w.heap.size (wq.alloc (.cells #[] 5)) (.slice (some ⟨wq.heap.size, 0, none⟩) 0 0) []) := Lib.hid (OwnB.lit w.heap.size wq #[] [] 0 (by rw [HQ.out.2]; exact Nat.le_refl _) rfl (by decide) rfl)
      have HW : Hid (Below w.heap.size w (wq.alloc (.cells #[] 5))) := Lib.hid (HQ.out.1.alloc (by rw [HQ.out.2]; exact Nat.le_refl _) _)
      go_wp2_with (at_builtin; refine wpList_app rfl (.tmp 19) (.tmp 22) rfl w.heap.size w.heap.size w _ _ [] T rfl (by show Value.slice (some a) n c = _; rfl) HO.out HI.out (by have := HTl.out; rw [List.length_nil]; omega) HW.out (Nat.le_refl _) ?_; intro v' w1 ho hb)
      go_ret2
      exact OpenEnd.mk HE.out ho hb
    · have HE : Hid (openE l = (40, [])) := Lib.hid (by rw [HO.out, decide_eq_false hxy]; rfl)
      have hx1 : (x == rg (sumL T)) = false := by simpa using hxy
      have hx2 : (x != rg (sumL T)) = true := by simpa using hxy
      clear hxy
      go_enter Tryd.func12, Tryd.ntmps12
      go_wp2_with fail
      go_quiet ((first | (go_at_call 35; exact HGet.out _) | (go_at_call 14; exact HSum.out _)))
      rename_i nq
      obtain ⟨wq, hwq⟩ : ∃ wq, wq = w.drewN nq := ⟨_, rfl⟩
      rw [← hwq]
      have HQ : Hid (Below w.heap.size w wq) := Lib.hid (by rw [hwq]; exact below_drewN w nq)
      clear hwq
      go_wp2_with fail
      go_ret2
      exact OpenEnd.mk HE.out (OwnB.nil _ _) HQ.out
end Go.Proofs.YteaeiejkdnbcnaaDoor
