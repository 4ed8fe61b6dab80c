/-
  Words for runs in memory; contracts of run.sizeCode, pack.Counted, and of a page's sealed and key.
  Contracts of a page's key and of run.Check.
  The closure of run.pages hands the body each page; what has come is told of the world of its round.
-/
import Derived.Test.YtdjhfcopnhcljaaGreatDoorW04
import Derived.Test.YtdjhfcopnhcljaaGreatDoorW06
import Derived.Test.YtdjhfcopnhcljaaGreatDoorW07
import Derived.Deep.RegionHeld3
import Derived.Laws.Bits64
import Derived.RangeFuncBox
import Derived.RangeFuncLeaves
import Derived.RangeFuncCalls
import Derived.Shelf.Abstract
import Derived.OwnWalkIn
import Derived.TacticsInMore
import Derived.LoopNIn
import Derived.LoopIn
namespace Go.Proofs.YtdjhfcopnhcljaaGreatDoor
section
open Go Go.RowKit

set_option maxRecDepth 100000
/-- A slice value reads as entries, in blocks below n₀. -/
def EnIn (n₀ : Nat) (w : World) (v : Value) (E : List Ct) : Prop :=
  ∃ p c, v = .slice p E.length c ∧ E.length ≤ c ∧ c ≤ maxLen ∧ (E = [] ∨ ∃ b off, p = some ⟨b, off, none⟩ ∧ b < n₀ ∧ ∀ j (h : j < E.length), ∃ u, w.cell? ⟨b, off + j * 2, none⟩ = some u ∧ w.cell? ⟨b, off + j * 2 + 1, none⟩ = some (.int .i64 E[j].2) ∧ TupIn n₀ w u E[j].1)
theorem EnIn.below {n₀ : Nat} {w w' : World} {v : Value} {E : List Ct} (h : EnIn n₀ w v E) (hb : Below n₀ w w') : EnIn n₀ w' v E := by
  obtain ⟨p, c, rfl, h1, h2, h⟩ := h
  refine ⟨p, c, rfl, h1, h2, h.imp_right ?_⟩
  rintro ⟨b, off, rfl, hlt, hc⟩
  refine ⟨b, off, rfl, hlt, fun j hj => ?_⟩
  obtain ⟨u, g1, g2, g3⟩ := hc j hj
  exact ⟨u, (hb.cell (p := ⟨b, _, none⟩) hlt).trans g1, (hb.cell (p := ⟨b, _, none⟩) hlt).trans g2, g3.below hb⟩
theorem EnIn.mono {n₀ n₁ : Nat} {w : World} {v : Value} {E : List Ct} (h : EnIn n₀ w v E) (hn : n₀ ≤ n₁) : EnIn n₁ w v E := by
  obtain ⟨p, c, rfl, h1, h2, h⟩ := h
  refine ⟨p, c, rfl, h1, h2, h.imp_right ?_⟩
  rintro ⟨b, off, rfl, hlt, hc⟩
  refine ⟨b, off, rfl, by omega, fun j hj => ?_⟩
  obtain ⟨u, g1, g2, g3⟩ := hc j hj
  exact ⟨u, g1, g2, g3.mono hn⟩
theorem EnIn.at_ {n₀ : Nat} {w : World} {p : Option Addr} {n c : Nat} {E : List Ct} (h : EnIn n₀ w (.slice p n c) E) {j : Nat} (hj : j < E.length) : ∃ b off pu cu, p = some ⟨b, off, none⟩ ∧ b < n₀ ∧ w.cell? ⟨b, off + j * 2, none⟩ = some (.slice pu E[j].1.length cu) ∧ w.cell? ⟨b, off + j * 2 + 1, none⟩ = some (.int .i64 E[j].2) ∧ TupIn n₀ w (.slice pu E[j].1.length cu) E[j].1 := by
  obtain ⟨p', c', e, -, -, h⟩ := h
  injection e with e1 e2 e3
  subst e1
  rcases h with h | ⟨b, off, rfl, hlt, hc⟩
  · rw [h] at hj; simp at hj
  · obtain ⟨u, g1, g2, g3⟩ := hc j hj
    obtain ⟨pu, cu, rfl, -⟩ := id g3
    exact ⟨b, off, pu, cu, rfl, hlt, g1, g2, g3⟩
/-- A part of a row of entries. -/
theorem EnIn.part {n₀ : Nat} {w : World} {b off n c : Nat} {E : List Ct} (h : EnIn n₀ w (.slice (some ⟨b, off, none⟩) n c) E) (i j : Nat) (hij : i ≤ j) (hj : j ≤ E.length) : EnIn n₀ w (.slice (some ⟨b, off + i * 2, none⟩) (j - i) (c - i)) ((E.take j).drop i) := by
  obtain ⟨p', c', e, h1, h2, h⟩ := h
  injection e with e1 e2 e3
  subst e1 e3
  have hl : ((E.take j).drop i).length = j - i := by rw [List.length_drop, List.length_take]; omega
  refine ⟨_, c - i, by rw [hl], by rw [hl]; omega, by omega, ?_⟩
  rcases h with h | ⟨b', off', e, hlt, hc⟩
  · left; rw [h]; simp
  · injection e with e
    injection e with e e' _
    subst e e'
    refine .inr ⟨b, off + i * 2, rfl, hlt, fun k hk => ?_⟩
    have hk' : i + k < E.length := by rw [hl] at hk; omega
    obtain ⟨u, g1, g2, g3⟩ := hc (i + k) hk'
    have e1 : off + i * 2 + k * 2 = off + (i + k) * 2 := by omega
    rw [e1, List.getElem_drop, List.getElem_take]
    exact ⟨u, g1, g2, g3⟩
/-- Entries that may stand in a run. -/
def OkC (c : Ct) : Prop := OkT c.1 ∧ AllI c.1 ∧ -9223372036854775808 ≤ c.2 ∧ c.2 ≤ 9223372036854775807
theorem le4_v (n : Nat) (hn : n < 1000000000) : bytesV (le4 n) = [.int .u8 ((n : Int) % 256), .int .u8 ((n : Int) / 256 % 256), .int .u8 ((n : Int) / 65536 % 256), .int .u8 ((n : Int) / 16777216)] := by
  have e : ∀ m : Nat, ((UInt8.ofNat m).toNat : Int) = (m : Int) % 256 := fun m => by
    rw [UInt8.toNat_ofNat']; omega
  have e4 : ((n / 16777216 : Nat) : Int) % 256 = (n : Int) / 16777216 := by omega
  have e2 : ((n / 256 : Nat) : Int) % 256 = (n : Int) / 256 % 256 := by omega
  have e3 : ((n / 65536 : Nat) : Int) % 256 = (n : Int) / 65536 % 256 := by omega
  unfold le4 bytesV
  simp only [List.map_cons, List.map_nil, e, e2, e3, e4]
theorem le4_len (n : Nat) : (le4 n).length = 4 := rfl
theorem tupL_len {T : List V3} (h : OkT T) (hI : AllI T) : (tupL T).length ≤ 4801 := by
  have h1 := flat_len (f := oneL) (T := T) fun x hx => oneL_len (h.2 x hx) (hI x hx)
  have h2 := h.1
  unfold tupL
  rw [List.length_cons]; omega
theorem intL_len {n : Int} (h : -9223372036854775808 ≤ n ∧ n ≤ 9223372036854775807) : (intL n).length ≤ 10 := numL_len10 (zigN_lt h)
theorem cntL_len {c : Ct} (h : OkC c) : (cntL c).length ≤ 5000 := by
  have h1 := tupL_len h.1 h.2.1
  have h2 := intL_len h.2.2
  unfold cntL
  rw [List.length_append]; omega
set_option maxHeartbeats 2000000 in
theorem size4_any (n : Nat) (w : World) (hn : n < 1000000000) : Calls Tryz.prog 96 #[.int .i64 (n : Int)] w (EndB (le4 n) w) := by
  have h0 : (0 : Int) ≤ (n : Int) := by omega
  have h1 : (n : Int) < 1000000000 := by omega
  have hmk : ∀ w, (Instr.makeSlice 24 (.int .i64 4) (.int .i64 4)).run Tryz.prog w = .ok (.slice (some ⟨w.heap.size, 0, none⟩) 4 4) (w.alloc (.cells #[.int .u8 0, .int .u8 0, .int .u8 0, .int .u8 0] 5)) := fun _ => by kernel_rfl
  go_enter Tryz.func96, Tryz.ntmps96
  go_wp2_with fail
  refine wp_loop_rounds 5 ?_
  iterate 5 (rw [rounds_succ]; go_wp2_with fail)
  go_ret
  exact ⟨_, rfl, OwnB.lit w.heap.size w _ (le4 n) 4 (Nat.le_refl _) rfl (by rw [le4_len]; decide) (le4_v n hn).symm, (Below.refl _ _).alloc (Nat.le_refl _) _⟩
set_option maxHeartbeats 2000000 in
theorem cnt_any (p : Option Addr) (T : List V3) (cap : Nat) (n : Int) (w : World) (h : TupIn w.heap.size w (.slice p T.length cap) T) (hc : OkC (T, n)) :
    Calls Tryz.prog 102 #[.agg #[.slice p T.length cap, .int .i64 n]] w fun e w' => ∃ v, e = .returned (.tuple #[v, .int .i64 0]) ∧ OwnB w.heap.size w' v (cntL (T, n)) ∧ Below w.heap.size w w' := by
  have HT := Lib.hid h
  have HC := Lib.hid hc
  clear h hc
  have HB0 := Lib.hid ((Below.refl w.heap.size w).alloc (Nat.le_refl _) (.cells #[.slice p T.length cap, .int .i64 n] 66))
  go_enter Tryz.func102, Tryz.ntmps102
  go_wp2_with fail
  refine (tuple_any _ T w.heap.size _ (HT.out.below HB0.out) HB0.out.size HC.out.2.1).mono ?_
  rintro e w1 ⟨hb1, ⟨-, v1, rfl, ho1⟩ | ⟨hno, -⟩⟩
  · have HB1 := Lib.hid (HB0.out.trans (hb1.mono HB0.out.size))
    have HO1 := Lib.hid (ho1.mono HB0.out.size)
    have hc1 : w1.cell? ⟨w.heap.size, 1, none⟩ = some (.int .i64 n) := (hb1.cell (p := ⟨w.heap.size, 1, none⟩) (by simp)).trans (by rw [cell_of_row _ w.heap.size 1 _ _ (0, 0) (heap_alloc_new w _)]; rfl)
    have HIn := Lib.hid HC.out.2.2
    have HLs := Lib.hid (show (tupL T).length + (intL n).length ≤ 100000000000000 by have h1 := tupL_len HC.out.1 HC.out.2.1; have h2 := intL_len HC.out.2.2; simp only at h1 h2; omega)
    clear hb1 ho1
    go_wp2_with fail
    refine (int_any n _ HIn.out).mono ?_
    rintro e w2 ⟨v2, rfl, ho2, hb2⟩
    have HB2 := Lib.hid (HB1.out.trans (hb2.mono HB1.out.size))
    have HO2 := Lib.hid (HO1.out.below hb2)
    have HI2 := Lib.hid ho2.in_
    clear ho2 hb2
    go_wp2_with (at_builtin; refine wpList_app rfl (.tmp 15) (.tmp 18) rfl w.heap.size _ w v1 v2 (tupL T) (intL n) rfl rfl HO2.out HI2.out HLs.out HB2.out (Nat.le_refl _) ?_; intro v3 w3 ho3 hb3; have HO3 := Lib.hid ho3; have HB3 := Lib.hid hb3; clear ho3 hb3)
    go_wp2_with fail
    go_ret2
    exact ⟨_, rfl, HO3.out, HB3.out⟩
  · exact absurd HC.out.1 hno
/-- An append of bytes at a step of a region that draws its order. -/
theorem step_app {w : World} {ops : Array Oper} {o : Oper} {a : Act} {K : Act → World → Prop} {Q : Exit → Act → World → Prop} {E : Prop} (hgd : o.guard = none) (s x : Operand)
    (ho : o.op = .call { callee := .builtin .append, args := #[s, x], argTypes := #[24, 24] })
    (B n₀ : Nat) (w0 : World) (v vx : Value) (l m : List UInt8) (hs : a.eval s = v) (hx : a.eval x = vx) (hown : OwnB B w v l) (hin : BytIn n₀ w vx m) (hlen : l.length + m.length ≤ 100000000000000) (hb : Below B w0 w) (hB : B ≤ w0.heap.size)
    (h : ∀ v' w', OwnB B w' v' (l ++ m) → Below B w0 w' → K (a.put o.dst v') w') : if Region.wanted o (yielded ops a.tmps) = true then Oper.wp Tryz.prog o a w K Q else E := by
  have hw : Region.wanted o (yielded ops a.tmps) = true := by simp [Region.wanted, hgd]
  rw [if_pos hw]
  have hBw : B ≤ w.heap.size := Nat.le_trans hB hb.size
  obtain ⟨v', w', hr, h2, h3⟩ := run_app w B n₀ o.type v vx l m hown hin hlen hBw
  unfold Oper.wp execOp
  simp only [ho, resolve, invoke, builtin, Sem.run_bind, Sem.run_pure, Result.andThen_ok, List.map_toArray, List.map_cons, List.map_nil, hs, hx, hr]
  exact h v' w' h2 (hb.grown h3 hBw fun k hk => (World.ownsRow.lt hown k hk).1)
theorem box2 (w : World) (x y : Value) (t : TypeId) : (w.alloc (.cells #[x, y] t)).cell? ⟨w.heap.size, 0, none⟩ = some x ∧ (w.alloc (.cells #[x, y] t)).cell? ⟨w.heap.size, 1, none⟩ = some y := by
  constructor <;> (rw [cell_of_row _ w.heap.size _ _ _ (0, 0) (heap_alloc_new w _)]; rfl)
theorem flatC_len {P : List Ct} (hP : ∀ c ∈ P, OkC c) : (P.flatMap cntL).length ≤ 5000 * P.length := by
  induction P with
  | nil => simp
  | cons c r ih =>
    have h1 := cntL_len (hP c (List.mem_cons_self ..))
    have h2 := ih (fun x hx => hP x (List.mem_cons_of_mem _ hx))
    simp only [List.flatMap_cons, List.length_append, List.length_cons]
    omega
end
section
open Go Go.RowKit

set_option maxRecDepth 100000
theorem TupIn.wide {n₀ : Nat} {w : World} {v : Value} {T : List V3} (h : TupIn n₀ w v T) : TupS (fun k => k < n₀) w v T := by
  obtain ⟨p, cap, rfl, h1, h⟩ := h
  exact ⟨p, cap, rfl, by omega, h⟩
set_option maxHeartbeats 2000000 in
theorem pgkey_any (v vb : Value) (P : List Ct) (w : World) (h : EnIn w.heap.size w v P) (hP : P ≠ []) (hc : OkT (headT P) ∧ AllI (headT P)) :
    Calls Tryz.prog 94 #[.agg #[v, vb]] w (EndB (keyT (headT P)) w) := by
  obtain ⟨c, r, rfl⟩ := List.exists_cons_of_ne_nil hP
  obtain ⟨p, cp, rfl, -⟩ := id h
  obtain ⟨b, off, pu, cu, rfl, hb, hc0, -, ht⟩ := h.at_ (j := 0) (by simp)
  have hB0 := (Below.refl w.heap.size w).alloc (Nat.le_refl _) (.cells #[.slice (some ⟨b, off, none⟩) (c :: r).length cp, vb] 103)
  have hc1 := (hB0.cell (p := ⟨b, off + 0 * 2, none⟩) hb).trans hc0
  have HB0 := Lib.hid hB0
  have HT := Lib.hid (ht.below hB0)
  have HC := Lib.hid hc
  simp only [Nat.zero_mul, Nat.add_zero, List.getElem_cons_zero] at hc1 hc0
  have hn : (0 : Int) < ((c :: r).length : Int) := by simp
  obtain ⟨n, hnn⟩ : ∃ n, n = (c :: r).length := ⟨_, rfl⟩
  rw [← hnn] at hn HB0 HT hc1 ⊢
  clear hnn hB0 ht h hc
  go_enter Tryz.func94, Tryz.ntmps94
  go_wp2_with fail
  refine (key_any _ c.1 w.heap.size _ HT.out HB0.out.size HC.out.2).mono ?_
  rintro e w1 ⟨hb1, ⟨-, v1, rfl, ho1⟩ | ⟨hno, -⟩⟩
  · have HB1 := Lib.hid (HB0.out.trans (hb1.mono HB0.out.size))
    have HO1 := Lib.hid (ho1.mono HB0.out.size)
    clear hb1 ho1
    go_wp2_with fail
    go_ret
    exact ⟨_, rfl, HO1.out, HB1.out⟩
  · exact absurd HC.out.1 hno
/-- Entries that are a run. -/
def RunTo (E : List Ct) (k : Nat) : Prop := (∀ j (h : j < E.length), j < k → OkT E[j].1 ∧ E[j].2 ≠ 0) ∧ ∀ j (h : j + 1 < E.length), j + 1 < k → cmpT E[j].1 E[j + 1].1 < 0
def IsRun (E : List Ct) : Prop := RunTo E E.length
def ChkEnd (E : List Ct) (w : World) (e : Ending) (w' : World) : Prop := ((IsRun E ∧ e = .returned (.int .i64 0)) ∨ (¬ IsRun E ∧ e = .returned (.int .i64 70))) ∧ Below w.heap.size w w'
theorem RunTo.zero (E : List Ct) : RunTo E 0 := ⟨fun _ _ h => by omega, fun _ _ h => by omega⟩
theorem RunTo.succ {E : List Ct} {k : Nat} (h : RunTo E k) (hk : k < E.length) (h1 : OkT E[k].1 ∧ E[k].2 ≠ 0) (h2 : ∀ j (hj : j + 1 = k), cmpT (E[j]'(by omega)).1 E[k].1 < 0) : RunTo E (k + 1) := by
  refine ⟨fun j hj hk' => ?_, fun j hj hk' => ?_⟩
  · by_cases e : j = k
    · subst e; exact h1
    · exact h.1 j hj (by omega)
  · by_cases e : j + 1 = k
    · subst e; exact h2 j rfl
    · exact h.2 j hj (by omega)
set_option maxHeartbeats 8000000 in
theorem check_any (v : Value) (E : List Ct) (w : World) (h : EnIn w.heap.size w v E) (hE : E.length ≤ 1000000) :
    Calls Tryz.prog 13 #[v] w (ChkEnd E w) := by
  have HV := Lib.hid h
  obtain ⟨p, cp, rfl, -⟩ := h
  have mixed : Tryz.prog.follows .mixedOrders = true := by kernel_rfl
  go_enter Tryz.func13, Tryz.ntmps13
  go_wp2_with fail
  go_loopw [7] (fun i wr => ∃ k : Nat, k ≤ E.length ∧ i = .int .i64 k ∧ Hid (RunTo E k ∧ Below w.heap.size w wr)) (fun i _ => E.length - (intOf i).toNat)
  case atStart => exact ⟨0, Nat.zero_le _, rfl, Lib.hid ⟨RunTo.zero E, Below.refl _ _⟩⟩
  case round =>
    obtain ⟨k, hk, rfl, HJ⟩ := hrel
    by_cases hlt : k < E.length
    · have hlt' : (k : Int) < (E.length : Int) := by omega
      have hk63 : (k : Int) + 1 ≤ 1000001 := by omega
      have hk0 : (0 : Int) ≤ (k : Int) := by omega
      obtain ⟨b, off, pu, cu, rfl, hb, hc0, hc1, ht⟩ := (HV.out.below HJ.out.2).at_ hlt
      have HRt := Lib.hid HJ.out.1
      have HBr := Lib.hid HJ.out.2
      have hbs := HJ.out.2.size
      obtain ⟨x, hx⟩ : ∃ x, x = E[k] := ⟨_, rfl⟩
      rw [← hx] at hc0 hc1 ht
      have HX := Lib.hid hx
      obtain ⟨xT, xN⟩ := x
      simp only at hc0 hc1 ht
      obtain ⟨w1, hw1⟩ : ∃ w1, w1 = wr.alloc (.cells #[.slice pu xT.length cu, .int .i64 xN] 66) := ⟨_, rfl⟩
      have HB1 := Lib.hid (show Below wr.heap.size wr w1 by rw [hw1]; exact (Below.refl _ _).alloc (Nat.le_refl _) _)
      have HA := Lib.hid (show w1.cell? ⟨wr.heap.size, 0, none⟩ = some (.slice pu xT.length cu) ∧ w1.cell? ⟨wr.heap.size, 1, none⟩ = some (.int .i64 xN) ∧ wr.heap.size < w1.heap.size by rw [hw1]; exact ⟨(box2 _ _ _ _).1, (box2 _ _ _ _).2, by simp⟩)
      have HT := Lib.hid (ht.below (HB1.out.mono hbs))
      have HK := Lib.hid (tcheck_any _ xT w.heap.size w1 HT.out (Nat.le_trans hbs HB1.out.size))
      clear hx ht HJ
      go_wp2_with fail
      rw [← hw1]
      clear hw1
      refine HK.out.mono ?_
      rintro e w2 ⟨⟨hok, rfl⟩ | ⟨hno, rfl⟩, hb2⟩
      · have HA2 := Lib.hid (show w2.cell? ⟨wr.heap.size, 0, none⟩ = some (.slice pu xT.length cu) ∧ w2.cell? ⟨wr.heap.size, 1, none⟩ = some (.int .i64 xN) ∧ wr.heap.size < w2.heap.size from ⟨(hb2.cell (p := ⟨wr.heap.size, 0, none⟩) HA.out.2.2).trans HA.out.1, (hb2.cell (p := ⟨wr.heap.size, 1, none⟩) HA.out.2.2).trans HA.out.2.1, Nat.lt_of_lt_of_le HA.out.2.2 hb2.size⟩)
        have HB2 := Lib.hid (HB1.out.trans (hb2.mono HB1.out.size))
        have HB12 := Lib.hid (show Below w.heap.size w1 w2 from hb2.mono (Nat.le_trans hbs HB1.out.size))
        have HOk := Lib.hid hok
        have hxc := HA2.out.2.1
        clear hok hb2 HK hc0 hc1
        by_cases hx0 : xN = 0
        · subst hx0
          have HNo := Lib.hid (show ¬ IsRun E from fun hr => (hr.1 k hlt hlt).2 (by rw [← HX.out]))
          have HE := Lib.hid (HBr.out.trans (HB2.out.mono hbs))
          go_wp2_with fail
          go_ret
          exact ⟨.inr ⟨HNo.out, rfl⟩, HE.out⟩
        · have hxb : (xN == 0) = false := by simpa using hx0
          have hxd : decide (xN = 0) = false := by simpa using hx0
          have HX0 := Lib.hid hx0
          clear hx0
          rcases k with _ | m
          · have HR1 := Lib.hid (HRt.out.succ hlt ⟨by rw [← HX.out]; exact HOk.out, by rw [← HX.out]; exact HX0.out⟩ (fun j hj => by omega))
            have HE := Lib.hid (HBr.out.trans (HB2.out.mono hbs)).drew
            go_wp2_with fail
            go_region
            go_wp2_with fail
            go_roundw
            case rel => exact ⟨0 + 1, hlt, by simp, Lib.hid ⟨HR1.out, HE.out⟩⟩
            case measure => simp [intOf]; omega
          · obtain ⟨b', off', pv, cv, e2, -, hd0, -, hdt⟩ := (HV.out.below HBr.out).at_ (show m < E.length by omega)
            injection e2 with e2
            injection e2 with e2 e2' _
            subst e2 e2'
            obtain ⟨y, hy⟩ : ∃ y, y = E[m] := ⟨_, rfl⟩
            rw [← hy] at hd0 hdt
            have HY := Lib.hid hy
            obtain ⟨yT, yN⟩ := y
            simp only at hd0 hdt
            obtain ⟨K, hK⟩ : ∃ K, K = m + 1 := ⟨_, rfl⟩
            rw [← hK] at hlt' hk63 hk0 ⊢
            have HKm := Lib.hid hK
            have hw : IntKind.i64.wrap ((K : Int) - 1) = (m : Int) := by rw [IntKind.wrap_i64]; omega
            have hm1 : (m : Int) < (E.length : Int) := by omega
            have hK1 : (0 : Int) < (K : Int) := by omega
            have hKn : 0 < K := by omega
            have hbw : b < wr.heap.size := Nat.lt_of_lt_of_le hb hbs
            have HS := Lib.hid (show w2.cell? ⟨b, off + m * 2, none⟩ = some (.slice pv yT.length cv) ∧ w2.cell? ⟨wr.heap.size, 0, none⟩ = some (.slice pu xT.length cu) from ⟨(HB2.out.cell (p := ⟨b, off + m * 2, none⟩) hbw).trans hd0, HA2.out.1⟩)
            have HLt := Lib.hid (show b < w2.heap.size ∧ wr.heap.size < w2.heap.size from ⟨Nat.lt_of_lt_of_le hbw HB2.out.size, HA2.out.2.2⟩)
            have HXT := Lib.hid (show TupS (fun k => k < w2.heap.size) w2 (.slice pu xT.length cu) xT from (((HT.out.below (show Below w.heap.size w1 w2 from HB12.out)).mono (Nat.le_trans hbs HB2.out.size))).wide)
            have HYT := Lib.hid (show TupS (fun k => k < w2.heap.size) w2 (.slice pv yT.length cv) yT from ((hdt.below (HB2.out.mono hbs)).mono (Nat.le_trans hbs HB2.out.size)).wide)
            have HE2 := Lib.hid (HBr.out.trans (HB2.out.mono hbs))
            obtain ⟨z, hz⟩ : ∃ z, z = cmpT yT xT := ⟨_, rfl⟩
            have HZ := Lib.hid hz
            clear hy hd0 hdt hK hz
            by_cases hz0 : 0 ≤ z
            · have HNo := Lib.hid (show ¬ IsRun E from fun hr => by
                have h1 := hr.2 m hlt hlt
                rw [← HY.out, ← HX.out, ← HZ.out] at h1
                omega)
              go_wp2_with fail
              go_region_held3 (fun X => X.cell? ⟨b, off + m * 2, none⟩ = some (.slice pv yT.length cv) ∧ X.cell? ⟨wr.heap.size, 0, none⟩ = some (.slice pu xT.length cu)) (first | exact HS4.out | exact HS.out)
                ((go_at_call 45; refine (tcompareS_any _ _ yT xT _ ?_ ?_).mono ?_; exact HYT.out; exact HXT.out; rintro e w4 ⟨rfl, hg4⟩; have hb4 := (Below.refl w2.heap.size w2).drew.trans hg4.below; rw [← HZ.out]; have HE4 := Lib.hid (HE2.out.trans (hb4.mono HE2.out.size)); have HS4 := Lib.hid (And.intro ((hb4.cell (p := ⟨b, off + m * 2, none⟩) HLt.out.1).trans HS.out.1) ((hb4.cell (p := ⟨wr.heap.size, 0, none⟩) HLt.out.2).trans HS.out.2)); clear hb4 hg4))
              go_wp2_with fail
              go_ret
              exact ⟨.inr ⟨HNo.out, rfl⟩, HE4.out⟩
            · have hz1 : z < 0 := by omega
              have hzd : decide (0 ≤ z) = false := by simpa using hz0
              have HR1 := Lib.hid (HRt.out.succ hlt ⟨by rw [← HX.out]; exact HOk.out, by rw [← HX.out]; exact HX0.out⟩ (fun j hj => by
                obtain rfl : j = m := by omega
                rw [← HY.out, ← HX.out, ← HZ.out]
                omega))
              go_wp2_with fail
              go_region_held3 (fun X => X.cell? ⟨b, off + m * 2, none⟩ = some (.slice pv yT.length cv) ∧ X.cell? ⟨wr.heap.size, 0, none⟩ = some (.slice pu xT.length cu)) (first | exact HS4.out | exact HS.out)
                ((go_at_call 45; refine (tcompareS_any _ _ yT xT _ ?_ ?_).mono ?_; exact HYT.out; exact HXT.out; rintro e w4 ⟨rfl, hg4⟩; have hb4 := (Below.refl w2.heap.size w2).drew.trans hg4.below; rw [← HZ.out]; have HE4 := Lib.hid (HE2.out.trans (hb4.mono HE2.out.size)); have HS4 := Lib.hid (And.intro ((hb4.cell (p := ⟨b, off + m * 2, none⟩) HLt.out.1).trans HS.out.1) ((hb4.cell (p := ⟨wr.heap.size, 0, none⟩) HLt.out.2).trans HS.out.2)); clear hb4 hg4))
              go_wp2_with fail
              go_roundw
              case rel => exact ⟨K + 1, by have := HKm.out; omega, by simp, Lib.hid ⟨by rw [HKm.out]; exact HR1.out, HE4.out⟩⟩
              case measure => have := HKm.out; simp [intOf]; omega
      · have HNo := Lib.hid (show ¬ IsRun E from fun hr => hno (by have := (hr.1 k hlt hlt).1; rwa [← HX.out] at this))
        have HE := Lib.hid (HBr.out.trans ((HB1.out.trans (hb2.mono HB1.out.size)).mono hbs))
        clear hb2 HK hno
        go_wp2_with fail
        go_ret
        exact ⟨.inr ⟨HNo.out, rfl⟩, HE.out⟩
    · obtain rfl : k = E.length := by omega
      go_wp2_with fail
      go_ret
      exact ⟨.inl ⟨HJ.out.1, rfl⟩, HJ.out.2⟩
end
section
open Go Go.RowKit Go.Shelf

attribute [local go_sem] Oper.semAt_some

set_option maxHeartbeats 400000 in
theorem pages_any (p : Option Addr) (len c : Nat) (w : World) :
    Calls Tryz.prog 42 #[.slice p len c] w fun e w' => e = .returned (.func (.func 101) #[] #[.pointer (some ⟨w.heap.size, 0, none⟩)]) ∧ w.alloc (.cells #[.slice p len c] 22) = w' := by
  go_enter Tryz.func42, Tryz.ntmps42
  go_wp2_with fail
  go_ret
  exact ⟨rfl, rfl⟩
/-- What the closure keeps: pages told, entries of the page that is begun. -/
def PgS (E : List Ct) (done : List (List Ct)) (i k : Nat) : Prop := i ≤ k ∧ k ≤ E.length ∧ pagesL E = done ++ pgRest ((E.take k).drop i) (E.drop k) ∧ (i < k ∨ k = 0)
theorem PgS.zero (E : List Ct) : PgS E [] 0 0 := ⟨Nat.le_refl _, Nat.zero_le _, by simp [pagesL], .inr rfl⟩
theorem pg_part {E : List Ct} {i k : Nat} (hi : i ≤ k) (hk : k < E.length) : (E.take (k + 1)).drop i = (E.take k).drop i ++ [E[k]] := by
  rw [List.take_succ_eq_append_getElem hk, List.drop_append_of_le_length (by rw [List.length_take]; omega)]
theorem PgS.more {E : List Ct} {done : List (List Ct)} {i k : Nat} (h : PgS E done i k) (hk : k < E.length) (hn : ¬ (i < k ∧ 256 < (((E.take k).drop i).flatMap cntL).length + (cntL E[k]).length)) : PgS E done i (k + 1) := by
  obtain ⟨h1, h2, h3, h4⟩ := h
  refine ⟨by omega, hk, ?_, .inl (by omega)⟩
  rw [h3, List.drop_eq_getElem_cons hk]
  conv => lhs; unfold pgRest
  rw [if_neg, pg_part h1 hk]
  rintro ⟨a, b⟩
  refine hn ⟨?_, b⟩
  by_cases e : i < k
  · exact e
  · exfalso
    apply a
    apply List.eq_nil_of_length_eq_zero
    rw [List.length_drop, List.length_take]; omega
theorem PgS.next {E : List Ct} {done : List (List Ct)} {i k : Nat} (h : PgS E done i k) (hk : k < E.length) (hn : i < k ∧ 256 < (((E.take k).drop i).flatMap cntL).length + (cntL E[k]).length) : PgS E (done ++ [(E.take k).drop i]) k (k + 1) := by
  obtain ⟨h1, h2, h3, h4⟩ := h
  refine ⟨by omega, hk, ?_, .inl (by omega)⟩
  rw [h3, List.drop_eq_getElem_cons hk]
  conv => lhs; unfold pgRest
  have hne : (E.take k).drop i ≠ [] := by
    intro e
    have := congrArg List.length e
    rw [List.length_drop, List.length_take] at this
    simp at this; omega
  rw [if_pos ⟨hne, hn.2⟩, pg_part (Nat.le_refl k) hk, List.append_assoc]
  have e2 : (E.take k).drop k = [] := List.drop_of_length_le (by rw [List.length_take]; omega)
  rw [e2]
  rfl
theorem PgS.last {E : List Ct} {done : List (List Ct)} {i : Nat} (h : PgS E done i E.length) : pagesL E = done ++ (if i < E.length then [E.drop i] else []) := by
  obtain ⟨h1, -, h3, h4⟩ := h
  rw [h3, List.take_length, List.drop_length]
  unfold pgRest
  by_cases e : i < E.length
  · rw [if_pos e, if_neg]
    intro e2
    have := congrArg List.length e2
    rw [List.length_drop] at this
    simp at this; omega
  · rw [if_neg e, if_pos (List.drop_of_length_le (by omega))]
end
end Go.Proofs.YtdjhfcopnhcljaaGreatDoor
