/-
  A block of one cell.
  run's reader: a number, a counted tuple, a byte string, off the front of any bytes.
  run's reader at counted tuples; num, key, counted.
-/
import Derived.Test.YtdjhfcopnhcljaaGreatDoorW22
import Derived.Test.YtdjhfcopnhcljaaGreatDoorW10
import Derived.Test.YtdjhfcopnhcljaaGreatDoorW09
import Derived.Test.YtdjhfcopnhcljaaGreatDoorW21
namespace Go.Proofs.YtdjhfcopnhcljaaGreatDoor
section
open Go Go.RowKit

theorem cell_at {w : World} {b : Nat} {v : Value} {t : TypeId} (h : w.heap[b]? = some (.cells #[v] t (0, 0))) : w.cell? ⟨b, 0, none⟩ = some v ∧ w.frozen? ⟨b, 0, none⟩ = false := ⟨(cell_of_row w b 0 _ _ (0, 0) h).trans rfl, frozen_of_row w b 0 _ _ h⟩
end
section
open Go Go.RowKit

/-- Block R holds the bytes that are still to be read; they lie below n₀. -/
def RdB (n₀ : Nat) (w : World) (R : Nat) (l : List UInt8) : Prop :=
  n₀ ≤ R ∧ ∃ p cap, w.heap[R]? = some (.cells #[.slice p l.length cap] 184 (0, 0)) ∧ l.length ≤ cap ∧ cap ≤ maxLen ∧ BytIn n₀ w (.slice p l.length cap) l
theorem RdB.lt {n₀ : Nat} {w : World} {R : Nat} {l : List UInt8} (h : RdB n₀ w R l) : R < w.heap.size := by
  obtain ⟨-, p, cap, hb, -⟩ := h
  exact (Array.getElem?_eq_some_iff.1 hb).1
theorem RdB.below {n₀ : Nat} {w w' : World} {R : Nat} {l : List UInt8} (h : RdB n₀ w R l) (hb : Below w.heap.size w w') : RdB n₀ w' R l := by
  have hlt := h.lt
  obtain ⟨hR, p, cap, h1, h2, h3, h4⟩ := h
  exact ⟨hR, p, cap, (hb.block R hlt).trans h1, h2, h3, h4.below (hb.mono (Nat.le_trans hR (Nat.le_of_lt hlt)))⟩
/-- Nothing that was there has turned but block R. -/
def OnlyR (R : Nat) (w w' : World) : Prop := Turned (fun k => k = R) w w'
theorem OnlyR.fromB {R : Nat} {w w' : World} (h : Below w.heap.size w w') : OnlyR R w w' := ⟨h.os, h.tape, h.output, h.size, fun k hk _ => h.block k hk⟩
theorem OnlyR.trans {R : Nat} {a b c : World} (h : OnlyR R a b) (g : OnlyR R b c) : OnlyR R a c :=
  ⟨Eq.trans g.os h.os, Eq.trans g.tape h.tape, Eq.trans g.output h.output, Nat.le_trans h.size g.size, fun k hk hn => (g.block k (Nat.lt_of_lt_of_le hk h.size) hn).trans (h.block k hk hn)⟩
theorem OnlyR.set (R : Nat) (w : World) (u : Value) : OnlyR R w (w.setCell ⟨R, 0, none⟩ u) :=
  ⟨rfl, rfl, rfl, by simp, fun k _ hk => heap_setCell_other w ⟨R, 0, none⟩ k u hk⟩
theorem OnlyR.below {R n : Nat} {w w' : World} (h : OnlyR R w w') (hn : n ≤ w.heap.size) (hR : n ≤ R) : Below n w w' := ⟨h.os, h.tape, h.output, h.size, fun k hk => h.block k (by omega) (fun e => by have e1 : k = R := e; omega)⟩
theorem rd_row {w : World} {R : Nat} {v u : Value} (h : w.heap[R]? = some (.cells #[v] 184 (0, 0))) : (w.setCell ⟨R, 0, none⟩ u).heap[R]? = some (.cells #[u] 184 (0, 0)) :=
  heap_setCell_same w R 0 #[v] _ u h
/-- What a reader answers: what it read, and what is left; or it panics. -/
def TkEnd {α : Type} (n₀ R : Nat) (o : Option (α × List UInt8)) (T : α → World → Value → Prop) (w : World) (e : Ending) (w' : World) : Prop :=
  ((∃ x r v, o = some (x, r) ∧ e = .returned v ∧ T x w' v ∧ RdB n₀ w' R r) ∨ (o = none ∧ e = .panicked (errP 71))) ∧ OnlyR R w w'
theorem numL_pos (x : Nat) : 0 < (numL x).length := by
  unfold numL
  split <;> simp
set_option maxRecDepth 100000 in
set_option maxHeartbeats 4000000 in
theorem takeN_any (n₀ R : Nat) (l : List UInt8) (w : World) (h : RdB n₀ w R l) :
    Calls Tryz.prog 148 #[.pointer (some ⟨R, 0, none⟩), .func (.func 149) #[] #[]] w (TkEnd n₀ R (numP l 0 0) (fun x _ v => v = .int .u64 (x : Nat)) w) := by
  have HR := Lib.hid h
  obtain ⟨hR, p, cap, hb, hc, hm, hi⟩ := h
  have c0 : w.cell? ⟨R, 0, none⟩ = some (.slice p l.length cap) := cell_of_row w R 0 _ _ (0, 0) hb
  have HI := Lib.hid hi
  have HB := Lib.hid hb
  have hm2 : cap ≤ 9223372036854775807 := hm
  have HRn := Lib.hid hR
  have HLt := Lib.hid HR.out.lt
  have HC := Lib.hid (takeNum_any (.slice p l.length cap) l w ⟨hi.mono (Nat.le_trans hR (Nat.le_of_lt HR.out.lt)), p, cap, rfl, hc, hm⟩)
  clear hb hi hm hR
  go_enter Tryz.func148, Tryz.ntmps148
  go_wp2_with fail
  refine HC.out.mono ?_
  rintro e w1 ⟨hb1, ⟨x, r, ho, rfl⟩ | ⟨ho, rfl⟩⟩
  · have hl := (fun h => (numP_all h).1) ho
    obtain ⟨N, hN⟩ : ∃ N, N = l.length - r.length := ⟨_, rfl⟩
    have hlr : l.length = N + r.length := by rw [hN]; have := congrArg List.length hl; rw [List.length_append] at this; omega
    have hN0 : 0 < N := by
      have := congrArg List.length hl
      rw [List.length_append] at this
      have h0 : 0 < (numL x).length := numL_pos x
      omega
    have hdr : l.drop N = r := by
      have : N = (numL x).length := by have := congrArg List.length hl; rw [List.length_append] at this; omega
      rw [this, hl, List.drop_left]
    rcases p with _ | a
    · exfalso
      rcases HI.out with ⟨-, rfl⟩ | ⟨a', c', e, -⟩
      · simp at hlr; omega
      · simp at e
    have hNi : (l.length : Int) - (r.length : Int) = (N : Int) := by omega
    rw [hNi]
    have HO := Lib.hid ho
    have HB1 := Lib.hid hb1
    have HB2 := Lib.hid ((hb1.block R HLt.out).trans HB.out)
    have HI1 := Lib.hid (HI.out.below (hb1.mono (Nat.le_trans HRn.out (Nat.le_of_lt HLt.out))))
    have c1 := (cell_at HB2.out).1
    have f1 := (cell_at HB2.out).2
    have HLr := Lib.hid (And.intro hlr hdr)
    have hi1 : (N : Int) ≤ (l.length : Int) := by omega
    have hi2 : (cap : Int) ≤ 9223372036854775807 := by omega
    have hi3 : (l.length : Int) ≤ (cap : Int) := by omega
    have hi4 : (0 : Int) ≤ (N : Int) := by omega
    have hi5 : (N : Int) ≤ (cap : Int) := by omega
    skip
    clear hb1 ho hl hN hlr hdr hNi c0 hN0
    go_wp2_with fail
    refine (intact_ok _).mono ?_
    rintro e w2 ⟨⟨u, rfl⟩, rfl⟩
    by_cases hcn : cap = N
    · have HE : Hid (∀ W, W = w1.setCell ⟨R, 0, none⟩ (.slice (some a) 0 0) → RdB n₀ W R r ∧ OnlyR R w W) := Lib.hid (by
        rintro W rfl
        have hr0 : r = [] := by
          have := HLr.out.1
          exact List.eq_nil_of_length_eq_zero (by omega)
        rw [hr0]
        exact ⟨⟨HRn.out, some a, 0, rd_row HB2.out, Nat.le_refl _, by decide, .inr ⟨a, 0, rfl, fun j hj => by cases hj⟩⟩, (OnlyR.fromB HB1.out).trans (OnlyR.set R w1 _)⟩)
      have hln : l.length = N := by omega
      go_wp2_with fail
      go_ret
      obtain ⟨h1, h2⟩ := HE.out _ rfl
      exact ⟨.inl ⟨x, r, _, HO.out, rfl, rfl, h1⟩, h2⟩
    · have HE : Hid (∀ W, W = w1.setCell ⟨R, 0, none⟩ (.slice (some (a.add N)) (l.length - N) (cap - N)) → RdB n₀ W R r ∧ OnlyR R w W) := Lib.hid (by
        rintro W rfl
        have e1 : l.length - N = r.length := by have := HLr.out.1; omega
        refine ⟨⟨HRn.out, some (a.add N), cap - N, ?_, by omega, by unfold maxLen; omega, ?_⟩, (OnlyR.fromB HB1.out).trans (OnlyR.set R w1 _)⟩
        · rw [← e1]; exact rd_row HB2.out
        · have h1 := (HI1.out.drop N (by omega)).set (j := 0) HRn.out (.slice (some (a.add N)) (l.length - N) (cap - N))
          rw [HLr.out.2] at h1
          rw [← e1]
          exact h1)
      go_wp2_with fail
      go_ret
      obtain ⟨h1, h2⟩ := HE.out _ rfl
      exact ⟨.inl ⟨x, r, _, HO.out, rfl, rfl, h1⟩, h2⟩
  · have HO := Lib.hid ho
    have HB1 := Lib.hid hb1
    clear hb1 ho
    go_wp2_with fail
    refine (intact_bad _).mono ?_
    rintro e w2 ⟨rfl, rfl⟩
    go_wp2_with fail
    exact ⟨rfl, .inr ⟨HO.out, rfl⟩, OnlyR.fromB HB1.out⟩
theorem textM_all {m : Int} {l x r : List UInt8} (h : textM m l = some (x, r)) : l = textL x ++ r := by
  rcases Int.lt_or_le m 0 with h0 | h0
  · rw [textM_neg h0] at h; cases h
  · rw [textM_of h0] at h
    exact (textQ_is h).1
set_option maxRecDepth 100000 in
theorem key1_any (v : Value) (l : List UInt8) (w : World) (h : ArgB w v l) : Calls Tryz.prog 173 #[v] w (TakenXEnd l (textM (l.length : Int) l) w) := by
  obtain ⟨-, p, cap, rfl, hc, hm⟩ := id h
  unfold maxLen at hm
  have HT := Lib.hid (takeText_any (.slice p l.length cap) l (l.length : Int) w h (by omega))
  clear h
  go_enter Tryz.func173, Tryz.ntmps173
  go_wp2_with fail
  refine HT.out.mono ?_
  rintro e w1 ⟨hb, ⟨x, r, u, ho, rfl, hu⟩ | ⟨ho, rfl⟩⟩
  · have HB := Lib.hid hb
    have HO := Lib.hid ho
    have HU := Lib.hid hu
    clear hb ho hu HT
    go_wp2_with fail
    go_ret3
    exact ⟨HB.out, .inl ⟨x, r, u, HO.out, rfl, HU.out⟩⟩
  · have HB := Lib.hid hb
    have HO := Lib.hid ho
    clear hb ho HT
    go_wp2_with fail
    go_ret3
    exact ⟨HB.out, .inr ⟨HO.out, rfl⟩⟩
set_option maxRecDepth 100000 in
set_option maxHeartbeats 4000000 in
theorem takeX_any (n₀ R : Nat) (l : List UInt8) (w : World) (h : RdB n₀ w R l) :
    Calls Tryz.prog 172 #[.pointer (some ⟨R, 0, none⟩), .func (.func 173) #[] #[]] w (TkEnd n₀ R (textM (l.length : Int) l) (fun x W v => OwnB w.heap.size W v x) w) := by
  have HR := Lib.hid h
  obtain ⟨hR, p, cap, hb, hc, hm, hi⟩ := h
  have c0 : w.cell? ⟨R, 0, none⟩ = some (.slice p l.length cap) := cell_of_row w R 0 _ _ (0, 0) hb
  have HI := Lib.hid hi
  have HB := Lib.hid hb
  have hm2 : cap ≤ 9223372036854775807 := hm
  have HRn := Lib.hid hR
  have HLt := Lib.hid HR.out.lt
  have HC := Lib.hid (key1_any (.slice p l.length cap) l w ⟨hi.mono (Nat.le_trans hR (Nat.le_of_lt HR.out.lt)), p, cap, rfl, hc, hm⟩)
  clear hb hi hm hR
  go_enter Tryz.func172, Tryz.ntmps172
  go_wp2_with fail
  refine HC.out.mono ?_
  rintro e w1 ⟨hb1, ⟨x, r, v, ho, rfl, hv⟩ | ⟨ho, rfl⟩⟩
  · have hl := textM_all ho
    obtain ⟨N, hN⟩ : ∃ N, N = l.length - r.length := ⟨_, rfl⟩
    have hlr : l.length = N + r.length := by rw [hN]; have := congrArg List.length hl; rw [List.length_append] at this; omega
    have hN0 : 0 < N := by
      have := congrArg List.length hl
      rw [List.length_append] at this
      have h0 : 0 < (textL x).length := (by unfold textL; rw [List.length_append]; have := numL_pos x.length; omega)
      omega
    have hdr : l.drop N = r := by
      have : N = (textL x).length := by have := congrArg List.length hl; rw [List.length_append] at this; omega
      rw [this, hl, List.drop_left]
    rcases p with _ | a
    · exfalso
      rcases HI.out with ⟨-, rfl⟩ | ⟨a', c', e, -⟩
      · simp at hlr; omega
      · simp at e
    have hNi : (l.length : Int) - (r.length : Int) = (N : Int) := by omega
    rw [hNi]
    have HO := Lib.hid ho
    have HB1 := Lib.hid hb1
    have HB2 := Lib.hid ((hb1.block R HLt.out).trans HB.out)
    have HI1 := Lib.hid (HI.out.below (hb1.mono (Nat.le_trans HRn.out (Nat.le_of_lt HLt.out))))
    have c1 := (cell_at HB2.out).1
    have f1 := (cell_at HB2.out).2
    have HLr := Lib.hid (And.intro hlr hdr)
    have hi1 : (N : Int) ≤ (l.length : Int) := by omega
    have hi2 : (cap : Int) ≤ 9223372036854775807 := by omega
    have hi3 : (l.length : Int) ≤ (cap : Int) := by omega
    have hi4 : (0 : Int) ≤ (N : Int) := by omega
    have hi5 : (N : Int) ≤ (cap : Int) := by omega
    have HV := Lib.hid hv
    obtain ⟨pv, cv, rfl⟩ := hv.in_.shape
    obtain ⟨nv, hnv⟩ : ∃ n, n = x.length := ⟨_, rfl⟩
    rw [← hnv] at HV ⊢
    clear hv hnv
    clear hb1 ho hl hN hlr hdr hNi c0 hN0
    go_wp2_with fail
    refine (intact_ok _).mono ?_
    rintro e w2 ⟨⟨u, rfl⟩, rfl⟩
    by_cases hcn : cap = N
    · have HE : Hid (∀ W, W = w1.setCell ⟨R, 0, none⟩ (.slice (some a) 0 0) → RdB n₀ W R r ∧ OnlyR R w W) := Lib.hid (by
        rintro W rfl
        have hr0 : r = [] := by
          have := HLr.out.1
          exact List.eq_nil_of_length_eq_zero (by omega)
        rw [hr0]
        exact ⟨⟨HRn.out, some a, 0, rd_row HB2.out, Nat.le_refl _, by decide, .inr ⟨a, 0, rfl, fun j hj => by cases hj⟩⟩, (OnlyR.fromB HB1.out).trans (OnlyR.set R w1 _)⟩)
      have hln : l.length = N := by omega
      go_wp2_with fail
      go_ret
      obtain ⟨h1, h2⟩ := HE.out _ rfl
      exact ⟨.inl ⟨x, r, _, HO.out, rfl, HV.out.set (a := ⟨R, 0, none⟩) HLt.out _, h1⟩, h2⟩
    · have HE : Hid (∀ W, W = w1.setCell ⟨R, 0, none⟩ (.slice (some (a.add N)) (l.length - N) (cap - N)) → RdB n₀ W R r ∧ OnlyR R w W) := Lib.hid (by
        rintro W rfl
        have e1 : l.length - N = r.length := by have := HLr.out.1; omega
        refine ⟨⟨HRn.out, some (a.add N), cap - N, ?_, by omega, by unfold maxLen; omega, ?_⟩, (OnlyR.fromB HB1.out).trans (OnlyR.set R w1 _)⟩
        · rw [← e1]; exact rd_row HB2.out
        · have h1 := (HI1.out.drop N (by omega)).set (j := 0) HRn.out (.slice (some (a.add N)) (l.length - N) (cap - N))
          rw [HLr.out.2] at h1
          rw [← e1]
          exact h1)
      go_wp2_with fail
      go_ret
      obtain ⟨h1, h2⟩ := HE.out _ rfl
      exact ⟨.inl ⟨x, r, _, HO.out, rfl, HV.out.set (a := ⟨R, 0, none⟩) HLt.out _, h1⟩, h2⟩
  · have HO := Lib.hid ho
    have HB1 := Lib.hid hb1
    clear hb1 ho
    go_wp2_with fail
    refine (intact_bad _).mono ?_
    rintro e w2 ⟨rfl, rfl⟩
    go_wp2_with fail
    exact ⟨rfl, .inr ⟨HO.out, rfl⟩, OnlyR.fromB HB1.out⟩
end
section
open Go Go.RowKit

theorem RdB.other {n₀ : Nat} {w w' : World} {R b : Nat} {l : List UInt8} (h : RdB n₀ w R l) (ht : Turned (fun k => k = b) w w') (hb : b ≠ R) (hn : n₀ ≤ b) : RdB n₀ w' R l := by
  have hlt := h.lt
  obtain ⟨hR, p, cap, h1, h2, h3, h4⟩ := h
  refine ⟨hR, p, cap, (ht.block R hlt (fun e => hb e.symm)).trans h1, h2, h3, ?_⟩
  rcases h4 with h4 | ⟨a, c, e, h4⟩
  · exact .inl h4
  · exact .inr ⟨a, c, e, fun j hj => ⟨(h4 j hj).1, (World.cell?_of_block (a := a.add j) (by
      rw [add_block]
      exact ht.block a.block (by have := (h4 j hj).1; omega) (fun e => by have := (h4 j hj).1; have e : a.block = b := e; omega))).trans (h4 j hj).2⟩⟩
theorem row2_kept {W : World} {R b : Nat} {x y u : Value} {t : TypeId} (h : W.heap[b]? = some (.cells #[x, y] t (0, 0))) (hne : b ≠ R) :
    ((W.setCell ⟨R, 0, none⟩ u).cell? ⟨b, 0, none⟩ = some x ∧ (W.setCell ⟨R, 0, none⟩ u).cell? ⟨b, 1, none⟩ = some y) ∧ (W.setCell ⟨R, 0, none⟩ u).frozen? ⟨b, 0, none⟩ = false ∧ (W.setCell ⟨R, 0, none⟩ u).frozen? ⟨b, 1, none⟩ = false := by
  have h' : (W.setCell ⟨R, 0, none⟩ u).heap[b]? = some (.cells #[x, y] t (0, 0)) := ((turned_setCell W R u).block _ (Array.getElem?_eq_some_iff.1 h).1 hne).trans h
  exact ⟨⟨(cell_of_row _ b 0 _ _ (0, 0) h').trans rfl, (cell_of_row _ b 1 _ _ (0, 0) h').trans rfl⟩, frozen_of_row _ b 0 _ _ h', frozen_of_row _ b 1 _ _ h'⟩
theorem turned_set2 (W : World) (b : Nat) (x y : Value) : Turned (fun k => k = b) W ((W.setCell ⟨b, 0, none⟩ x).setCell ⟨b, 1, none⟩ y) := by
  have h1 := turned_setCell W b x
  have h2 : Turned (fun k => k = b) (W.setCell ⟨b, 0, none⟩ x) ((W.setCell ⟨b, 0, none⟩ x).setCell ⟨b, 1, none⟩ y) := ⟨rfl, rfl, rfl, by simp, fun k _ hk => heap_setCell_other _ ⟨b, 1, none⟩ k y hk⟩
  exact h1.trans h2 (fun k _ e => e)
set_option maxRecDepth 100000 in
set_option maxHeartbeats 4000000 in
theorem takeC_any (n₀ R : Nat) (l : List UInt8) (w : World) (h : RdB n₀ w R l) :
    Calls Tryz.prog 152 #[.pointer (some ⟨R, 0, none⟩), .func (.func 153) #[] #[]] w (TkEnd n₀ R (cntQ l) (fun x W v => CntV w.heap.size x W v) w) := by
  have HLt := Lib.hid h.lt
  obtain ⟨W0, hW0⟩ : ∃ W0, W0 = w.alloc (.cells #[.slice none 0 0, .int .i64 0] 66) := ⟨_, rfl⟩
  have hb0 : Below w.heap.size w W0 := by rw [hW0]; exact below_new w _
  have hs0 : W0.heap.size = w.heap.size + 1 := by rw [hW0]; simp
  have hr0 : W0.heap[w.heap.size]? = some (.cells #[.slice none 0 0, .int .i64 0] 66 (0, 0)) := by rw [hW0]; exact World.alloc_heap_new w _
  have h0 := h.below hb0
  obtain ⟨hR, p, cap, hb, hc, hm, hi⟩ := h0
  have HA := Lib.hid (takeCounted_any (.slice p l.length cap) l W0 ⟨hi.mono (by have := HLt.out; omega), p, cap, rfl, hc, hm⟩)
  have c0 : (w.alloc (.cells #[.slice none 0 0, .int .i64 0] 66)).cell? ⟨R, 0, none⟩ = some (.slice p l.length cap) := by rw [← hW0]; exact (cell_at hb).1
  have HI := Lib.hid hi
  have HB := Lib.hid hb
  have hm2 : cap ≤ 9223372036854775807 := hm
  have HRn := Lib.hid hR
  have HR0 := Lib.hid hr0
  have HB0 := Lib.hid hb0
  have HS0 := Lib.hid hs0
  clear hb hi hm hR hr0 hb0 hs0 h
  go_enter Tryz.func152, Tryz.ntmps152
  go_wp2_with fail
  rw [← hW0]
  refine HA.out.mono ?_
  rintro e w1 ⟨hb1, ⟨⟨T, n⟩, r, v, ho, rfl, hv⟩ | ⟨ho, rfl⟩⟩
  · have hl := (cntQ_is ho).1
    obtain ⟨N, hN⟩ : ∃ N, N = l.length - r.length := ⟨_, rfl⟩
    have hlr : l.length = N + r.length := by rw [hN]; have := congrArg List.length hl; rw [List.length_append] at this; omega
    have hN0 : 0 < N := by
      have h1 := congrArg List.length hl
      rw [List.length_append, List.length_append] at h1
      have h0 : 0 < (tupL T).length := by unfold tupL; simp
      omega
    have hdr : l.drop N = r := by
      have : N = (tupL T ++ intL n).length := by have := congrArg List.length hl; rw [List.length_append] at this; omega
      rw [this, hl, List.drop_left]
    rcases p with _ | a
    · exfalso
      rcases HI.out with ⟨-, rfl⟩ | ⟨a', c', e, -⟩
      · simp at hlr; omega
      · simp at e
    have hNi : (l.length : Int) - (r.length : Int) = (N : Int) := by omega
    rw [hNi]
    obtain ⟨g, hg, rfl, hrow, h8⟩ := hv
    have HO := Lib.hid ho
    have HLr := Lib.hid (And.intro hlr hdr)
    have HV := Lib.hid (And.intro hg (And.intro hrow h8))
    have HB1 := Lib.hid hb1
    have hsz := hb1.size
    obtain ⟨tl, htl⟩ : ∃ tl, tl = T.length := ⟨_, rfl⟩
    simp only [← htl]
    have HTl := Lib.hid htl
    have hi1 : (N : Int) ≤ (l.length : Int) := by omega
    have hi2 : (cap : Int) ≤ 9223372036854775807 := by omega
    have hi3 : (l.length : Int) ≤ (cap : Int) := by omega
    have hi4 : (0 : Int) ≤ (N : Int) := by omega
    have hi5 : (N : Int) ≤ (cap : Int) := by omega
    obtain ⟨W1, hW1⟩ : ∃ W1, W1 = w1.alloc (.cells #[.slice (some ⟨g, 0, none⟩) tl tl, .int .i64 n] 66) := ⟨_, rfl⟩
    have hbW : Below w1.heap.size w1 W1 := by rw [hW1]; exact below_new w1 _
    have hq : W1.heap[w1.heap.size]? = some (.cells #[.slice (some ⟨g, 0, none⟩) tl tl, .int .i64 n] 66 (0, 0)) := by rw [hW1]; exact World.alloc_heap_new w1 _
    have hR1 := (hbW.block R (by have := HLt.out; have := HS0.out; omega)).trans ((hb1.block R (by have := HLt.out; have := HS0.out; omega)).trans HB.out)
    have hr1 := (hbW.block w.heap.size (by have := HS0.out; omega)).trans ((hb1.block w.heap.size (by have := HS0.out; omega)).trans HR0.out)
    have HQ := Lib.hid hq
    have HBw1 := Lib.hid hbW
    have HR1 := Lib.hid hR1
    have HRes := Lib.hid hr1
    have HBW := Lib.hid (hb1.trans (hbW.mono hsz))
    have HSz := Lib.hid hsz
    have HI1 := Lib.hid (HI.out.below ((hb1.trans (hbW.mono hsz)).mono (by have := HRn.out; have := HLt.out; have := HS0.out; omega)))
    have c1 := (cell_at hR1).1
    have f1 := (cell_at hR1).2
    clear hb1 ho hl hN hlr hdr hNi c0 hN0 hg hrow h8 hsz htl hbW hq hR1 hr1 HA
    go_wp2_with fail
    rw [← hW1]
    clear hW1
    refine (intact_ok _).mono ?_
    rintro e w2 ⟨⟨u, rfl⟩, rfl⟩
    have HFin : Hid (∀ u, RdB n₀ (W1.setCell ⟨R, 0, none⟩ u) R r → TkEnd n₀ R (cntQ l) (fun x W v => CntV w.heap.size x W v) w (.returned (.agg #[.slice (some ⟨g, 0, none⟩) tl tl, .int .i64 n])) (((W1.setCell ⟨R, 0, none⟩ u).setCell ⟨w.heap.size, 0, none⟩ (.slice (some ⟨g, 0, none⟩) tl tl)).setCell ⟨w.heap.size, 1, none⟩ (.int .i64 n))) := Lib.hid (by
      intro u hrd
      have hlt := HLt.out
      have hs0 := HS0.out
      have ht := turned_set2 (W1.setCell ⟨R, 0, none⟩ u) w.heap.size (.slice (some ⟨g, 0, none⟩) tl tl) (.int .i64 n)
      have hrn := HRn.out
      refine ⟨.inl ⟨(T, n), r, _, HO.out, rfl, ⟨g, ?_, ?_, ?_, HV.out.2.2⟩, hrd.other ht (by omega) (by omega)⟩, ?_⟩
      · have := HV.out.1; omega
      · simp only [← HTl.out]
      · have hg := HV.out.1
        have hsz := HSz.out
        have h1 : RowN W1 g T.length T := by
          obtain ⟨A, h1, h2⟩ := HV.out.2.1
          exact ⟨A, (HBw1.out.block g (Array.getElem?_eq_some_iff.1 h1).1).trans h1, h2⟩
        exact ((h1.set R 0 u (by omega)).set _ _ _ (by omega)).set _ _ _ (by omega)
      · have t0 : Turned (fun k => k = R) w W1 := OnlyR.fromB (HB0.out.trans (HBW.out.mono (by omega)))
        exact (t0.trans (turned_setCell W1 R u) (fun k _ e => e)).trans ht (fun k hk e => by have e : k = w.heap.size := e; omega))
    by_cases hcn : cap = N
    · have HRd := Lib.hid (show RdB n₀ (W1.setCell ⟨R, 0, none⟩ (.slice (some a) 0 0)) R r by
        have hr0 : r = [] := by
          have := HLr.out.1
          exact List.eq_nil_of_length_eq_zero (by omega)
        rw [hr0]
        exact ⟨HRn.out, some a, 0, rd_row HR1.out, Nat.le_refl _, by decide, .inr ⟨a, 0, rfl, fun j hj => by cases hj⟩⟩)
      have hln : l.length = N := by omega
      obtain ⟨⟨q0, q1⟩, -, -⟩ := row2_kept (R := R) (u := .slice (some a) 0 0) HQ.out (by have := HLt.out; have := HS0.out; have := HSz.out; omega)
      obtain ⟨⟨r0, r1⟩, g0, g1⟩ := row2_kept (R := R) (u := .slice (some a) 0 0) HRes.out (by have := HLt.out; omega)
      go_wp2_with fail
      exact bodyPost_ret (v := .agg #[.slice (some ⟨g, 0, none⟩) tl tl, .int .i64 n]) (by simp [results, Tryz.results152, go_sem, r0, r1]) rfl (HFin.out _ HRd.out)
    · have e1 : l.length - N = r.length := by have := HLr.out.1; omega
      have HRd := Lib.hid (show RdB n₀ (W1.setCell ⟨R, 0, none⟩ (.slice (some (a.add N)) (l.length - N) (cap - N))) R r by
        refine ⟨HRn.out, some (a.add N), cap - N, ?_, by omega, by unfold maxLen; omega, ?_⟩
        · rw [← e1]; exact rd_row HR1.out
        · have h1 := (HI1.out.drop N (by omega)).set (j := 0) HRn.out (.slice (some (a.add N)) (l.length - N) (cap - N))
          rw [HLr.out.2] at h1
          rw [← e1]
          exact h1)
      clear e1
      obtain ⟨⟨q0, q1⟩, -, -⟩ := row2_kept (R := R) (u := .slice (some (a.add N)) (l.length - N) (cap - N)) HQ.out (by have := HLt.out; have := HS0.out; have := HSz.out; omega)
      obtain ⟨⟨r0, r1⟩, g0, g1⟩ := row2_kept (R := R) (u := .slice (some (a.add N)) (l.length - N) (cap - N)) HRes.out (by have := HLt.out; omega)
      go_wp2_with fail
      exact bodyPost_ret (v := .agg #[.slice (some ⟨g, 0, none⟩) tl tl, .int .i64 n]) (by simp [results, Tryz.results152, go_sem, r0, r1]) rfl (HFin.out _ HRd.out)
  · have HO := Lib.hid ho
    have HB1 := Lib.hid (HB0.out.trans (hb1.mono (by have := HS0.out; omega)))
    have hs1 := hb1.size
    clear hb1 ho c0 HA
    go_wp2_with fail
    refine (intact_bad _).mono ?_
    rintro e w2 ⟨rfl, rfl⟩
    go_wp2_with fail
    exact ⟨rfl, .inr ⟨HO.out, rfl⟩, OnlyR.fromB (HB1.out.trans ((below_new w1 _).mono HB1.out.size))⟩
end
end Go.Proofs.YtdjhfcopnhcljaaGreatDoor
