/-
  Contracts of the document's own reading of a tuple and of a counted tuple; pack.TakeTuple.
-/
import Derived.Test.YthnpiafpkllbpaaPkUo
import Derived.Test.YthnpiafpkllbpaaPkTc
namespace Go.Proofs.Ythnpiafpkllbpaa
open Go Go.RowKit

/-- A tuple in memory that is new. -/
def TupN (B : Nat) (T : List V3) (w : World) (v : Value) : Prop := ∃ g, B ≤ g ∧ v = .slice (some ⟨g, 0, none⟩) T.length T.length ∧ RowN w g T.length T ∧ T.length ≤ 8
theorem TupN.set {B : Nat} {T : List V3} {w : World} {v : Value} (h : TupN B T w v) {a : Addr} (ha : a.block < B) (hs : a.spot = none) (u : Value) : TupN B T (w.setCell a u) v := by
  obtain ⟨g, h1, h2, h3, h4⟩ := h
  obtain ⟨b, o, sp⟩ := a
  simp only at hs ha
  subst hs
  exact ⟨g, h1, h2, h3.set _ _ _ (by omega), h4⟩
theorem TupN.mono {B B' : Nat} {T : List V3} {w : World} {v : Value} (h : TupN B T w v) (hB : B' ≤ B) : TupN B' T w v := by
  obtain ⟨g, h1, h2⟩ := h
  exact ⟨g, by omega, h2⟩
theorem TupN.in_ {B : Nat} {T : List V3} {w : World} {v : Value} (h : TupN B T w v) : TupIn w.heap.size w v T := by
  obtain ⟨g, -, rfl, h3, h4⟩ := h
  exact h3.in_ h4
/-- What taken answers at tuples. -/
def TakenTEnd (l : List UInt8) (o : Option (List V3 × List UInt8)) (w : World) (e : Ending) (w' : World) : Prop :=
  Below w.heap.size w w' ∧ ((∃ T r v, o = some (T, r) ∧ e = .returned (.tuple #[v, .int .i64 ((l.length : Int) - (r.length : Int)), .int .i64 0]) ∧ TupN w.heap.size T w' v) ∨ (o = none ∧ e = .returned (.tuple #[.slice none 0 0, .int .i64 0, .int .i64 30])))
set_option maxHeartbeats 1000000 in
set_option maxRecDepth 100000 in
theorem takenT_any (v : Value) (l : List UInt8) (o : Option (List V3 × List UInt8)) (w : World) (hb : BytIn w.heap.size w v l) (hs : ∃ p cap, v = .slice p l.length cap ∧ l.length ≤ cap ∧ cap ≤ maxLen)
    (hread : ∀ W R, RestAt w.heap.size W R l → w.heap.size + 2 ≤ W.heap.size → Calls Try.prog 35 #[.pointer (some ⟨R, 0, none⟩)] W (ReadEnd (fun T W' v => TupN (w.heap.size + 2) T W' v) w.heap.size R o W)) :
    Calls Try.prog 34 #[v, .func (.func 35) #[] #[]] w (TakenTEnd l o w) := by
  have HB := Lib.hid hb
  have HR := Lib.hid hread
  clear hb hread
  obtain ⟨p, cap, rfl, h1, h2⟩ := hs
  have hmf : ∀ (fn : Fn) (first cap : Array Value) (w : World), (Instr.makeFunc fn first cap).run Try.prog w = .ok (.func fn first cap) w := fun _ _ _ _ => rfl
  go_enter_defers Try.func34, Try.ntmps34
  go_wp2_with fail
  refine (HR.out _ (w.heap.size + 1) (start_rest w p cap l h1 h2 HB.out _) (by simp)).mono ?_
  rintro e w1 ⟨hk, ⟨T, r, vt, rfl, rfl, ho, hr⟩ | ⟨rfl, rfl⟩⟩
  · have HO := Lib.hid ho
    have HK := Lib.hid hk
    have HRR := Lib.hid hr
    have HE := Lib.hid (err_cell w w1 _ hk)
    clear ho hk hr
    obtain ⟨-, p', cap', hbl, hlc, hcm, -⟩ := HRR.out
    have c1 : w1.cell? ⟨w.heap.size + 1, 0, none⟩ = some (.slice p' r.length cap') := cell_of_row w1 _ 0 _ _ (0, 0) hbl
    obtain ⟨c0, f0⟩ := HE.out
    clear hbl
    unfold maxLen at hcm h2
    have b1 : (l.length : Int) ≤ 9223372036854775807 := by omega
    have b2 : (r.length : Int) ≤ 9223372036854775807 := by omega
    have b3 : (0 : Int) ≤ (l.length : Int) := by omega
    have b4 : (0 : Int) ≤ (r.length : Int) := by omega
    go_wp2_with fail
    go_region
    all_goals
      go_wp2_with fail
      refine leaves_cons (f := 51) (args := #[.pointer (some ⟨w.heap.size, 0, none⟩)]) (by simp) (by simp [go_sem]) ?_
      refine (catch_idle ⟨w.heap.size, 0, none⟩ _).mono ?_
      rintro e u' w'' ⟨rfl, rfl, rfl⟩
      have cs := err_set w w1 _ HK.out
      simp [Leaves, settle, results, Try.results34, go_sem, cs]
      refine ⟨((below_read w w1 _ _ HK.out).setCell (Nat.le_refl _) _).drew, .inl ⟨T, r, vt, rfl, rfl, ?_⟩⟩
      exact (HO.out.set (by simp) rfl _).mono (by omega)
  · have HK := Lib.hid hk
    have HE := Lib.hid (err_cell w w1 _ hk)
    clear hk
    obtain ⟨c0, f0⟩ := HE.out
    go_wp2_with fail
    refine leaves_cons (f := 51) (args := #[.pointer (some ⟨w.heap.size, 0, none⟩)]) (by simp) (by simp [go_sem]) ?_
    refine (catch_bad ⟨w.heap.size, 0, none⟩ 0 w1 c0 f0).mono ?_
    rintro e u' w'' ⟨rfl, rfl, rfl⟩
    have cs := err_set w w1 _ HK.out
    simp [Leaves, settle, results, Try.results34, go_sem, cs]
    exact ⟨(below_read w w1 _ _ HK.out).setCell (Nat.le_refl _) _, .inr ⟨rfl, rfl⟩⟩

set_option maxHeartbeats 1000000 in
set_option maxRecDepth 100000 in
theorem takeTuple_any (v : Value) (l : List UInt8) (w : World) (h : ArgB w v l) : Calls Try.prog 12 #[v] w (TakenTEnd l (tupQ l) w) := by
  have HT := Lib.hid (takenT_any v l (tupQ l) w h.1 h.2 (fun W R hr hs => (rdTup_any _ R l W hr).mono (by
    rintro e w' ⟨hk, ⟨x, r, v, ho, he, ⟨g, g1, g2, g3⟩, hr'⟩ | hx⟩
    · exact ⟨hk, .inl ⟨x, r, v, ho, he, ⟨g, by omega, g2, g3⟩, hr'⟩⟩
    · exact ⟨hk, .inr hx⟩)))
  clear h
  go_enter Try.func12, Try.ntmps12
  go_wp2_with fail
  refine HT.out.mono ?_
  rintro e w1 ⟨hb, ⟨x, r, vt, ho, rfl, hv⟩ | ⟨ho, rfl⟩⟩
  · have HO := Lib.hid ho
    have HB := Lib.hid hb
    have HV := Lib.hid hv
    clear hb ho hv
    go_wp2_with fail
    go_ret3
    exact ⟨HB.out, .inl ⟨x, r, vt, HO.out, rfl, HV.out⟩⟩
  · have HO := Lib.hid ho
    have HB := Lib.hid hb
    clear hb ho
    go_wp2_with fail
    go_ret3
    exact ⟨HB.out, .inr ⟨HO.out, rfl⟩⟩

/-- What the document's reading of a tuple answers. -/
def RTupEnd (l : List UInt8) (w : World) (e : Ending) (w' : World) : Prop :=
  Below w.heap.size w w' ∧ ((∃ (T : List V3) (K : Nat) (vt : Value), tupQ l = some (T, l.drop K) ∧ K ≤ l.length ∧ e = .returned (.tuple #[vt, .int .i64 (K : Nat), .int .i64 0]) ∧ OwnR w.heap.size w' vt T) ∨ (tupQ l = none ∧ e = .returned (.tuple #[.slice none 0 0, .int .i64 0, .int .i64 30])))
theorem drop_drop' (l : List UInt8) (a b : Nat) : (l.drop a).drop b = l.drop (a + b) := by rw [List.drop_drop]
theorem ArgB.dropK {n₀ : Nat} {w : World} {a : Addr} {cap : Nat} {l : List UInt8} (h : BytIn n₀ w (.slice (some a) l.length cap) l) (K : Nat) (hK : K ≤ l.length) : BytIn n₀ w (.slice (some (a.add K)) (l.length - K) (cap - K)) (l.drop K) := h.drop K hK
theorem vals_end {n : Nat} {r l' : List UInt8} {acc : List V3} (h : valsQ n r = (valsQ (n - n) l').map (fun p => (acc ++ p.1, p.2))) : valsQ n r = some (acc, l') := by
  rw [h, Nat.sub_self, valsQ]
  show some (acc ++ [], l') = _
  rw [List.append_nil]
set_option maxHeartbeats 2000000 in
set_option maxRecDepth 100000 in
theorem rtakeTuple_any (v : Value) (l : List UInt8) (w : World) (h : BytIn w.heap.size w v l) (hs : ∃ p cap, v = .slice p l.length cap ∧ l.length ≤ cap ∧ cap ≤ maxLen) (hl : l.length ≤ 3000) :
    Calls Try.prog 13 #[v] w (RTupEnd l w) := by
  obtain ⟨p, cap, rfl, s1, s2⟩ := hs
  have HS2 := Lib.hid s2
  have HS1 := Lib.hid s1
  unfold maxLen at s2
  have s2' : (cap : Int) ≤ 9223372036854775807 := by omega
  have HL := Lib.hid hl
  rcases l with _ | ⟨c, t⟩
  · clear h
    go_enter Try.func13, Try.ntmps13
    go_wp2_with fail
    go_ret3
    exact ⟨Below.refl _ _, .inr ⟨rfl, rfl⟩⟩
  rcases p with _ | a
  · exfalso
    rcases h with ⟨-, e⟩ | ⟨a, c', e, -⟩
    · cases e
    · cases e
  obtain ⟨l, hll⟩ : ∃ l, l = c :: t := ⟨_, rfl⟩
  have HQ : Hid (tupQ l = if 8 < c.toNat then none else valsQ c.toNat t) := Lib.hid (by rw [hll]; rfl)
  have h1l : 1 ≤ l.length := by rw [hll]; simp
  have hd1 : l.drop 1 = t := by rw [hll]; rfl
  have hcell : w.cell? a = some (.int .u8 (c.toNat : Int)) ∧ a.block < w.heap.size := by
    rcases h with ⟨-, e⟩ | ⟨a', c', e, h⟩
    · cases e
    · injection e with e1
      injection e1 with e1
      subst e1
      have hadd : a.add 0 = a := by unfold Addr.add; simp
      have hc := (h 0 (by simp)).2
      rw [hadd] at hc
      exact ⟨hc, (h 0 (by simp)).1⟩
  rw [← hll] at h HS1 HL s1 hl ⊢
  have HD1 := Lib.hid hd1
  have HB := Lib.hid h
  have HC := Lib.hid hcell
  have h1l' : (1 : Int) ≤ (l.length : Int) := by omega
  have h3l : (l.length : Int) ≤ 3000 := by omega
  have hlc : (l.length : Int) ≤ (cap : Int) := by omega
  have hne : ((l.length : Int) == 0) = false := by rw [beq_eq_false_iff_ne]; omega
  clear h hcell hll hd1
  have q0 := HC.out.1
  have hcb := c.toNat_lt
  by_cases h8 : 8 < c.toNat
  · have h8' : (8 : Int) < (c.toNat : Int) := by omega
    have HO : Hid (tupQ l = none) := Lib.hid (by rw [HQ.out, if_pos h8])
    clear h8
    go_enter Try.func13, Try.ntmps13
    go_wp2_with fail
    go_ret3
    exact ⟨Below.refl _ _, .inr ⟨HO.out, rfl⟩⟩
  have h8' : (c.toNat : Int) ≤ 8 := by omega
  have HV : Hid (tupQ l = valsQ c.toNat t) := Lib.hid (by rw [HQ.out, if_neg h8])
  obtain ⟨n, hn⟩ : ∃ n, n = c.toNat := ⟨_, rfl⟩
  rw [← hn] at q0 HV h8' HC
  have hn8 : n ≤ 8 := by omega
  clear h8 hn hcb HQ
  go_enter Try.func13, Try.ntmps13
  go_wp2_with fail
  go_loopw [5, 6, 7] (fun v s i wr => ∃ k K : Nat, k ≤ n ∧ i = .int .i64 k ∧ s = .int .i64 K ∧ K ≤ l.length ∧ ∃ acc, Hid (OwnR w.heap.size wr v acc ∧ Below w.heap.size w wr ∧ acc.length = k ∧ valsQ n t = (valsQ (n - k) (l.drop K)).map (fun p => (acc ++ p.1, p.2)))) (fun _ _ i _ => n - (intOf i).toNat)
  case atStart => exact ⟨0, 1, Nat.zero_le _, rfl, rfl, h1l, [], Lib.hid ⟨OwnR.nil _ _, Below.refl _ _, rfl, by rw [HD1.out, Nat.sub_zero]; simp⟩⟩
  case round =>
    obtain ⟨k, K, hk, rfl, rfl, hK, acc, HI⟩ := hrel
    have h0 : (0 : Int) ≤ (k : Int) := by omega
    have hK0 : (0 : Int) ≤ (K : Int) := by omega
    have hK' : (K : Int) ≤ (l.length : Int) := by omega
    have hKc : (K : Int) ≤ (cap : Int) := by omega
    have q1 : wr.cell? a = some (.int .u8 (n : Int)) := (HI.out.2.1.cell HC.out.2).trans HC.out.1
    clear q0
    by_cases hlt : k < n
    · have hlt' : (k : Int) < (n : Int) := by omega
      have HBR := Lib.hid (HB.out.below HI.out.2.1)
      have hz := HI.out.2.1.size
      have HL3 : Hid ((l.drop K).length ≤ 3000) := Lib.hid (by have := HL.out; rw [List.length_drop]; omega)
      have HDL : Hid ((l.drop K).length = l.length - K) := Lib.hid (List.length_drop ..)
      have HONE : Hid (∀ (v : Value), BytIn w.heap.size wr v (l.drop K) → (∃ (p : Option Addr) (cp : Nat), v = .slice p (l.drop K).length cp ∧ (l.drop K).length ≤ cp ∧ cp ≤ maxLen) → Calls Try.prog 36 #[v] wr (ROneEnd (l.drop K) wr)) := Lib.hid fun v h1 h2 => rtakeOne_any v (l.drop K) w.heap.size wr h1 hz h2 HL3.out
      have HAC : Hid (acc.length ≤ 1000000) := Lib.hid (by have := HI.out.2.2.1; omega)
      by_cases hck : cap = K
      · have hKl : K = l.length := by omega
        have HE : Hid (l.drop K = []) := Lib.hid (List.drop_of_length_le (by omega))
        have HCALL := Lib.hid (HONE.out (.slice (some a) (l.length - K) 0) (by rw [HE.out, show l.length - K = 0 by omega]; exact nothing_in) ⟨_, 0, by rw [HDL.out], by rw [HE.out]; simp, Nat.zero_le _⟩)
        clear hKl
        go_wp2_with fail
        refine HCALL.out.mono ?_
        rintro e w1 ⟨hb, ⟨x, r, ho, rfl⟩ | ⟨ho, x, nn, rfl⟩⟩
        · exfalso
          rw [HE.out] at ho
          cases ho
        · have HO : Hid (tupQ l = none) := Lib.hid (HV.out.trans (vals_bad hlt HI.out.2.2.2 ho))
          have HB1 := Lib.hid (HI.out.2.1.trans (hb.mono hz))
          unfold aggV
          clear ho hb
          go_wp2_with fail
          go_ret3
          exact ⟨HB1.out.alloc HB1.out.size _, .inr ⟨HO.out, rfl⟩⟩
      · have hck' : (K : Int) < (cap : Int) := by omega
        have HCALL := Lib.hid (HONE.out (.slice (some (a.add K)) (l.length - K) (cap - K)) (HBR.out.drop K hK) ⟨_, _, by rw [HDL.out], by rw [HDL.out]; omega, by have := HS2.out; omega⟩)
        go_wp2_with fail
        refine HCALL.out.mono ?_
        rintro e w1 ⟨hb, ⟨x, r, ho, rfl⟩ | ⟨ho, x, nn, rfl⟩⟩
        · have hv := (valQ_is ho).1
          obtain ⟨D, hD⟩ : ∃ D, D = (oneL x).length := ⟨_, rfl⟩
          have hlen : (l.drop K).length = D + r.length := by rw [hv, List.length_append, hD]
          have hr : r = l.drop (K + D) := by rw [← drop_drop', hv, hD, List.drop_left]
          have hKD : K + D ≤ l.length := by rw [HDL.out] at hlen; omega
          rw [show (((l.drop K).length : Nat) : Int) - (r.length : Int) = (D : Int) by omega]
          have HS := Lib.hid (vals_step hlt HI.out.2.2.2 ho)
          have HR := Lib.hid hr
          have HB1 := Lib.hid (HI.out.2.1.trans (hb.mono hz))
          have HO1 : Hid (OwnR w.heap.size w1 _ acc) := Lib.hid (HI.out.1.below hb)
          have hKD' : (K : Int) + (D : Int) ≤ 3000 := by omega
          have hD0 : (0 : Int) ≤ (D : Int) := by omega
          unfold aggV
          clear hv hD hlen hr hb ho
          go_wp2_with (at_builtin; refine wpList_appT rfl (.tmp 38) (.tmp 40) rfl w.heap.size (w1.heap.size + 2) w _ _ acc [⟨x.k, x.n, x.s⟩] rfl rfl ((HO1.out.alloc _).alloc _) (lit_in2 _ _ _) HAC.out (below_2b HB1.out _ _) (Nat.le_refl _) ?_; intro v' w2 ho hb2)
          go_roundw
          case rel => exact ⟨k + 1, K + D, by omega, by go_num, by go_num, hKD, acc ++ [x], Lib.hid ⟨ho, hb2, by simp [HI.out.2.2.1], by rw [← HR.out]; exact HS.out⟩⟩
          case measure => simp [intOf]; omega
        · have HO : Hid (tupQ l = none) := Lib.hid (HV.out.trans (vals_bad hlt HI.out.2.2.2 ho))
          have HB1 := Lib.hid (HI.out.2.1.trans (hb.mono hz))
          unfold aggV
          clear ho hb
          go_wp2_with fail
          all_goals
            go_ret3
            exact ⟨HB1.out.alloc HB1.out.size _, .inr ⟨HO.out, rfl⟩⟩
    · obtain rfl : k = n := by omega
      have HO : Hid (tupQ l = some (acc, l.drop K)) := Lib.hid (HV.out.trans (vals_end HI.out.2.2.2))
      have hge : (k : Int) ≤ (k : Int) := by omega
      go_wp2_with fail
      go_ret3
      exact ⟨HI.out.2.1, .inl ⟨acc, K, _, HO.out, hK, rfl, HI.out.1⟩⟩
end Go.Proofs.Ythnpiafpkllbpaa
