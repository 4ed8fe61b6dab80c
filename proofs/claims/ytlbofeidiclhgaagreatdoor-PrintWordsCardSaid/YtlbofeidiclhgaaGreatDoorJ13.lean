/-
  The document's print: two atoms compared.
  The document's print: literals.
-/
import Derived.Test.YtlbofeidiclhgaaGreatDoorJ12
namespace Go.Proofs.YtlbofeidiclhgaaGreatDoor
section
open Go Go.RowKit Go.Shelf

theorem barr_eq {a b : ByteArray} : a = b ↔ a.toList = b.toList := by
  constructor
  · intro h; rw [h]
  · intro h
    rw [Lib.toList_data, Lib.toList_data] at h
    obtain ⟨x⟩ := a
    obtain ⟨y⟩ := b
    have : x = y := Array.toList_inj.1 h
    rw [this]
/-- Two terms compared. -/
theorem neqTT_run (x y : TmL) : ∃ b : Bool, (b = true ↔ x = y) ∧ (∀ W : World, (binOp .neq 71 (valT x) (valT y)).run Tryz.prog W = .ok (.bool (!b)) W) ∧ ∀ W : World, (binOp .eql 71 (valT x) (valT y)).run Tryz.prog W = .ok (.bool b) W := by
  obtain ⟨k, n, a, b, c⟩ := x
  obtain ⟨k', n', a', b', c'⟩ := y
  refine ⟨k == k' && (n == n' && (a == a' && (b == b' && c.toList == c'.toList))), ?_, fun W => ?_, fun W => ?_⟩
  · simp [barr_eq]
  · rw [run_neq_struct]
    simp [go_sem]
    by_cases h0 : k = k'
    · by_cases h1 : n = n'
      · by_cases h2 : a = a'
        · by_cases h3 : b = b'
          · by_cases h4 : c.toList = c'.toList
            · simp [h0, h1, h2, h3, h4]
            · simp [h0, h1, h2, h3, h4]
          · simp [h0, h1, h2, h3]
        · simp [h0, h1, h2]
      · simp [h0, h1]
    · simp [h0]
  · rw [run_eql_struct]
    simp [go_sem]
    by_cases h0 : k = k'
    · by_cases h1 : n = n'
      · by_cases h2 : a = a'
        · by_cases h3 : b = b'
          · by_cases h4 : c.toList = c'.toList
            · simp [h0, h1, h2, h3, h4]
            · simp [h0, h1, h2, h3, h4]
          · simp [h0, h1, h2, h3]
        · simp [h0, h1, h2]
      · simp [h0, h1]
    · simp [h0]
theorem take_succ_eq {α : Type} {L1 L2 : List α} {k : Nat} (h : L1.take k = L2.take k) (h1 : k < L1.length) (h2 : k < L2.length) : L1.take (k + 1) = L2.take (k + 1) ↔ L1[k] = L2[k] := by
  rw [List.take_succ_eq_append_getElem h1, List.take_succ_eq_append_getElem h2, h]
  constructor
  · intro e
    have := List.append_cancel_left e
    injection this
  · intro e
    rw [e]
theorem ne_of_at {α : Type} {L1 L2 : List α} {k : Nat} (h1 : k < L1.length) (h2 : k < L2.length) (h : L1[k] ≠ L2[k]) : L1 ≠ L2 := fun e => by
  subst e
  exact h rfl
theorem atL_eq {a b : AtL} : a = b ↔ a.pred = b.pred ∧ a.args = b.args := by
  obtain ⟨p, l⟩ := a
  obtain ⟨p', l'⟩ := b
  simp
set_option maxRecDepth 100000 in
set_option maxHeartbeats 4000000 in
theorem rsameatomG (a b : AtL) (u u' : Value) (S S' : Nat → Prop) (w : World) (h1 : RowIn tmY S w u a.args) (h2 : RowIn tmY S' w u' b.args) :
    Calls Tryz.prog 51 #[.agg #[.string ⟨a.pred.toArray⟩, u], .agg #[.string ⟨b.pred.toArray⟩, u']] w (BoolE (a = b) w) := by
  have H1 := Lib.hid h1
  have H2 := Lib.hid h2
  obtain ⟨p, c, rfl⟩ := h1.shape
  obtain ⟨p', c', rfl⟩ := h2.shape
  have HEq := Lib.hid (atL_eq (a := a) (b := b))
  have hn2 := len_le h1
  obtain ⟨n, hn⟩ : ∃ n, n = a.args.length := ⟨_, rfl⟩
  obtain ⟨m, hm⟩ : ∃ m, m = b.args.length := ⟨_, rfl⟩
  have HN := Lib.hid hn
  have HM := Lib.hid hm
  obtain ⟨pa, hpa⟩ : ∃ pa : ByteArray, pa = ⟨a.pred.toArray⟩ := ⟨_, rfl⟩
  obtain ⟨pb, hpb⟩ : ∃ pb : ByteArray, pb = ⟨b.pred.toArray⟩ := ⟨_, rfl⟩
  have la : pa.toList = a.pred := by rw [hpa, Lib.toList_data]
  have lb : pb.toList = b.pred := by rw [hpb, Lib.toList_data]
  rw [← hn] at H1 hn2
  rw [← hm] at H2
  rw [← hpa, ← hpb, ← hn, ← hm]
  generalize (a = b) = q at HEq ⊢
  clear h1 h2 hpa hpb
  have HB := Lib.hid (below_box2 w (.cells #[.string pa, .slice p n c] 24) (.cells #[.string pb, .slice p' m c'] 24))
  by_cases hp : a.pred = b.pred
  · have e1 : (pa.toList == pb.toList) = true := by rw [la, lb, hp]; simp
    by_cases hnm : n = m
    · subst hnm
      have hn3 : (n : Int) ≤ 9223372036854775807 := by omega
      have HP := Lib.hid hp
      clear hp la lb hn hm hn2
      have hx1 := two_newA w (.cells #[.string pa, .slice p n c] 24) (.cells #[.string pb, .slice p' n c'] 24)
      have HX1 := Lib.hid hx1
      clear hx1
      go_enter Tryz.func51, Tryz.ntmps51
      go_wp2_with fail
      go_loopw [5] (fun i wr => ∃ k : Nat, k ≤ n ∧ i = .int .i64 k ∧ Hid (a.args.take k = b.args.take k ∧ Below w.heap.size w wr ∧ wr.heap[w.heap.size]? = some (.cells #[.string pa, .slice p n c] 24 (0, 0)) ∧ wr.heap[w.heap.size + 1]? = some (.cells #[.string pb, .slice p' n c'] 24 (0, 0)))) (fun i _ => n - (intOf i).toNat)
      case atStart => exact ⟨0, Nat.zero_le _, rfl, Lib.hid ⟨rfl, HB.out, HX1.out.1, HX1.out.2⟩⟩
      case round =>
        obtain ⟨k, hk, rfl, HJ⟩ := hrel
        have h0 : (0 : Int) ≤ (k : Int) := by omega
        obtain ⟨hpre, hb, hr, hr'⟩ := HJ.out
        have d1 : wr.cell? ⟨w.heap.size, 1, none⟩ = some (.slice p n c) := cell_of_row wr _ 1 _ _ (0, 0) hr
        have d2 : wr.cell? ⟨w.heap.size + 1, 1, none⟩ = some (.slice p' n c') := cell_of_row wr _ 1 _ _ (0, 0) hr'
        by_cases hlt : k < n
        · have hlt' : (k : Int) < (n : Int) := by omega
          have hkn : k < a.args.length := by rw [← HN.out]; exact hlt
          have hkm : k < b.args.length := by rw [← HM.out]; exact hlt
          obtain ⟨bb, off, c1, e2, hb1, a0, a1, a2, a3, a4⟩ := cells5_at (H1.out.in_below hb) hkn
          obtain ⟨b', off', c2, e3, hb2, d0, d1', d2', d3, d4⟩ := cells5_at (H2.out.in_below hb) hkm
          injection e2 with e2 hq1 hq2
          injection e3 with e3 hq3 hq4
          subst e2
          subst e3
          clear hq1 hq2 hq3 hq4
          have HTk := Lib.hid (take_succ_eq hpre hkn hkm)
          obtain ⟨X, hX⟩ : ∃ X, X = a.args[k] := ⟨_, rfl⟩
          obtain ⟨Y, hY⟩ : ∃ Y, Y = b.args[k] := ⟨_, rfl⟩
          rw [← hX] at a0 a1 a2 a3 a4 HTk
          rw [← hY] at d0 d1' d2' d3 d4 HTk
          have HXY := Lib.hid (And.intro hX hY)
          clear hX hY
          obtain ⟨bt, hbt, qt, -⟩ := neqTT_run X Y
          have HBt := Lib.hid hbt
          clear hr hr' hpre hbt
          obtain ⟨K, N, ⟨v1, v2, v3⟩⟩ := X
          obtain ⟨K', N', ⟨v1', v2', v3'⟩⟩ := Y
          unfold valT at qt
          simp only at a0 a1 a2 a3 a4 d0 d1' d2' d3 d4 qt
          have hDr : ∀ nq, Below w.heap.size w (wr.drewN nq) := fun nq => ⟨hb.os, hb.tape, hb.output, hb.size, hb.block⟩
          have HDr := Lib.hid hDr
          clear hb hDr
          cases bt with
          | true =>
            go_wp2_with fail
            go_quiet (fail)
            rename_i nq
            go_wp2_with fail
            go_roundw
            case rel => exact ⟨k + 1, hlt, by simp, Lib.hid ⟨HTk.out.2 (HBt.out.1 (by simp)), HDr.out nq, HJ.out.2.2.1, HJ.out.2.2.2⟩⟩
            case measure => simp [intOf]; omega
          | false =>
            go_wp2_with fail
            go_quiet (fail)
            rename_i nq
            go_wp2_with fail
            go_ret
            refine ⟨.inr ⟨fun e => ne_of_at hkn hkm (fun e2 => ?_) (HEq.out.1 e).2, rfl⟩, HDr.out nq⟩
            have := HBt.out.2 (by rw [HXY.out.1, HXY.out.2]; exact e2)
            simp at this
        · obtain rfl : k = n := by omega
          have hlt' : ¬ ((k : Nat) : Int) < (k : Int) := by omega
          clear hr hr'
          go_wp2_with fail
          go_ret
          refine ⟨.inl ⟨HEq.out.2 ⟨HP.out, ?_⟩, rfl⟩, hb⟩
          have h1 := HJ.out.1
          rwa [List.take_of_length_le (by have := HN.out; omega), List.take_of_length_le (by have := HM.out; omega)] at h1
    · have e2 : ((n : Int) == (m : Int)) = false := by simp; omega
      have HNe := Lib.hid (show ¬ q from fun e => hnm (by rw [hn, hm, (HEq.out.1 e).2]))
      clear hp la lb hn hm hn2 hnm
      go_enter Tryz.func51, Tryz.ntmps51
      go_wp2_with fail
      go_ret
      exact ⟨.inr ⟨HNe.out, rfl⟩, HB.out⟩
  · have e1 : (pa.toList == pb.toList) = false := by rw [la, lb]; simpa using hp
    have HNe := Lib.hid (show ¬ q from fun e => hp (HEq.out.1 e).1)
    clear hp la lb hn hm hn2
    go_enter Tryz.func51, Tryz.ntmps51
    go_wp2_with fail
    go_ret
    exact ⟨.inr ⟨HNe.out, rfl⟩, HB.out⟩
end
section
open Go Go.RowKit Go.Shelf

theorem opP_ne {n : Int} : ((⟨((opP n).getD []).toArray⟩ : ByteArray).toList == []) = (opP n).isNone := by
  rw [Lib.toList_data]
  by_cases h : n = 1 ∨ n = 2 ∨ n = 3 ∨ n = 4 ∨ n = 5 ∨ n = 6
  · rcases h with rfl | rfl | rfl | rfl | rfl | rfl <;> rfl
  · have HN : opP n = none := by unfold opP; rw [if_neg (by omega), if_neg (by omega), if_neg (by omega), if_neg (by omega), if_neg (by omega), if_neg (by omega)]
    rw [HN]
    rfl
theorem opP_len (n : Int) : ((opP n).getD []).length ≤ 2 := by
  unfold opP
  (repeat' split) <;> decide
set_option maxRecDepth 100000 in
set_option maxHeartbeats 8000000 in
theorem rliteral_any (l : LiL) (u : Value) (S : Nat → Prop) (w : World) (h : RowIn tmY S w u l.atom.args) (hs : SmLi l) : Calls Tryz.prog 31 #[valLi l u] w (SayS 15000 (litP l) w) := by
  have HN : Hid (∀ W, Below w.heap.size w W → Calls Tryz.prog 30 #[.agg #[.string ⟨l.atom.pred.toArray⟩, u]] W (SayS 14000 (atomP l.atom) W)) := Lib.hid (fun W hb => ratom_any l.atom u S W (h.in_below hb) hs.atom)
  have HSa : Hid (∀ W, Below w.heap.size w W → Calls Tryz.prog 51 #[.agg #[.string ⟨l.atom.pred.toArray⟩, u], .agg #[.string ⟨#[]⟩, .slice none 0 0]] W (BoolE (l.atom.pred = [] ∧ l.atom.args = []) W)) := Lib.hid (fun W hb => by
    have := rsameatomG l.atom ⟨[], []⟩ u (.slice none 0 0) S S W (h.in_below hb) (RowIn.nil _ _ _)
    rw [show (l.atom = ⟨[], []⟩) = (l.atom.pred = [] ∧ l.atom.args = []) from propext atL_eq] at this
    exact this)
  have HTa : Hid (∀ W, Calls Tryz.prog 57 #[valT l.a] W (SayS 1100 (termP l.a) W)) := Lib.hid (fun W => rterm_any l.a W hs.a)
  have HTb : Hid (∀ W, Calls Tryz.prog 57 #[valT l.b] W (SayS 1100 (termP l.b) W)) := Lib.hid (fun W => rterm_any l.b W hs.b)
  have HOp := Lib.hid (fun W => rop_any l.op W)
  obtain ⟨ba, hba, qa⟩ := eqT_run l.a 0
  obtain ⟨bb, hbb, qb⟩ := eqT_run l.b 0
  have HA := Lib.hid hba
  have HBb := Lib.hid hbb
  obtain ⟨p, c, rfl⟩ := h.shape
  clear h hs hba hbb
  obtain ⟨k, at_, op, ⟨ka, na', ⟨a1, a2, a3⟩⟩, ⟨kb, nb', ⟨b1, b2, b3⟩⟩⟩ := l
  unfold valT at HTa HTb qa qb
  unfold valLi
  simp only at HN HSa HTa HTb HOp HA HBb qa qb ⊢
  obtain ⟨na, hna⟩ : ∃ na : ByteArray, na = ⟨na'.toArray⟩ := ⟨_, rfl⟩
  obtain ⟨nb, hnb⟩ : ∃ nb : ByteArray, nb = ⟨nb'.toArray⟩ := ⟨_, rfl⟩
  rw [← hna] at HTa qa
  rw [← hnb] at HTb qb
  rw [← hna, ← hnb]
  generalize (⟨at_.pred.toArray⟩ : ByteArray) = nm at *
  generalize at_.args.length = m at *
  clear hna hnb
  by_cases hk : k = 1
  · subst hk
    have HO := Lib.hid (lit_pos (l := ⟨1, at_, op, ⟨ka, na', (a1, a2, a3)⟩, ⟨kb, nb', (b1, b2, b3)⟩⟩) (.inl rfl))
    generalize litP ⟨1, at_, op, ⟨ka, na', (a1, a2, a3)⟩, ⟨kb, nb', (b1, b2, b3)⟩⟩ = o at *
    simp only at HO
    clear HSa HTa HTb HOp
    have HB := Lib.hid (below_box2 w (.cells #[.int .i64 1, .string nm, .slice p m c, .int .i64 op, .int .i64 ka, .string na, .int .i64 a1, .int .i64 a2, .string a3, .int .i64 kb, .string nb, .int .i64 b1, .int .i64 b2, .string b3] 73) (.cells #[.int .i64 0, .string ⟨#[]⟩, .int .i64 0, .int .i64 0, .string ⟨#[]⟩] 71))
    have hx0 := two_newA w (.cells #[.int .i64 1, .string nm, .slice p m c, .int .i64 op, .int .i64 ka, .string na, .int .i64 a1, .int .i64 a2, .string a3, .int .i64 kb, .string nb, .int .i64 b1, .int .i64 b2, .string b3] 73) (.cells #[.int .i64 0, .string ⟨#[]⟩, .int .i64 0, .int .i64 0, .string ⟨#[]⟩] 71)
    by_cases hop : op = 0
    · subst hop
      cases ba with
      | false =>
        have HW := Lib.hid (show o = none from HO.out.2.1 (fun e => by have := HA.out.2 (zeroT_iff.1 e.2.1); simp at this))
        go_enter Tryz.func31, Tryz.ntmps31
        go_wp2_with fail
        go_ret2
        exact .no HW.out HB.out
      | true =>
        cases bb with
        | false =>
          have HW := Lib.hid (show o = none from HO.out.2.1 (fun e => by have := HBb.out.2 (zeroT_iff.1 e.2.2); simp at this))
          go_enter Tryz.func31, Tryz.ntmps31
          go_wp2_with fail
          go_ret2
          exact .no HW.out HB.out
        | true =>
        have HO2 := Lib.hid (HO.out.1 ⟨rfl, zeroT_iff.2 (HA.out.1 rfl), zeroT_iff.2 (HBb.out.1 rfl)⟩)
        have HO3 := Lib.hid HO.out.2.2
        generalize atomP at_ = oa at *
        clear HO HA HBb
        go_enter Tryz.func31, Tryz.ntmps31
        go_wp2_with fail
        refine (HN.out _ HB.out).mono ?_
        intro y w1 hy
        rcases hy.cases_ with ⟨r, g1, g2, rfl, g3⟩ | ⟨g1, rfl, g3⟩
        rotate_left
        · have HE := Lib.hid (And.intro (HO3.out g1) (HB.out.trans (g3.mono HB.out.size)))
          clear hy g1 g3 hx0
          go_wp2_with fail
          go_ret2
          exact .no HE.out.1 HE.out.2
        have HE := Lib.hid (And.intro g1 (And.intro g2 (HB.out.trans (g3.mono HB.out.size))))
        have hx := (g3.block w.heap.size (by simp; omega)).trans hx0.1
        have d0 := cell_at hx 0 _ rfl
        clear hy g1 g2 g3 hx hx0
        go_wp2_with fail
        go_ret2
        exact .yes ((HO2.out).trans (by rw [HE.out.1]; rfl)) (Nat.le_trans HE.out.2.1 (by decide)) HE.out.2.2
    · have hop2 : (op == 0) = false := by simpa using hop
      have HW := Lib.hid (show o = none from HO.out.2.1 (fun e => hop e.1))
      go_enter Tryz.func31, Tryz.ntmps31
      go_wp2_with fail
      go_ret2
      exact .no HW.out HB.out
  by_cases hk : k = 2
  · subst hk
    have HO := Lib.hid (lit_pos (l := ⟨2, at_, op, ⟨ka, na', (a1, a2, a3)⟩, ⟨kb, nb', (b1, b2, b3)⟩⟩) (.inr rfl))
    generalize litP ⟨2, at_, op, ⟨ka, na', (a1, a2, a3)⟩, ⟨kb, nb', (b1, b2, b3)⟩⟩ = o at *
    simp only at HO
    clear HSa HTa HTb HOp
    have HB := Lib.hid (below_box2 w (.cells #[.int .i64 2, .string nm, .slice p m c, .int .i64 op, .int .i64 ka, .string na, .int .i64 a1, .int .i64 a2, .string a3, .int .i64 kb, .string nb, .int .i64 b1, .int .i64 b2, .string b3] 73) (.cells #[.int .i64 0, .string ⟨#[]⟩, .int .i64 0, .int .i64 0, .string ⟨#[]⟩] 71))
    have hx0 := two_newA w (.cells #[.int .i64 2, .string nm, .slice p m c, .int .i64 op, .int .i64 ka, .string na, .int .i64 a1, .int .i64 a2, .string a3, .int .i64 kb, .string nb, .int .i64 b1, .int .i64 b2, .string b3] 73) (.cells #[.int .i64 0, .string ⟨#[]⟩, .int .i64 0, .int .i64 0, .string ⟨#[]⟩] 71)
    by_cases hop : op = 0
    · subst hop
      cases ba with
      | false =>
        have HW := Lib.hid (show o = none from HO.out.2.1 (fun e => by have := HA.out.2 (zeroT_iff.1 e.2.1); simp at this))
        go_enter Tryz.func31, Tryz.ntmps31
        go_wp2_with fail
        go_ret2
        exact .no HW.out HB.out
      | true =>
        cases bb with
        | false =>
          have HW := Lib.hid (show o = none from HO.out.2.1 (fun e => by have := HBb.out.2 (zeroT_iff.1 e.2.2); simp at this))
          go_enter Tryz.func31, Tryz.ntmps31
          go_wp2_with fail
          go_ret2
          exact .no HW.out HB.out
        | true =>
        have HO2 := Lib.hid (HO.out.1 ⟨rfl, zeroT_iff.2 (HA.out.1 rfl), zeroT_iff.2 (HBb.out.1 rfl)⟩)
        have HO3 := Lib.hid HO.out.2.2
        generalize atomP at_ = oa at *
        clear HO HA HBb
        go_enter Tryz.func31, Tryz.ntmps31
        go_wp2_with fail
        refine (HN.out _ HB.out).mono ?_
        intro y w1 hy
        rcases hy.cases_ with ⟨r, g1, g2, rfl, g3⟩ | ⟨g1, rfl, g3⟩
        rotate_left
        · have HE := Lib.hid (And.intro (HO3.out g1) (HB.out.trans (g3.mono HB.out.size)))
          clear hy g1 g3 hx0
          go_wp2_with fail
          go_ret2
          exact .no HE.out.1 HE.out.2
        have HE := Lib.hid (And.intro g1 (And.intro g2 (HB.out.trans (g3.mono HB.out.size))))
        have hx := (g3.block w.heap.size (by simp; omega)).trans hx0.1
        have d0 := cell_at hx 0 _ rfl
        clear hy g1 g2 g3 hx hx0
        have q1 := add_run ⟨#[110, 111, 116, 32]⟩ r (by have := HE.out.2.1; have hz : (⟨#[110, 111, 116, 32]⟩ : ByteArray).size = 4 := rfl; omega)
        have HS : Hid (((⟨#[110, 111, 116, 32]⟩ : ByteArray) ++ r).size ≤ 15000) := Lib.hid (by have := HE.out.2.1; have hz : (⟨#[110, 111, 116, 32]⟩ : ByteArray).size = 4 := rfl; rw [ByteArray.size_append]; omega)
        have HX : Hid (((⟨#[110, 111, 116, 32]⟩ : ByteArray) ++ r).data.toList = [110, 111, 116, 32] ++ r.data.toList) := Lib.hid (by simp)
        go_wp2_with fail
        go_ret2
        refine .yes ((HO2.out).trans ?_) HS.out HE.out.2.2
        rw [HE.out.1, HX.out]
        rfl
    · have hop2 : (op == 0) = false := by simpa using hop
      have HW := Lib.hid (show o = none from HO.out.2.1 (fun e => hop e.1))
      go_enter Tryz.func31, Tryz.ntmps31
      go_wp2_with fail
      go_ret2
      exact .no HW.out HB.out
  by_cases hk : k = 3
  · subst hk
    have HO := Lib.hid (lit_cmp (l := ⟨3, at_, op, ⟨ka, na', (a1, a2, a3)⟩, ⟨kb, nb', (b1, b2, b3)⟩⟩) rfl)
    generalize litP ⟨3, at_, op, ⟨ka, na', (a1, a2, a3)⟩, ⟨kb, nb', (b1, b2, b3)⟩⟩ = o at *
    simp only at HO
    clear HN qa qb HA HBb
    have HB := Lib.hid (below_box2 w (.cells #[.int .i64 3, .string nm, .slice p m c, .int .i64 op, .int .i64 ka, .string na, .int .i64 a1, .int .i64 a2, .string a3, .int .i64 kb, .string nb, .int .i64 b1, .int .i64 b2, .string b3] 73) (.cells #[.int .i64 0, .string ⟨#[]⟩, .int .i64 0, .int .i64 0, .string ⟨#[]⟩] 71))
    have hx0 := two_newA w (.cells #[.int .i64 3, .string nm, .slice p m c, .int .i64 op, .int .i64 ka, .string na, .int .i64 a1, .int .i64 a2, .string a3, .int .i64 kb, .string nb, .int .i64 b1, .int .i64 b2, .string b3] 73) (.cells #[.int .i64 0, .string ⟨#[]⟩, .int .i64 0, .int .i64 0, .string ⟨#[]⟩] 71)
    have HX0 := Lib.hid hx0
    obtain ⟨so, hso⟩ : ∃ so : ByteArray, so = ⟨((opP op).getD []).toArray⟩ := ⟨_, rfl⟩
    have hse := opP_ne (n := op)
    rw [← hso] at HOp hse
    have HSl := Lib.hid (show so.size ≤ 2 by rw [hso, str_len]; exact opP_len op)
    have HSo := Lib.hid hso
    clear hso hx0
    go_enter Tryz.func31, Tryz.ntmps31
    go_wp2_with fail
    refine (HOp.out _).mono ?_
    rintro y w0 ⟨rfl, rfl⟩
    by_cases hno : (opP op).isNone = true
    · have HW := Lib.hid (show o = none from HO.out.2.2 (by
        unfold cmpP
        rw [Option.isNone_iff_eq_none.1 hno]
        cases termP ⟨ka, na', (a1, a2, a3)⟩ <;> rfl))
      rw [hno] at hse
      have hse' : so.toList.isEmpty = true := by simpa using hse
      clear hno
      go_wp2_with fail
      go_ret2
      exact .no HW.out HB.out
    rw [show (opP op).isNone = false from by cases e : (opP op).isNone with | false => rfl | true => exact absurd e hno] at hse
    have hse' : so.toList.isEmpty = false := by simpa using hse
    obtain ⟨xo, hxo⟩ : ∃ xo, opP op = some xo := by cases e : opP op with | none => rw [e] at hno; simp at hno | some x => exact ⟨x, rfl⟩
    have HXo := Lib.hid (show so.data.toList = xo by rw [HSo.out, hxo]; rfl)
    have HCm : Hid (cmpP ⟨ka, na', (a1, a2, a3)⟩ op ⟨kb, nb', (b1, b2, b3)⟩ = two (two (termP ⟨ka, na', (a1, a2, a3)⟩) (some xo) fun x y => x ++ [32] ++ y) (termP ⟨kb, nb', (b1, b2, b3)⟩) fun x y => x ++ [32] ++ y) := Lib.hid (by unfold cmpP; rw [hxo])
    clear hno hxo
    go_wp2_with fail
    refine (HSa.out _ HB.out).mono ?_
    rintro y w1 ⟨⟨hy, rfl⟩ | ⟨hy, rfl⟩, g3⟩
    rotate_left
    · have HW := Lib.hid (And.intro (HO.out.2.1 hy) (HB.out.trans (g3.mono HB.out.size)))
      clear hy g3
      go_wp2_with fail
      go_ret2
      exact .no HW.out.1 HW.out.2
    have HO2 := Lib.hid (HO.out.1 hy)
    have HB1 := Lib.hid (HB.out.trans (g3.mono HB.out.size))
    have hx1 := (g3.block w.heap.size (by simp; omega)).trans HX0.out.1
    have HX1 := Lib.hid hx1
    obtain ⟨⟨c0, c1, c2, c3, c4, c5, c6, c7, c8, c9, c10, c11, c12, c13⟩, -⟩ := cells14 hx1
    clear hy g3 HO hx1
    go_wp2_with fail
    refine (HTa.out _).mono ?_
    intro y w2 hy
    have HB2 := Lib.hid (HB1.out.trans (hy.2.mono HB1.out.size))
    have hx2 := (hy.2.block w.heap.size (Array.getElem?_eq_some_iff.1 HX1.out).1).trans HX1.out
    have HX2 := Lib.hid hx2
    obtain ⟨⟨z0, z1, z2, z3, z4, z5, z6, z7, z8, z9, z10, z11, z12, z13⟩, -⟩ := cells14 hx2
    clear hx2 c0 c1 c2 c3 c4 c5 c6 c7 c8 c9 c10 c11 c12 c13
    rcases hy.cases_ with ⟨r1, g1, g2, rfl, g3⟩ | ⟨g1, rfl, g3⟩
    rotate_left
    · have HW := Lib.hid (show o = none by rw [HO2.out, HCm.out, g1]; rfl)
      clear hy g1 g3
      go_wp2_with fail
      refine (HTb.out _).mono ?_
      intro y w3 hy
      have HB3 := Lib.hid (HB2.out.trans (hy.2.mono HB2.out.size))
      rcases hy.cases_ with ⟨r2, g1, g2, rfl, g3⟩ | ⟨g1, rfl, g3⟩
      all_goals
        clear hy
        go_wp2_with fail
        go_ret2
        exact .no HW.out HB3.out
    have HE1 := Lib.hid (And.intro g1 g2)
    clear hy g1 g2 g3
    go_wp2_with fail
    refine (HTb.out _).mono ?_
    intro y w3 hy
    have HB3 := Lib.hid (HB2.out.trans (hy.2.mono HB2.out.size))
    have hx3 := (hy.2.block w.heap.size (Array.getElem?_eq_some_iff.1 HX2.out).1).trans HX2.out
    have d3 := cell_at hx3 3 _ rfl
    clear hx3 z0 z1 z2 z3 z4 z5 z6 z7 z8 z9 z10 z11 z12 z13
    rcases hy.cases_ with ⟨r2, g1, g2, rfl, g3⟩ | ⟨g1, rfl, g3⟩
    rotate_left
    · have HW := Lib.hid (show o = none by rw [HO2.out, HCm.out, HE1.out.1, g1]; rfl)
      clear hy g1 g3
      go_wp2_with fail
      go_ret2
      exact .no HW.out HB3.out
    have HE2 := Lib.hid (And.intro g1 g2)
    clear hy g1 g2 g3
    have z1 : (⟨#[32]⟩ : ByteArray).size = 1 := rfl
    have q1 := add_run r1 ⟨#[32]⟩ (by have := HE1.out.2; omega)
    have q2 := add_run (r1 ++ ⟨#[32]⟩) so (by have := HE1.out.2; have := HSl.out; rw [ByteArray.size_append]; omega)
    have q3 := add_run (r1 ++ ⟨#[32]⟩ ++ so) ⟨#[32]⟩ (by have := HE1.out.2; have := HSl.out; rw [ByteArray.size_append, ByteArray.size_append]; omega)
    have q4 := add_run (r1 ++ ⟨#[32]⟩ ++ so ++ ⟨#[32]⟩) r2 (by have := HE1.out.2; have := HE2.out.2; have := HSl.out; rw [ByteArray.size_append, ByteArray.size_append, ByteArray.size_append]; omega)
    have HS : Hid ((r1 ++ ⟨#[32]⟩ ++ so ++ ⟨#[32]⟩ ++ r2).size ≤ 15000) := Lib.hid (by have := HE1.out.2; have := HE2.out.2; have := HSl.out; rw [ByteArray.size_append, ByteArray.size_append, ByteArray.size_append, ByteArray.size_append]; omega)
    have HX : Hid ((r1 ++ ⟨#[32]⟩ ++ so ++ ⟨#[32]⟩ ++ r2).data.toList = r1.data.toList ++ [32] ++ so.data.toList ++ [32] ++ r2.data.toList) := Lib.hid (by simp)
    clear z1
    go_wp2_with fail
    refine (HOp.out _).mono ?_
    rintro y w4 ⟨rfl, rfl⟩
    go_wp2_with fail
    go_ret2
    refine .yes ?_ HS.out HB3.out
    rw [HO2.out, HCm.out, HE1.out.1, HE2.out.1, HX.out, HXo.out]
    rfl
  · rename_i hk1 hk2
    have HO := Lib.hid (lit_else (l := ⟨k, at_, op, ⟨ka, na', (a1, a2, a3)⟩, ⟨kb, nb', (b1, b2, b3)⟩⟩) hk1 hk2 hk)
    generalize litP ⟨k, at_, op, ⟨ka, na', (a1, a2, a3)⟩, ⟨kb, nb', (b1, b2, b3)⟩⟩ = o at *
    clear HN HSa HTa HTb HOp qa qb HA HBb
    have n1 : (k == 1) = false := by simpa using hk1
    have n2 : (k == 2) = false := by simpa using hk2
    have n3 : (k == 3) = false := by simpa using hk
    go_enter Tryz.func31, Tryz.ntmps31
    go_wp2_with fail
    go_ret2
    exact .no HO.out (below_box2 _ _ _)
end
end Go.Proofs.YtlbofeidiclhgaaGreatDoor
