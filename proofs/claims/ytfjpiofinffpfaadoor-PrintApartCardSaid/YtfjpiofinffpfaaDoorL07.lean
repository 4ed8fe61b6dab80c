/-
  The document's print: names, variables, types, signs, terms.
  The document's print: terms, and texts joined.
  The document's print: what its loops keep; atoms.
  The document's print: two atoms compared.
  The document's print: literals.
  The document's print: Same of literals, rules, declarations, events at any two.
-/
import Derived.Test.YtfjpiofinffpfaaDoorL03
import Derived.Test.YtfjpiofinffpfaaDoorLxX
import Derived.Test.YtfjpiofinffpfaaDoorRtext
import Derived.Test.YtfjpiofinffpfaaDoorL05
import Derived.Laws.IdiomStrings
import Derived.RegionTactic
import Derived.BigRegion
import Derived.Test.YtfjpiofinffpfaaDoorL06
import Derived.Test.YtfjpiofinffpfaaDoorL02
namespace Go.Proofs.YtfjpiofinffpfaaDoor
section
open Go Go.RowKit Go.Shelf

/-- Rows of texts. -/
def stY : Lay (List UInt8) where
  sz := 1
  is := fun _ _ us s => us = [.string ⟨s.toArray⟩]
  len := fun h => by rw [h]; rfl
  one := fun h u hu => by
    subst h
    simp only [List.mem_cons, List.not_mem_nil, or_false] at hu
    rw [hu]; rfl
  keep := fun h _ _ => h
theorem Tryd.infoStg : (Tryd.prog.info? 9).map (fun i => (i.zero, i.size, i.bytes)) = some (some (.string ⟨#[]⟩), 1, 16) := by kernel_rfl
/-- The document's answer: a text of no more than M bytes, or none. -/
def SayS (M : Nat) (o : Option (List UInt8)) (w : World) (e : Ending) (w' : World) : Prop :=
  ((∃ s : ByteArray, o = some s.data.toList ∧ s.size ≤ M ∧ e = .returned (.tuple #[.string s, .int .i64 0])) ∨ (o = none ∧ e = .returned (.tuple #[.string ⟨#[]⟩, .int .i64 140]))) ∧ Below w.heap.size w w'
theorem SayS.le {M M' : Nat} {o : Option (List UInt8)} {w w' : World} {e : Ending} (hM : M ≤ M') (h : SayS M o w e w') : SayS M' o w e w' := by
  obtain ⟨⟨s, h1, h2, h3⟩ | h, hb⟩ := h
  · exact ⟨.inl ⟨s, h1, Nat.le_trans h2 hM, h3⟩, hb⟩
  · exact ⟨.inr h, hb⟩
theorem SayS.yes {M : Nat} {o : Option (List UInt8)} {w w' : World} {s : ByteArray} (ho : o = some s.data.toList) (hs : s.size ≤ M) (hb : Below w.heap.size w w') : SayS M o w (.returned (.tuple #[.string s, .int .i64 0])) w' := ⟨.inl ⟨s, ho, hs, rfl⟩, hb⟩
theorem SayS.no {M : Nat} {o : Option (List UInt8)} {w w' : World} (ho : o = none) (hb : Below w.heap.size w w') : SayS M o w (.returned (.tuple #[.string ⟨#[]⟩, .int .i64 140])) w' := ⟨.inr ⟨ho, rfl⟩, hb⟩
/-- An answer yes or no. -/
def BoolE (p : Prop) (w : World) (e : Ending) (w' : World) : Prop := ((p ∧ e = .returned (.bool true)) ∨ (¬ p ∧ e = .returned (.bool false))) ∧ Below w.heap.size w w'
theorem words_code {s : List UInt8} (h : (wordsL s).2.2 ≠ 0) : (wordsL s).1 = [] := by
  unfold wordsL at h ⊢
  split
  · rfl
  · rename_i hl
    rw [if_neg hl] at h
    revert h
    rcases lexS valL s 0 with ⟨L, _ | n⟩
    · intro h
      exact absurd rfl h
    · exact fun _ => rfl
end
section
open Go Go.RowKit Go.Shelf

theorem term_eq {t : TmL} : (t.kind = 1 → termP t = if varB t.name = true ∧ t.val = zeroL then some t.name else none) ∧ (t.kind = 3 → termP t = if t.name = [] ∧ t.val = zeroL then some [95] else none) ∧ (¬ t.kind = 1 → ¬ t.kind = 2 → ¬ t.kind = 3 → termP t = none) := by
  unfold termP
  refine ⟨fun h => ?_, fun h => ?_, fun h1 h2 h3 => ?_⟩
  · rw [if_pos h]
  · rw [if_neg (by omega), if_neg (by omega), if_pos h]
  · rw [if_neg h1, if_neg h2, if_neg h3]
theorem joinS_step (sep : List UInt8) (L : List (List UInt8)) (k : Nat) (h : k < L.length) : joinS sep (L.take (k + 1)) = joinS sep (L.take k) ++ (if k = 0 then L[k] else sep ++ L[k]) := by
  rw [List.take_succ_eq_append_getElem h, joinS_snoc, List.length_take, Nat.min_eq_left (by omega)]
theorem joinS_mono (sep : List UInt8) : ∀ (ts us : List (List UInt8)), (joinS sep ts).length ≤ (joinS sep (ts ++ us)).length
  | [], us => by simp [joinS]
  | a :: ts, us => by
    rw [List.cons_append, joinS, joinS]
    have := joinS_mono sep ts us
    by_cases h : ts = []
    · rw [if_pos h]
      simp
    · rw [if_neg h, if_neg (by simp [h])]
      simp only [List.length_append]
      omega
theorem joinS_take (sep : List UInt8) (L : List (List UInt8)) (k : Nat) : (joinS sep (L.take k)).length ≤ (joinS sep L).length := by
  have := joinS_mono sep (L.take k) (L.drop k)
  rwa [List.take_append_drop] at this
end
section
open Go Go.RowKit Go.Shelf

/-- What a loop keeps: the texts so far, in a row of the call's own. -/
structure RtS {α : Type} (P : α → Option (List UInt8)) (M : Nat) (L : List α) (w : World) (k : Nat) (ts : List (List UInt8)) (v : Value) (wr : World) : Prop where
  all_ : allO ((L.take k).map P) = some ts
  short : ∀ t ∈ ts, t.length ≤ M
  own : RowOwn stY 9 w.heap.size wr v ts
  below : Below w.heap.size w wr
section
variable {α : Type} {P : α → Option (List UInt8)} {M : Nat} {L : List α} {w : World} {k : Nat} {ts : List (List UInt8)} {v : Value} {wr w1 : World}
theorem RtS.zero (w : World) : RtS P M L w 0 [] (.slice none 0 0) w := ⟨rfl, fun t h => (by cases h), RowOwn.nil _ _ _ _, Below.refl _ w⟩
theorem RtS.len (h : RtS P M L w k ts v wr) (hk : k ≤ L.length) (sep : List UInt8) : (joinS sep ts).length ≤ k * (M + sep.length) := by
  have h1 := joinS_len sep M ts h.short
  rw [row_len h.all_ hk] at h1
  exact h1
theorem RtS.on (h : RtS P M L w k ts v wr) (hb : Below wr.heap.size wr w1) : RtS P M L w k ts v w1 := { h with own := h.own.keep hb.size fun k _ hk => hb.block k hk, below := h.below.trans (hb.mono h.below.size) }
theorem RtS.lit (h : RtS P M L w k ts v wr) (r : ByteArray) : RowOwn stY 9 w.heap.size (wr.alloc (.cells #[.string r] 9)) v ts := h.own.keep (by simp) fun k _ hk => Below.heap_alloc _ _ _ hk
theorem RtS.next {v' : Value} {w2 : World} {r : ByteArray} (h : RtS P M L w k ts v wr) (hk : k < L.length) (hx : P L[k] = some r.data.toList) (hr : r.size ≤ M) (ho : RowOwn stY 9 w.heap.size w2 v' (ts ++ [r.data.toList])) (hg : (wr.alloc (.cells #[.string r] 9)).grownBy w2 v.ownBlock) : RtS P M L w (k + 1) (ts ++ [r.data.toList]) v' w2 :=
  ⟨row_step h.all_ hk hx, fun t ht => by
    rcases List.mem_append.1 ht with ht | ht
    · exact h.short t ht
    · rw [List.mem_singleton.1 ht, ← Lib.size_eq]; exact hr, ho, (h.below.alloc h.below.size _).grown hg (by have := h.below.size; simp; omega) (fun k e => (h.own.lt k e).1)⟩
theorem RtS.shape (h : RtS P M L w k ts v wr) : ∃ p c, v = .slice p ts.length c := by
  obtain ⟨us, ho, -⟩ := h.own
  rcases ho.2 with ⟨rfl, e⟩ | ⟨g, cap, cur, rfl, -⟩
  · exact ⟨none, 0, by rw [e]⟩
  · exact ⟨_, _, rfl⟩
end
theorem st_is (B : Nat) (w : World) (v : Value) (r : ByteArray) : stY.is (fun k => B ≤ k ∧ v.ownBlock ≠ some k) w [.string r] r.data.toList := rfl
theorem SayS.cases_ {M : Nat} {o : Option (List UInt8)} {w w' : World} {e : Ending} (h : SayS M o w e w') : (∃ s : ByteArray, o = some s.data.toList ∧ s.size ≤ M ∧ e = .returned (.tuple #[.string s, .int .i64 0]) ∧ Below w.heap.size w w') ∨ (o = none ∧ e = .returned (.tuple #[.string ⟨#[]⟩, .int .i64 140]) ∧ Below w.heap.size w w') := by
  obtain ⟨⟨s, h1, h2, h3⟩ | ⟨h1, h2⟩, hb⟩ := h
  · exact .inl ⟨s, h1, h2, h3, hb⟩
  · exact .inr ⟨h1, h2, hb⟩
end
section
open Go Go.RowKit Go.Shelf

theorem take_succ_eq {α : Type} {L1 L2 : List α} {k : Nat} (h : L1.take k = L2.take k) (h1 : k < L1.length) (h2 : k < L2.length) : L1.take (k + 1) = L2.take (k + 1) ↔ L1[k] = L2[k] := by
  rw [List.take_succ_eq_append_getElem h1, List.take_succ_eq_append_getElem h2, h]
  constructor
  · intro e
    have := List.append_cancel_left e
    injection this
  · intro e
    rw [e]
theorem ne_of_at {α : Type} {L1 L2 : List α} {k : Nat} (h1 : k < L1.length) (h2 : k < L2.length) (h : L1[k] ≠ L2[k]) : L1 ≠ L2 := fun e => by
  subst e
  exact h rfl
theorem atL_eq {a b : AtL} : a = b ↔ a.pred = b.pred ∧ a.args = b.args := by
  obtain ⟨p, l⟩ := a
  obtain ⟨p', l'⟩ := b
  simp
set_option maxRecDepth 100000 in
set_option maxHeartbeats 4000000 in
theorem rsameatomG (a b : AtL) (u u' : Value) (S S' : Nat → Prop) (w : World) (h1 : RowIn tmY S w u a.args) (h2 : RowIn tmY S' w u' b.args) :
    Calls Tryd.prog 23 #[.agg #[.string ⟨a.pred.toArray⟩, u], .agg #[.string ⟨b.pred.toArray⟩, u']] w (BoolE (a = b) w) := by
  have H1 := Lib.hid h1
  have H2 := Lib.hid h2
  obtain ⟨p, c, rfl⟩ := h1.shape
  obtain ⟨p', c', rfl⟩ := h2.shape
  have HEq := Lib.hid (atL_eq (a := a) (b := b))
  have hn2 := len_le h1
  obtain ⟨n, hn⟩ : ∃ n, n = a.args.length := ⟨_, rfl⟩
  obtain ⟨m, hm⟩ : ∃ m, m = b.args.length := ⟨_, rfl⟩
  have HN := Lib.hid hn
  have HM := Lib.hid hm
  obtain ⟨pa, hpa⟩ : ∃ pa : ByteArray, pa = ⟨a.pred.toArray⟩ := ⟨_, rfl⟩
  obtain ⟨pb, hpb⟩ : ∃ pb : ByteArray, pb = ⟨b.pred.toArray⟩ := ⟨_, rfl⟩
  have la : pa.toList = a.pred := by rw [hpa, Lib.toList_data]
  have lb : pb.toList = b.pred := by rw [hpb, Lib.toList_data]
  rw [← hn] at H1 hn2
  rw [← hm] at H2
  rw [← hpa, ← hpb, ← hn, ← hm]
  generalize (a = b) = q at HEq ⊢
  clear h1 h2 hpa hpb
  have HB := Lib.hid (below_box2 w (.cells #[.string pa, .slice p n c] 24) (.cells #[.string pb, .slice p' m c'] 24))
  by_cases hp : a.pred = b.pred
  · have e1 : (pa.toList == pb.toList) = true := by rw [la, lb, hp]; simp
    by_cases hnm : n = m
    · subst hnm
      have hn3 : (n : Int) ≤ 9223372036854775807 := by omega
      have HP := Lib.hid hp
      clear hp la lb hn hm hn2
      have hx1 := two_newA w (.cells #[.string pa, .slice p n c] 24) (.cells #[.string pb, .slice p' n c'] 24)
      have HX1 := Lib.hid hx1
      clear hx1
      go_enter Tryd.func23, Tryd.ntmps23
      go_wp2_with fail
      go_loopw [5] (fun i wr => ∃ k : Nat, k ≤ n ∧ i = .int .i64 k ∧ Hid (a.args.take k = b.args.take k ∧ Below w.heap.size w wr ∧ wr.heap[w.heap.size]? = some (.cells #[.string pa, .slice p n c] 24 (0, 0)) ∧ wr.heap[w.heap.size + 1]? = some (.cells #[.string pb, .slice p' n c'] 24 (0, 0)))) (fun i _ => n - (intOf i).toNat)
      case atStart => exact ⟨0, Nat.zero_le _, rfl, Lib.hid ⟨rfl, HB.out, HX1.out.1, HX1.out.2⟩⟩
      case round =>
        obtain ⟨k, hk, rfl, HJ⟩ := hrel
        have h0 : (0 : Int) ≤ (k : Int) := by omega
        obtain ⟨hpre, hb, hr, hr'⟩ := HJ.out
        have d1 : wr.cell? ⟨w.heap.size, 1, none⟩ = some (.slice p n c) := cell_of_row wr _ 1 _ _ (0, 0) hr
        have d2 : wr.cell? ⟨w.heap.size + 1, 1, none⟩ = some (.slice p' n c') := cell_of_row wr _ 1 _ _ (0, 0) hr'
        by_cases hlt : k < n
        · have hlt' : (k : Int) < (n : Int) := by omega
          have hkn : k < a.args.length := by rw [← HN.out]; exact hlt
          have hkm : k < b.args.length := by rw [← HM.out]; exact hlt
          obtain ⟨bb, off, c1, e2, hb1, a0, a1, a2, a3, a4⟩ := cells5_at (H1.out.in_below hb) hkn
          obtain ⟨b', off', c2, e3, hb2, d0, d1', d2', d3, d4⟩ := cells5_at (H2.out.in_below hb) hkm
          injection e2 with e2 hq1 hq2
          injection e3 with e3 hq3 hq4
          subst e2
          subst e3
          clear hq1 hq2 hq3 hq4
          have HTk := Lib.hid (take_succ_eq hpre hkn hkm)
          obtain ⟨X, hX⟩ : ∃ X, X = a.args[k] := ⟨_, rfl⟩
          obtain ⟨Y, hY⟩ : ∃ Y, Y = b.args[k] := ⟨_, rfl⟩
          rw [← hX] at a0 a1 a2 a3 a4 HTk
          rw [← hY] at d0 d1' d2' d3 d4 HTk
          have HXY := Lib.hid (And.intro hX hY)
          clear hX hY
          obtain ⟨bt, hbt, qt, -⟩ := neqTT_run X Y
          have HBt := Lib.hid hbt
          clear hr hr' hpre hbt
          obtain ⟨K, N, ⟨v1, v2, v3⟩⟩ := X
          obtain ⟨K', N', ⟨v1', v2', v3'⟩⟩ := Y
          unfold valT at qt
          simp only at a0 a1 a2 a3 a4 d0 d1' d2' d3 d4 qt
          have hDr : ∀ nq, Below w.heap.size w (wr.drewN nq) := fun nq => ⟨hb.os, hb.tape, hb.output, hb.size, hb.block⟩
          have HDr := Lib.hid hDr
          clear hb hDr
          cases bt with
          | true =>
            go_wp2_with fail
            go_quiet (fail)
            rename_i nq
            go_wp2_with fail
            go_roundw
            case rel => exact ⟨k + 1, hlt, by simp, Lib.hid ⟨HTk.out.2 (HBt.out.1 (by simp)), HDr.out nq, HJ.out.2.2.1, HJ.out.2.2.2⟩⟩
            case measure => simp [intOf]; omega
          | false =>
            go_wp2_with fail
            go_quiet (fail)
            rename_i nq
            go_wp2_with fail
            go_ret
            refine ⟨.inr ⟨fun e => ne_of_at hkn hkm (fun e2 => ?_) (HEq.out.1 e).2, rfl⟩, HDr.out nq⟩
            have := HBt.out.2 (by rw [HXY.out.1, HXY.out.2]; exact e2)
            simp at this
        · obtain rfl : k = n := by omega
          have hlt' : ¬ ((k : Nat) : Int) < (k : Int) := by omega
          clear hr hr'
          go_wp2_with fail
          go_ret
          refine ⟨.inl ⟨HEq.out.2 ⟨HP.out, ?_⟩, rfl⟩, hb⟩
          have h1 := HJ.out.1
          rwa [List.take_of_length_le (by have := HN.out; omega), List.take_of_length_le (by have := HM.out; omega)] at h1
    · have e2 : ((n : Int) == (m : Int)) = false := by simp; omega
      have HNe := Lib.hid (show ¬ q from fun e => hnm (by rw [hn, hm, (HEq.out.1 e).2]))
      clear hp la lb hn hm hn2 hnm
      go_enter Tryd.func23, Tryd.ntmps23
      go_wp2_with fail
      go_ret
      exact ⟨.inr ⟨HNe.out, rfl⟩, HB.out⟩
  · have e1 : (pa.toList == pb.toList) = false := by rw [la, lb]; simpa using hp
    have HNe := Lib.hid (show ¬ q from fun e => hp (HEq.out.1 e).1)
    clear hp la lb hn hm hn2
    go_enter Tryd.func23, Tryd.ntmps23
    go_wp2_with fail
    go_ret
    exact ⟨.inr ⟨HNe.out, rfl⟩, HB.out⟩
end
section
open Go Go.RowKit Go.Shelf

theorem opP_ne {n : Int} : ((⟨((opP n).getD []).toArray⟩ : ByteArray).toList == []) = (opP n).isNone := by
  rw [Lib.toList_data]
  by_cases h : n = 1 ∨ n = 2 ∨ n = 3 ∨ n = 4 ∨ n = 5 ∨ n = 6
  · rcases h with rfl | rfl | rfl | rfl | rfl | rfl <;> rfl
  · have HN : opP n = none := by unfold opP; rw [if_neg (by omega), if_neg (by omega), if_neg (by omega), if_neg (by omega), if_neg (by omega), if_neg (by omega)]
    rw [HN]
    rfl
theorem opP_len (n : Int) : ((opP n).getD []).length ≤ 2 := by
  unfold opP
  (repeat' split) <;> decide
end
section
open Go Go.RowKit Go.Shelf

theorem liL_eq {a b : LiL} : a = b ↔ a.kind = b.kind ∧ a.atom = b.atom ∧ a.op = b.op ∧ a.a = b.a ∧ a.b = b.b := by
  obtain ⟨k, t, o, x, y⟩ := a
  obtain ⟨k', t', o', x', y'⟩ := b
  simp
theorem ruL_eq {a b : RuL} : a = b ↔ a.head = b.head ∧ a.body = b.body := by
  obtain ⟨h, l⟩ := a
  obtain ⟨h', l'⟩ := b
  simp
theorem deL_eq {a b : DeL} : a = b ↔ a.name = b.name ∧ a.base = b.base ∧ a.types = b.types := by
  obtain ⟨b1, n, l⟩ := a
  obtain ⟨b2, n', l'⟩ := b
  simp only [DeL.mk.injEq]
  constructor
  · rintro ⟨h1, h2, h3⟩; exact ⟨h2, h1, h3⟩
  · rintro ⟨h1, h2, h3⟩; exact ⟨h2, h1, h3⟩
theorem onL_eq {a b : OnL} : a = b ↔ a.event = b.event ∧ a.params = b.params ∧ a.acts = b.acts := by
  obtain ⟨e, p, l⟩ := a
  obtain ⟨e', p', l'⟩ := b
  simp
theorem below_drewG (W : World) : Below W.heap.size W W.drew := ⟨rfl, rfl, rfl, Nat.le_refl _, fun _ _ => rfl⟩
set_option maxRecDepth 100000 in
set_option maxHeartbeats 16000000 in
theorem rsamelitG (a b : LiL) (u u' : Value) (S S' : Nat → Prop) (w : World) (h1 : RowIn tmY S w u a.atom.args) (h2 : RowIn tmY S' w u' b.atom.args) :
    Calls Tryd.prog 24 #[valLi a u, valLi b u'] w (BoolE (a = b) w) := by
  have HA : Hid (∀ W, Below w.heap.size w W → Calls Tryd.prog 23 #[.agg #[.string ⟨a.atom.pred.toArray⟩, u], .agg #[.string ⟨b.atom.pred.toArray⟩, u']] W (BoolE (a.atom = b.atom) W)) := Lib.hid (fun W hb => rsameatomG a.atom b.atom u u' S S' W (h1.in_below hb) (h2.in_below hb))
  obtain ⟨p, c, rfl⟩ := h1.shape
  obtain ⟨p', c', rfl⟩ := h2.shape
  clear h1 h2
  obtain ⟨bA, hA1, -, qA⟩ := neqTT_run a.a b.a
  obtain ⟨bB, hB1, -, qB⟩ := neqTT_run a.b b.b
  have HEq := Lib.hid (liL_eq (a := a) (b := b))
  rw [← hA1, ← hB1] at HEq
  clear hA1 hB1
  generalize (a = b) = Q at HEq ⊢
  generalize (a.atom = b.atom) = qa at HA HEq
  obtain ⟨k, at_, op, ⟨ka, na', ⟨a1, a2, a3⟩⟩, ⟨kb, nb', ⟨b1, b2, b3⟩⟩⟩ := a
  obtain ⟨k', at', op', ⟨ka', na'', ⟨a1', a2', a3'⟩⟩, ⟨kb', nb'', ⟨b1', b2', b3'⟩⟩⟩ := b
  unfold valT at qA qB
  unfold valLi
  simp only at HA HEq qA qB ⊢
  generalize (⟨na'.toArray⟩ : ByteArray) = na at *
  generalize (⟨nb'.toArray⟩ : ByteArray) = nb at *
  generalize (⟨at_.pred.toArray⟩ : ByteArray) = nm at *
  generalize at_.args.length = m at *
  generalize (⟨na''.toArray⟩ : ByteArray) = na1 at *
  generalize (⟨nb''.toArray⟩ : ByteArray) = nb1 at *
  generalize (⟨at'.pred.toArray⟩ : ByteArray) = nm' at *
  generalize at'.args.length = m' at *
  have hx := two_newA w (.cells #[.int .i64 k, .string nm, .slice p m c, .int .i64 op, .int .i64 ka, .string na, .int .i64 a1, .int .i64 a2, .string a3, .int .i64 kb, .string nb, .int .i64 b1, .int .i64 b2, .string b3] 57) (.cells #[.int .i64 k', .string nm', .slice p' m' c', .int .i64 op', .int .i64 ka', .string na1, .int .i64 a1', .int .i64 a2', .string a3', .int .i64 kb', .string nb1, .int .i64 b1', .int .i64 b2', .string b3'] 57)
  obtain ⟨w0, hw0⟩ : ∃ w0, (w.alloc (.cells #[.int .i64 k, .string nm, .slice p m c, .int .i64 op, .int .i64 ka, .string na, .int .i64 a1, .int .i64 a2, .string a3, .int .i64 kb, .string nb, .int .i64 b1, .int .i64 b2, .string b3] 57)).alloc (.cells #[.int .i64 k', .string nm', .slice p' m' c', .int .i64 op', .int .i64 ka', .string na1, .int .i64 a1', .int .i64 a2', .string a3', .int .i64 kb', .string nb1, .int .i64 b1', .int .i64 b2', .string b3'] 57) = w0 := ⟨_, rfl⟩
  have HB := Lib.hid (show Below w.heap.size w w0 by rw [← hw0]; exact below_box2 w _ _)
  rw [hw0] at hx
  have HX := Lib.hid hx
  have HW0 := Lib.hid hw0
  clear hw0 hx
  by_cases hk : k = k'
  · have ek : (k == k') = true := by simpa using hk
    have HKk := Lib.hid hk
    clear hk
    go_enter Tryd.func24, Tryd.ntmps24
    go_wp2_with fail
    try rw [HW0.out]
    refine (HA.out _ HB.out).mono ?_
    rintro y w1 ⟨⟨hq, rfl⟩ | ⟨hq, rfl⟩, hb1⟩
    · have HB1 := Lib.hid (HB.out.trans (hb1.mono HB.out.size))
      obtain ⟨⟨c0, c1, c2, c3, c4, c5, c6, c7, c8, c9, c10, c11, c12, c13⟩, -⟩ := cells14 ((hb1.block w.heap.size (Array.getElem?_eq_some_iff.1 HX.out.1).1).trans HX.out.1)
      obtain ⟨⟨d0, d1, d2, d3, d4, d5, d6, d7, d8, d9, d10, d11, d12, d13⟩, -⟩ := cells14 ((hb1.block (w.heap.size + 1) (Array.getElem?_eq_some_iff.1 HX.out.2).1).trans HX.out.2)
      clear hb1
      have HQ := Lib.hid (And.intro HKk.out hq)
      by_cases hop : op = op'
      · have eo : (op == op') = true := by simpa using hop
        have HO := Lib.hid hop
        clear hq hop
        cases bA with
        | true =>
          cases bB with
          | true =>
            go_wp2_with fail
            go_ret
            exact ⟨.inl ⟨HEq.out.2 ⟨HQ.out.1, HQ.out.2, HO.out, by simp, by simp⟩, rfl⟩, HB1.out⟩
          | false =>
            go_wp2_with fail
            go_ret
            exact ⟨.inr ⟨fun e => by have := (HEq.out.1 e).2.2.2.2; simp at this, rfl⟩, HB1.out⟩
        | false =>
          go_wp2_with fail
          go_ret
          exact ⟨.inr ⟨fun e => by have := (HEq.out.1 e).2.2.2.1; simp at this, rfl⟩, HB1.out⟩
      · have eo : (op == op') = false := by simpa using hop
        have HO := Lib.hid hop
        clear hq hop
        go_wp2_with fail
        go_ret
        exact ⟨.inr ⟨fun e => HO.out (HEq.out.1 e).2.2.1, rfl⟩, HB1.out⟩
    · have HB1 := Lib.hid (HB.out.trans (hb1.mono HB.out.size))
      have HQ := Lib.hid hq
      clear hb1 hq
      go_wp2_with fail
      go_ret
      exact ⟨.inr ⟨fun e => HQ.out (HEq.out.1 e).2.1, rfl⟩, HB1.out⟩
  · have ek : (k == k') = false := by simpa using hk
    have HQ := Lib.hid hk
    clear hk
    go_enter Tryd.func24, Tryd.ntmps24
    go_wp2_with fail
    try rw [HW0.out]
    go_ret
    exact ⟨.inr ⟨fun e => HQ.out (HEq.out.1 e).1, rfl⟩, HB.out⟩
set_option maxRecDepth 100000 in
set_option maxHeartbeats 16000000 in
theorem rsameruleG (a b : RuL) (u x u' x' : Value) (S S' : Nat → Prop) (w : World) (h1 : RowIn tmY S w u a.head.args) (i1 : RowIn liY S w x a.body) (h2 : RowIn tmY S' w u' b.head.args) (i2 : RowIn liY S' w x' b.body) :
    Calls Tryd.prog 11 #[.agg #[.string ⟨a.head.pred.toArray⟩, u, x], .agg #[.string ⟨b.head.pred.toArray⟩, u', x']] w (BoolE (a = b) w) := by
  have HA : Hid (∀ W, Below w.heap.size w W → Calls Tryd.prog 23 #[.agg #[.string ⟨a.head.pred.toArray⟩, u], .agg #[.string ⟨b.head.pred.toArray⟩, u']] W (BoolE (a.head = b.head) W)) := Lib.hid (fun W hb => rsameatomG a.head b.head u u' S S' W (h1.in_below hb) (h2.in_below hb))
  have H1 := Lib.hid (And.intro i1 i2)
  have HEq := Lib.hid (ruL_eq (a := a) (b := b))
  have mixed : Tryd.prog.follows .mixedOrders = true := by kernel_rfl
  obtain ⟨p, c, rfl⟩ := h1.shape
  obtain ⟨p', c', rfl⟩ := h2.shape
  obtain ⟨q, d, rfl⟩ := i1.shape
  obtain ⟨q', d', rfl⟩ := i2.shape
  have l1 := len_le i1
  obtain ⟨L, hL⟩ : ∃ L, L = a.body := ⟨_, rfl⟩
  obtain ⟨M, hM⟩ : ∃ L, L = b.body := ⟨_, rfl⟩
  obtain ⟨n, hn⟩ : ∃ n, n = L.length := ⟨_, rfl⟩
  obtain ⟨m, hm⟩ : ∃ n, n = M.length := ⟨_, rfl⟩
  have HN := Lib.hid hn
  have HM := Lib.hid hm
  rw [← hL, ← hM] at H1 HEq
  rw [← hL] at l1 ⊢
  rw [← hM]
  rw [← hn] at l1
  rw [← hn, ← hm] at H1 ⊢
  have m1 : (n : Int) ≤ 9223372036854775807 := by omega
  generalize (a = b) = Q at HEq ⊢
  generalize (a.head = b.head) = qa at HA HEq
  generalize (⟨a.head.pred.toArray⟩ : ByteArray) = nm at *
  generalize a.head.args.length = e at *
  generalize (⟨b.head.pred.toArray⟩ : ByteArray) = nm' at *
  generalize b.head.args.length = e' at *
  clear h1 h2 i1 i2 hL hM hn hm l1 a b
  obtain ⟨w0, hw0⟩ : ∃ w0, (w.alloc (.cells #[.string nm, .slice p e c, .slice q n d] 27)).alloc (.cells #[.string nm', .slice p' e' c', .slice q' m d'] 27) = w0 := ⟨_, rfl⟩
  have HB := Lib.hid (show Below w.heap.size w w0 by rw [← hw0]; exact below_box2 w _ _)
  have hx := two_newA w (.cells #[.string nm, .slice p e c, .slice q n d] 27) (.cells #[.string nm', .slice p' e' c', .slice q' m d'] 27)
  rw [hw0] at hx
  have HX := Lib.hid hx
  have HW0 := Lib.hid hw0
  clear hw0 hx
  go_enter Tryd.func11, Tryd.ntmps11
  go_wp2_with fail
  try rw [HW0.out]
  refine (HA.out _ HB.out).mono ?_
  rintro y w1 ⟨⟨hq, rfl⟩ | ⟨hq, rfl⟩, hb1⟩
  rotate_left
  · have HB1 := Lib.hid (HB.out.trans (hb1.mono HB.out.size))
    have HQ := Lib.hid hq
    clear hb1 hq
    go_wp2_with fail
    go_ret
    exact ⟨.inr ⟨fun e => HQ.out (HEq.out.1 e).1, rfl⟩, HB1.out⟩
  have HB1 := Lib.hid (HB.out.trans (hb1.mono HB.out.size))
  have HQ := Lib.hid hq
  have HX1 := Lib.hid (And.intro ((hb1.block w.heap.size (Array.getElem?_eq_some_iff.1 HX.out.1).1).trans HX.out.1) ((hb1.block (w.heap.size + 1) (Array.getElem?_eq_some_iff.1 HX.out.2).1).trans HX.out.2))
  obtain ⟨⟨c0, c1, c2⟩, -⟩ := cells3 HX1.out.1
  obtain ⟨⟨d0, d1, d2⟩, -⟩ := cells3 HX1.out.2
  clear hb1 hq
  by_cases hnm : n = m
  rotate_left
  · have e2 : ((n : Int) == (m : Int)) = false := by simp; omega
    have HNe := Lib.hid (show L ≠ M from fun e => hnm (by rw [HN.out, HM.out, e]))
    clear hnm
    go_wp2_with fail
    go_ret
    exact ⟨.inr ⟨fun e => HNe.out (HEq.out.1 e).2, rfl⟩, HB1.out⟩
  subst hnm
  go_wp2_with fail
  clear c0 c1 c2 d0 d1 d2
  go_loopw [5] (fun i wr => ∃ k : Nat, k ≤ n ∧ i = .int .i64 k ∧ Hid (L.take k = M.take k ∧ Below w.heap.size w wr ∧ wr.heap[w.heap.size]? = some (.cells #[.string nm, .slice p e c, .slice q n d] 27 (0, 0)) ∧ wr.heap[w.heap.size + 1]? = some (.cells #[.string nm', .slice p' e' c', .slice q' n d'] 27 (0, 0)))) (fun i _ => n - (intOf i).toNat)
  case atStart => exact ⟨0, Nat.zero_le _, rfl, Lib.hid ⟨rfl, HB1.out, HX1.out.1, HX1.out.2⟩⟩
  case round =>
    obtain ⟨k, hk, rfl, HJ⟩ := hrel
    have h0 : (0 : Int) ≤ (k : Int) := by omega
    obtain ⟨hpre, hb, hr, hr'⟩ := HJ.out
    have g1 : wr.cell? ⟨w.heap.size, 2, none⟩ = some (.slice q n d) := cell_of_row wr _ 2 _ _ (0, 0) hr
    have g2 : wr.cell? ⟨w.heap.size + 1, 2, none⟩ = some (.slice q' n d') := cell_of_row wr _ 2 _ _ (0, 0) hr'
    by_cases hlt : k < n
    · have hlt' : (k : Int) < (n : Int) := by omega
      have hkn : k < L.length := by rw [← HN.out]; exact hlt
      have hkm : k < M.length := by rw [← HM.out]; exact hlt
      obtain ⟨b, off, cc, us, e1, hbl, hu, hc⟩ := row_at (H1.out.1.in_below hb) hkn
      obtain ⟨b', off', cc', us', e2, hbl', hu', hc'⟩ := row_at (H1.out.2.in_below hb) hkm
      injection e1 with e1 hq1 hq2
      injection e2 with e2 hq3 hq4
      subst e1
      subst e2
      clear hq1 hq2 hq3 hq4 hbl hbl'
      have HTk := Lib.hid (take_succ_eq hpre hkn hkm)
      have HNa := Lib.hid (fun h => ne_of_at hkn hkm h)
      obtain ⟨X, hX⟩ : ∃ X, X = L[k] := ⟨_, rfl⟩
      obtain ⟨Y, hY⟩ : ∃ Y, Y = M[k] := ⟨_, rfl⟩
      rw [← hX] at hu HTk HNa
      rw [← hY] at hu' HTk HNa
      clear hX hY hpre
      obtain ⟨v, rfl, hv⟩ := hu
      obtain ⟨v', rfl, hv'⟩ := hu'
      have HU : Hid (∀ WW, Below wr.heap.size wr WW → Calls Tryd.prog 24 #[valLi X v, valLi Y v'] WW (BoolE (X = Y) WW)) := Lib.hid (fun WW hb => rsamelitG X Y v v' _ _ WW (hv.in_below hb) (hv'.in_below hb))
      obtain ⟨r, e3, rfl⟩ := hv.shape
      obtain ⟨r', e4, rfl⟩ := hv'.shape
      have a0 : wr.cell? ⟨b, off + k * 14, none⟩ = some (.int .i64 X.kind) := hc 0 _ rfl
      have a1 : wr.cell? ⟨b, off + k * 14 + 1, none⟩ = some (.string ⟨X.atom.pred.toArray⟩) := hc 1 _ rfl
      have a2 : wr.cell? ⟨b, off + k * 14 + 2, none⟩ = some (.slice r X.atom.args.length e3) := hc 2 _ rfl
      have a3 : wr.cell? ⟨b, off + k * 14 + 3, none⟩ = some (.int .i64 X.op) := hc 3 _ rfl
      have a4 : wr.cell? ⟨b, off + k * 14 + 4, none⟩ = some (.int .i64 X.a.kind) := hc 4 _ rfl
      have a5 : wr.cell? ⟨b, off + k * 14 + 5, none⟩ = some (.string ⟨X.a.name.toArray⟩) := hc 5 _ rfl
      have a6 : wr.cell? ⟨b, off + k * 14 + 6, none⟩ = some (.int .i64 X.a.val.1) := hc 6 _ rfl
      have a7 : wr.cell? ⟨b, off + k * 14 + 7, none⟩ = some (.int .i64 X.a.val.2.1) := hc 7 _ rfl
      have a8 : wr.cell? ⟨b, off + k * 14 + 8, none⟩ = some (.string X.a.val.2.2) := hc 8 _ rfl
      have a9 : wr.cell? ⟨b, off + k * 14 + 9, none⟩ = some (.int .i64 X.b.kind) := hc 9 _ rfl
      have a10 : wr.cell? ⟨b, off + k * 14 + 10, none⟩ = some (.string ⟨X.b.name.toArray⟩) := hc 10 _ rfl
      have a11 : wr.cell? ⟨b, off + k * 14 + 11, none⟩ = some (.int .i64 X.b.val.1) := hc 11 _ rfl
      have a12 : wr.cell? ⟨b, off + k * 14 + 12, none⟩ = some (.int .i64 X.b.val.2.1) := hc 12 _ rfl
      have a13 : wr.cell? ⟨b, off + k * 14 + 13, none⟩ = some (.string X.b.val.2.2) := hc 13 _ rfl
      have z0 : wr.cell? ⟨b', off' + k * 14, none⟩ = some (.int .i64 Y.kind) := hc' 0 _ rfl
      have z1 : wr.cell? ⟨b', off' + k * 14 + 1, none⟩ = some (.string ⟨Y.atom.pred.toArray⟩) := hc' 1 _ rfl
      have z2 : wr.cell? ⟨b', off' + k * 14 + 2, none⟩ = some (.slice r' Y.atom.args.length e4) := hc' 2 _ rfl
      have z3 : wr.cell? ⟨b', off' + k * 14 + 3, none⟩ = some (.int .i64 Y.op) := hc' 3 _ rfl
      have z4 : wr.cell? ⟨b', off' + k * 14 + 4, none⟩ = some (.int .i64 Y.a.kind) := hc' 4 _ rfl
      have z5 : wr.cell? ⟨b', off' + k * 14 + 5, none⟩ = some (.string ⟨Y.a.name.toArray⟩) := hc' 5 _ rfl
      have z6 : wr.cell? ⟨b', off' + k * 14 + 6, none⟩ = some (.int .i64 Y.a.val.1) := hc' 6 _ rfl
      have z7 : wr.cell? ⟨b', off' + k * 14 + 7, none⟩ = some (.int .i64 Y.a.val.2.1) := hc' 7 _ rfl
      have z8 : wr.cell? ⟨b', off' + k * 14 + 8, none⟩ = some (.string Y.a.val.2.2) := hc' 8 _ rfl
      have z9 : wr.cell? ⟨b', off' + k * 14 + 9, none⟩ = some (.int .i64 Y.b.kind) := hc' 9 _ rfl
      have z10 : wr.cell? ⟨b', off' + k * 14 + 10, none⟩ = some (.string ⟨Y.b.name.toArray⟩) := hc' 10 _ rfl
      have z11 : wr.cell? ⟨b', off' + k * 14 + 11, none⟩ = some (.int .i64 Y.b.val.1) := hc' 11 _ rfl
      have z12 : wr.cell? ⟨b', off' + k * 14 + 12, none⟩ = some (.int .i64 Y.b.val.2.1) := hc' 12 _ rfl
      have z13 : wr.cell? ⟨b', off' + k * 14 + 13, none⟩ = some (.string Y.b.val.2.2) := hc' 13 _ rfl
      unfold valLi at HU
      clear hb hr hr' hv hv' hc hc'
      go_wp2_with fail
      refine region_tail 10 mixed (by kernel_rfl) ?_
      simp only [List.take_succ_cons, List.take_zero, List.drop_succ_cons, List.drop_zero]
      iterate 10 still_step
      refine wpStill_nil ?_
      go_wp2_with fail
      refine (HU.out wr.drew (below_drewG wr)).mono ?_
      rintro y w3 ⟨⟨hq, rfl⟩ | ⟨hq, rfl⟩, hb3⟩
      · have HB3 : Hid (Below wr.heap.size wr w3) := Lib.hid ⟨hb3.os, hb3.tape, hb3.output, hb3.size, hb3.block⟩
        have HQ3 := Lib.hid (HTk.out.2 hq)
        clear hb3 hq
        go_wp2_with fail
        go_roundw
        case rel =>
          obtain ⟨-, hb, hr, hr'⟩ := HJ.out
          exact ⟨k + 1, hlt, by simp, Lib.hid ⟨HQ3.out, hb.trans (HB3.out.mono hb.size), (HB3.out.block _ (Array.getElem?_eq_some_iff.1 hr).1).trans hr, (HB3.out.block _ (Array.getElem?_eq_some_iff.1 hr').1).trans hr'⟩⟩
        case measure => simp [intOf]; omega
      · have HB3 : Hid (Below wr.heap.size wr w3) := Lib.hid ⟨hb3.os, hb3.tape, hb3.output, hb3.size, hb3.block⟩
        have HQ3 := Lib.hid (HNa.out hq)
        clear hb3 hq
        go_wp2_with fail
        go_ret
        exact ⟨.inr ⟨fun e => HQ3.out (HEq.out.1 e).2, rfl⟩, HJ.out.2.1.trans (HB3.out.mono HJ.out.2.1.size)⟩
    · obtain rfl : n = k := by omega
      have hlt' : ¬ ((n : Nat) : Int) < (n : Int) := by omega
      have HLM := Lib.hid (show L = M by rwa [List.take_of_length_le (by rw [← HN.out]; exact Nat.le_refl _), List.take_of_length_le (by rw [← HM.out]; exact Nat.le_refl _)] at hpre)
      clear hr hr' hpre
      go_wp2_with fail
      go_ret
      exact ⟨.inl ⟨HEq.out.2 ⟨HQ.out, HLM.out⟩, rfl⟩, hb⟩
set_option maxRecDepth 100000 in
set_option maxHeartbeats 16000000 in
theorem rsamedeclG (a b : DeL) (u u' : Value) (S S' : Nat → Prop) (w : World) (h1 : RowIn tyY S w u a.types) (h2 : RowIn tyY S' w u' b.types) :
    Calls Tryd.prog 13 #[.agg #[.string ⟨a.name.toArray⟩, .bool a.base, u], .agg #[.string ⟨b.name.toArray⟩, .bool b.base, u']] w (BoolE (a = b) w) := by
  have H1 := Lib.hid (And.intro h1 h2)
  have HEq := Lib.hid (deL_eq (a := a) (b := b))
  obtain ⟨q, d, rfl⟩ := h1.shape
  obtain ⟨q', d', rfl⟩ := h2.shape
  have l1 := len_le h1
  obtain ⟨L, hL⟩ : ∃ L, L = a.types := ⟨_, rfl⟩
  obtain ⟨M, hM⟩ : ∃ L, L = b.types := ⟨_, rfl⟩
  obtain ⟨n, hn⟩ : ∃ n, n = L.length := ⟨_, rfl⟩
  obtain ⟨m, hm⟩ : ∃ n, n = M.length := ⟨_, rfl⟩
  have HN := Lib.hid hn
  have HM := Lib.hid hm
  obtain ⟨pa, hpa⟩ : ∃ pa : ByteArray, pa = ⟨a.name.toArray⟩ := ⟨_, rfl⟩
  obtain ⟨pb, hpb⟩ : ∃ pb : ByteArray, pb = ⟨b.name.toArray⟩ := ⟨_, rfl⟩
  have la : pa.toList = a.name := by rw [hpa, Lib.toList_data]
  have lb : pb.toList = b.name := by rw [hpb, Lib.toList_data]
  rw [← hL, ← hM, ← la, ← lb] at HEq
  rw [← hL, ← hM] at H1
  rw [← hL] at l1 ⊢
  rw [← hM, ← hpa, ← hpb]
  rw [← hn] at l1
  rw [← hn, ← hm] at H1 ⊢
  have m1 : (n : Int) ≤ 9223372036854775807 := by omega
  generalize (a = b) = Q at HEq ⊢
  generalize a.base = ba at *
  generalize b.base = bb at *
  clear h1 h2 hL hM hn hm hpa hpb la lb l1 a b
  have HB := Lib.hid (below_box2 w (.cells #[.string pa, .bool ba, .slice q n d] 34) (.cells #[.string pb, .bool bb, .slice q' m d'] 34))
  have hx := two_newA w (.cells #[.string pa, .bool ba, .slice q n d] 34) (.cells #[.string pb, .bool bb, .slice q' m d'] 34)
  have HX := Lib.hid hx
  clear hx
  by_cases hp : pa.toList = pb.toList
  rotate_left
  · have e1 : (pa.toList == pb.toList) = false := by simpa using hp
    have HP := Lib.hid hp
    clear hp
    go_enter Tryd.func13, Tryd.ntmps13
    go_wp2_with fail
    go_ret
    exact ⟨.inr ⟨fun e => HP.out (HEq.out.1 e).1, rfl⟩, HB.out⟩
  have e1 : (pa.toList == pb.toList) = true := by simpa using hp
  have HP := Lib.hid hp
  clear hp
  by_cases hbs : ba = bb
  rotate_left
  · have HNe := Lib.hid hbs
    cases ba <;> cases bb
    · exact absurd rfl hbs
    · clear hbs
      go_enter Tryd.func13, Tryd.ntmps13
      go_wp2_with fail
      go_ret
      exact ⟨.inr ⟨fun e => HNe.out (HEq.out.1 e).2.1, rfl⟩, HB.out⟩
    · clear hbs
      go_enter Tryd.func13, Tryd.ntmps13
      go_wp2_with fail
      go_ret
      exact ⟨.inr ⟨fun e => HNe.out (HEq.out.1 e).2.1, rfl⟩, HB.out⟩
    · exact absurd rfl hbs
  subst hbs
  by_cases hnm : n = m
  rotate_left
  · have e2 : ((n : Int) == (m : Int)) = false := by simp; omega
    have HNe := Lib.hid (show L ≠ M from fun e => hnm (by rw [HN.out, HM.out, e]))
    clear hnm
    go_enter Tryd.func13, Tryd.ntmps13
    go_wp2_with fail
    go_ret
    exact ⟨.inr ⟨fun e => HNe.out (HEq.out.1 e).2.2, rfl⟩, HB.out⟩
  subst hnm
  go_enter Tryd.func13, Tryd.ntmps13
  go_wp2_with fail
  go_loopw [5] (fun i wr => ∃ k : Nat, k ≤ n ∧ i = .int .i64 k ∧ Hid (L.take k = M.take k ∧ Below w.heap.size w wr ∧ wr.heap[w.heap.size]? = some (.cells #[.string pa, .bool ba, .slice q n d] 34 (0, 0)) ∧ wr.heap[w.heap.size + 1]? = some (.cells #[.string pb, .bool ba, .slice q' n d'] 34 (0, 0)))) (fun i _ => n - (intOf i).toNat)
  case atStart => exact ⟨0, Nat.zero_le _, rfl, Lib.hid ⟨rfl, HB.out, HX.out.1, HX.out.2⟩⟩
  case round =>
    obtain ⟨k, hk, rfl, HJ⟩ := hrel
    have h0 : (0 : Int) ≤ (k : Int) := by omega
    obtain ⟨hpre, hb, hr, hr'⟩ := HJ.out
    have g1 : wr.cell? ⟨w.heap.size, 2, none⟩ = some (.slice q n d) := cell_of_row wr _ 2 _ _ (0, 0) hr
    have g2 : wr.cell? ⟨w.heap.size + 1, 2, none⟩ = some (.slice q' n d') := cell_of_row wr _ 2 _ _ (0, 0) hr'
    by_cases hlt : k < n
    · have hlt' : (k : Int) < (n : Int) := by omega
      have hkn : k < L.length := by rw [← HN.out]; exact hlt
      have hkm : k < M.length := by rw [← HM.out]; exact hlt
      obtain ⟨b, off, cc, us, e2, hbl, hu, hc⟩ := row_at (H1.out.1.in_below hb) hkn
      obtain ⟨b', off', cc', us', e3, hbl', hu', hc'⟩ := row_at (H1.out.2.in_below hb) hkm
      injection e2 with e2 hq1 hq2
      injection e3 with e3 hq3 hq4
      subst e2
      subst e3
      clear hq1 hq2 hq3 hq4 hbl hbl'
      have HTk := Lib.hid (take_succ_eq hpre hkn hkm)
      have HNa := Lib.hid (fun h => ne_of_at hkn hkm h)
      obtain ⟨X, hX⟩ : ∃ X, X = L[k] := ⟨_, rfl⟩
      obtain ⟨Y, hY⟩ : ∃ Y, Y = M[k] := ⟨_, rfl⟩
      rw [← hX] at hu HTk HNa
      rw [← hY] at hu' HTk HNa
      have hu : us = [.int .i64 X] := hu
      have hu' : us' = [.int .i64 Y] := hu'
      subst hu
      subst hu'
      have a0 : wr.cell? ⟨b, off + k, none⟩ = some (.int .i64 X) := by have := hc 0 _ rfl; simpa [tyY] using this
      have a1 : wr.cell? ⟨b', off' + k, none⟩ = some (.int .i64 Y) := by have := hc' 0 _ rfl; simpa [tyY] using this
      have HDr : Hid (∀ nq, Below w.heap.size w (wr.drewN nq)) := Lib.hid (fun nq => ⟨hb.os, hb.tape, hb.output, hb.size, hb.block⟩)
      clear hX hY hpre hb hr hr' hc hc'
      by_cases hxy : X = Y
      · have ex : (X == Y) = true := by simpa using hxy
        have HQ3 := Lib.hid (HTk.out.2 hxy)
        clear hxy
        go_wp2_with fail
        go_quiet (fail)
        rename_i nq
        go_wp2_with fail
        go_roundw
        case rel => exact ⟨k + 1, hlt, by simp, Lib.hid ⟨HQ3.out, HDr.out nq, HJ.out.2.2.1, HJ.out.2.2.2⟩⟩
        case measure => simp [intOf]; omega
      · have ex : (X == Y) = false := by simpa using hxy
        have HQ3 := Lib.hid (HNa.out hxy)
        clear hxy
        go_wp2_with fail
        go_quiet (fail)
        rename_i nq
        go_wp2_with fail
        go_ret
        exact ⟨.inr ⟨fun e => HQ3.out (HEq.out.1 e).2.2, rfl⟩, HDr.out nq⟩
    · obtain rfl : n = k := by omega
      have hlt' : ¬ ((n : Nat) : Int) < (n : Int) := by omega
      have HLM := Lib.hid (show L = M by rwa [List.take_of_length_le (by rw [← HN.out]; exact Nat.le_refl _), List.take_of_length_le (by rw [← HM.out]; exact Nat.le_refl _)] at hpre)
      clear hr hr' hpre
      go_wp2_with fail
      go_ret
      exact ⟨.inl ⟨HEq.out.2 ⟨HP.out, by simp, HLM.out⟩, rfl⟩, hb⟩
end
end Go.Proofs.YtfjpiofinffpfaaDoor
