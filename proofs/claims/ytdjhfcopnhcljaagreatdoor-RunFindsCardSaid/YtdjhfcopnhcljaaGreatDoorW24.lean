/-
  Rows of counted tuples, each with a row of values of its own.
-/
import Derived.Test.YtdjhfcopnhcljaaGreatDoorW09
import Derived.Test.YtdjhfcopnhcljaaGreatDoorW23
namespace Go.Proofs.YtdjhfcopnhcljaaGreatDoor
section
open Go Go.RowKit Go.Shelf

theorem infoK : (Tryz.prog.info? 66).map (fun i => (i.zero, i.size, i.bytes)) = some (some (.agg #[.slice none 0 0, .int .i64 0]), 2, 32) := by kernel_rfl
def ctV : List (Ct × Value) → List Value
  | [] => []
  | x :: r => x.2 :: .int .i64 x.1.2 :: ctV r
theorem ctV_len (R : List (Ct × Value)) : (ctV R).length = R.length * 2 := by
  induction R with
  | nil => rfl
  | cons x r ih => simp only [ctV, List.length_cons, ih]; omega
theorem ctV_app (R S : List (Ct × Value)) : ctV (R ++ S) = ctV R ++ ctV S := by
  induction R with
  | nil => rfl
  | cons x r ih => simp only [ctV, List.cons_append, ih]
theorem ctV_at {R : List (Ct × Value)} : ∀ {j : Nat} (hj : j < R.length), (ctV R)[j * 2]? = some R[j].2 ∧ (ctV R)[j * 2 + 1]? = some (.int .i64 R[j].1.2) := by
  induction R with
  | nil => intro j hj; cases hj
  | cons x r ih =>
    intro j hj
    cases j with
    | zero => exact ⟨rfl, rfl⟩
    | succ j =>
      have h := ih (j := j) (by simpa using hj)
      rw [show (j + 1) * 2 = j * 2 + 2 by omega]
      exact h
/-- A row of counted tuples of the call's own. -/
def OwnCt (B : Nat) (w : World) (v : Value) (R : List (Ct × Value)) : Prop :=
  w.ownsRow B 66 2 v R.length (ctV R) ∧ ∀ x ∈ R, OwnR 0 w x.2 x.1.1 ∧ x.1.1.length ≤ 9
theorem OwnCt.nil (B : Nat) (w : World) : OwnCt B w (.slice none 0 0) [] := ⟨World.ownsRow_nil w B _ 2, fun x h => by cases h⟩
theorem OwnCt.below {B : Nat} {w w' : World} {v : Value} {R : List (Ct × Value)} (h : OwnCt B w v R) (hb : Below w.heap.size w w') : OwnCt B w' v R := ⟨ownsRow_below h.1 hb, fun x hx => ⟨(h.2 x hx).1.below hb, (h.2 x hx).2⟩⟩
/-- A change of a block that holds neither counted tuples nor values. -/
theorem OwnCt.other {B b : Nat} {w w' : World} {v : Value} {R : List (Ct × Value)} {o : Obj} (h : OwnCt B w v R) (ht : Turned (fun k => k = b) w w') (ho : w.heap[b]? = some o) (h1 : ∀ cur, o ≠ .cells cur 66 (0, 0)) (h2 : ∀ cur, o ≠ .cells cur 92 (0, 0)) : OwnCt B w' v R := by
  refine ⟨ownsRow_off h.1 ht (fun k hk e => ?_), fun x hx => ⟨ownsRow_off (h.2 x hx).1 ht (fun k hk e => ?_), (h.2 x hx).2⟩⟩
  · obtain ⟨-, cur, hc⟩ := ownsRow_block h.1 k hk
    have e : k = b := e
    rw [e, ho] at hc
    exact h1 cur (Option.some.inj hc)
  · obtain ⟨-, cur, hc⟩ := ownsRow_block (h.2 x hx).1 k hk
    have e : k = b := e
    rw [e, ho] at hc
    exact h2 cur (Option.some.inj hc)
theorem OwnCt.shape {B : Nat} {w : World} {v : Value} {R : List (Ct × Value)} (h : OwnCt B w v R) : ∃ p c, v = .slice p R.length c := by
  rcases h.1.2 with ⟨rfl, h0⟩ | ⟨g, cap, cur, rfl, -⟩
  · exact ⟨none, 0, by rw [show R.length = 0 from h0]⟩
  · exact ⟨_, cap, rfl⟩
theorem OwnCt.in_ {B : Nat} {w : World} {v : Value} {R : List (Ct × Value)} (h : OwnCt B w v R) : EnIn w.heap.size w v (R.map (·.1)) := by
  rcases h.1.2 with ⟨rfl, h0⟩ | ⟨g, cap, cur, rfl, hB, hg, hc, hm, hsz, hcur⟩
  · have h0 : R.length = 0 := h0
    obtain rfl := List.eq_nil_of_length_eq_zero h0
    exact ⟨none, 0, rfl, Nat.le_refl _, by decide, .inl rfl⟩
  · refine ⟨some ⟨g, 0, none⟩, cap, by rw [List.length_map], by rw [List.length_map]; exact hc, hm, .inr ⟨g, 0, rfl, (Array.getElem?_eq_some_iff.1 hg).1, fun j hj => ?_⟩⟩
    rw [List.length_map] at hj
    obtain ⟨h1, h2⟩ := ctV_at hj
    have key : ∀ o x, (ctV R)[o]? = some x → w.cell? ⟨g, o, none⟩ = some x := fun o x hx => by
      rw [← hcur, List.getElem?_take] at hx
      split at hx
      · rw [cell_of_row w g o cur _ (0, 0) hg]
        simpa using hx
      · cases hx
    have hr := h.2 _ (List.getElem_mem hj)
    refine ⟨R[j].2, ?_, ?_, ?_⟩
    · rw [Nat.zero_add]; exact key _ _ h1
    · rw [Nat.zero_add, List.getElem_map]; exact key _ _ h2
    · rw [List.getElem_map]; exact hr.1.in_ (by omega)
/-- An append of one. -/
theorem run_appCt (w : World) (B : Nat) (ty : TypeId) (v : Value) (R : List (Ct × Value)) (q : Ct) (u : Value) (ad : Addr) (hown : OwnCt B w v R) (hu : OwnR 0 w u q.1) (h8 : q.1.length ≤ 9) (hR : R.length ≤ 1000000) (hB : B ≤ w.heap.size)
    (c0 : w.cell? (ad.add 0) = some u) (c1 : w.cell? (ad.add 1) = some (.int .i64 q.2)) :
    ∃ v' w', (Builtin.append_ #[22, 22] ty #[v, .slice (some ad) 1 1]).run Tryz.prog w = .ok v' w' ∧ OwnCt B w' v' (R ++ [(q, u)]) ∧ w.grownBy w' v.ownBlock ∧ (v'.ownBlock = v.ownBlock ∨ v'.ownBlock = some w.heap.size) := by
  obtain ⟨i0, hi, hz0, hz1, hz2⟩ := info_parts infoK
  obtain ⟨pu, cu, rfl⟩ : ∃ p c, u = .slice p q.1.length c := by
    rcases hu.2 with ⟨rfl, h0⟩ | ⟨g, cap, cur, rfl, -⟩
    · exact ⟨none, 0, by rw [show q.1.length = 0 from h0]⟩
    · exact ⟨_, cap, rfl⟩
  obtain ⟨v', w', hr, ho, hg, -, hv⟩ := run_append_own_at (P := Tryz.prog) w B 22 ty 66 i0 (.agg #[.slice none 0 0, .int .i64 0]) 2 32 Tryz.underlying22 hi hz0 hz1 hz2 rfl (by decide) v _ _ hown.1 ad 1 1 [.slice pu q.1.length cu, .int .i64 q.2]
    rfl (fun j x hx => by
      rcases j with _ | _ | j
      · cases hx; exact c0
      · cases hx; exact c1
      · simp at hx) (fun x hx => by simp at hx; rcases hx with rfl | rfl <;> rfl) (by unfold maxLen; omega) (by omega) hB
  have ht := Turned.of_grown hg
  refine ⟨v', w', hr, ⟨?_, ?_⟩, hg, hv⟩
  · rw [List.length_append, ctV_app]
    exact ho
  · have keep : ∀ y T, OwnR 0 w y T → OwnR 0 w' y T := fun y T hy => ownsRow_off hy ht (fun k hk e => by
      obtain ⟨-, cur, hc⟩ := ownsRow_block hy k hk
      obtain ⟨-, cur', hc'⟩ := ownsRow_block hown.1 k e
      rw [hc] at hc'
      injection hc' with hc'
      injection hc' with _ hc' _
      exact absurd hc' (by decide))
    intro x hx
    rcases List.mem_append.1 hx with hx | hx
    · exact ⟨keep _ _ (hown.2 x hx).1, (hown.2 x hx).2⟩
    · obtain rfl := List.mem_singleton.1 hx
      exact ⟨keep _ _ hu, h8⟩
/-- The same at the operation. -/
theorem wpList_appCt {ops : Array Oper} {rest : List Oper} {o : Oper} {a : Act} {w : World} {Q : Exit → Act → World → Prop} (hgd : o.guard = none) (s x : Operand)
    (ho : o.op = .call { callee := .builtin .append, args := #[s, x], argTypes := #[22, 22] })
    (B : Nat) (v : Value) (R : List (Ct × Value)) (q : Ct) (u : Value) (ad : Addr) (hs : a.eval s = v) (hx : a.eval x = .slice (some ad) 1 1) (hown : OwnCt B w v R) (hu : OwnR 0 w u q.1) (h8 : q.1.length ≤ 9) (hR : R.length ≤ 1000000) (hB : B ≤ w.heap.size)
    (c0 : w.cell? (ad.add 0) = some u) (c1 : w.cell? (ad.add 1) = some (.int .i64 q.2))
    (h : ∀ v' w', OwnCt B w' v' (R ++ [(q, u)]) → w.grownBy w' v.ownBlock → (v'.ownBlock = v.ownBlock ∨ v'.ownBlock = some w.heap.size) → wpList Tryz.prog ops Q rest (a.put o.dst v') w') : wpList Tryz.prog ops Q (o :: rest) a w := by
  refine wpList_plain hgd fun K hK => ?_
  obtain ⟨v', w', hr, h2, h3, h4⟩ := run_appCt w B o.type v R q u ad hown hu h8 hR hB c0 c1
  unfold Oper.wp execOp
  simp only [ho, resolve, invoke, builtin, Sem.run_bind, Sem.run_pure, Result.andThen_ok, List.map_toArray, List.map_cons, List.map_nil, hs, hx, hr]
  exact hK _ _ (h v' w' h2 h3 h4)
theorem RowN.own {w : World} {g B : Nat} {T : List V3} (h : RowN w g T.length T) (hB : B ≤ g) (h8 : T.length ≤ 8) : OwnR B w (.slice (some ⟨g, 0, none⟩) T.length T.length) T := by
  obtain ⟨A, h1, h2, -, h3⟩ := h
  refine ⟨rowV_len T, .inr ⟨g, T.length, A, rfl, hB, h1, Nat.le_refl _, by unfold maxLen; omega, h2, ?_⟩⟩
  refine List.ext_getElem? fun o => ?_
  by_cases ho : o < T.length * 3
  · have hr : o < (rowV T).length := by rw [rowV_len]; exact ho
    rw [List.getElem?_take_of_lt ho, Array.getElem?_toList, h3 o _ (List.getElem?_eq_getElem hr), List.getElem?_eq_getElem hr]
  · rw [List.getElem?_eq_none (by rw [List.length_take]; omega), List.getElem?_eq_none (by rw [rowV_len]; omega)]
theorem cells2R {W : World} {b : Nat} {x y : Value} {t : TypeId} (h : W.heap[b]? = some (.cells #[x, y] t (0, 0))) :
    (W.cell? ⟨b, 0, none⟩ = some x ∧ W.cell? ⟨b, 1, none⟩ = some y) ∧ W.frozen? ⟨b, 0, none⟩ = false ∧ W.frozen? ⟨b, 1, none⟩ = false :=
  ⟨⟨(cell_of_row _ b 0 _ _ (0, 0) h).trans rfl, (cell_of_row _ b 1 _ _ (0, 0) h).trans rfl⟩, frozen_of_row _ b 0 _ _ h, frozen_of_row _ b 1 _ _ h⟩
theorem OnlyR.trans' {R : Nat} {Z : Nat → Prop} {a b c : World} (h : OnlyR R a b) (g : Turned Z b c) (hz : ∀ k, k < a.heap.size → Z k → k = R) : OnlyR R a c := Turned.trans h g hz
set_option maxRecDepth 100000 in
set_option maxHeartbeats 1000000 in
/-- A counted tuple off the front. -/
theorem rdcnt_any (n₀ R : Nat) (l : List UInt8) (w : World) (h : RdB n₀ w R l) (hn : n₀ ≤ w.heap.size) :
    Calls Tryz.prog 115 #[.pointer (some ⟨R, 0, none⟩)] w (TkEnd n₀ R (cntQ l) (fun x W v => ∃ u, v = .agg #[u, .int .i64 x.2] ∧ OwnR 0 W u x.1 ∧ x.1.length ≤ 8) w) := by
  obtain ⟨W0, hW0⟩ : ∃ W0, W0 = w.alloc (.cells #[.slice none 0 0, .int .i64 0] 66) := ⟨_, rfl⟩
  have hb0 : Below w.heap.size w W0 := by rw [hW0]; exact below_new w _
  have hs0 : W0.heap.size = w.heap.size + 1 := by rw [hW0]; simp
  have hr0 : W0.heap[w.heap.size]? = some (.cells #[.slice none 0 0, .int .i64 0] 66 (0, 0)) := by rw [hW0]; exact World.alloc_heap_new w _
  have HT := Lib.hid (takeC_any n₀ R l W0 (h.below hb0))
  have HR := Lib.hid hr0
  have HB := Lib.hid hb0
  have HLt := Lib.hid h.lt
  have HN := Lib.hid hn
  clear h hb0 hr0 hs0 hn
  go_enter Tryz.func115, Tryz.ntmps115
  go_wp2_with fail
  rw [← hW0]
  clear hW0
  refine HT.out.mono ?_
  rintro e w1 ⟨⟨x, r, v, ho, rfl, ⟨g, -, rfl, hx, h8⟩, hr⟩ | ⟨ho, rfl⟩, hk⟩
  · obtain ⟨T, n⟩ := x
    have hc1 := (hk.block w.heap.size (Array.getElem?_eq_some_iff.1 HR.out).1 (fun e => by have e : w.heap.size = R := e; have := HLt.out; omega)).trans HR.out
    obtain ⟨⟨s0, -⟩, f0, -⟩ := cells2R hc1
    have hc2 := heap_setCell_same w1 w.heap.size 0 _ _ (.slice (some ⟨g, 0, none⟩) T.length T.length) hc1
    obtain ⟨⟨-, s1⟩, -, f1⟩ := cells2R (x := .slice (some ⟨g, 0, none⟩) T.length T.length) (y := .int .i64 0) hc2
    have hc3 := heap_setCell_same _ w.heap.size 1 _ _ (.int .i64 n) hc2
    obtain ⟨⟨r0, r1⟩, -⟩ := cells2R (x := .slice (some ⟨g, 0, none⟩) T.length T.length) (y := .int .i64 n) hc3
    have ht := turned_set2 w1 w.heap.size (.slice (some ⟨g, 0, none⟩) T.length T.length) (.int .i64 n)
    have hw := hx.own (Nat.zero_le g) h8
    have ho1 : OwnR 0 ((w1.setCell ⟨w.heap.size, 0, none⟩ (.slice (some ⟨g, 0, none⟩) T.length T.length)).setCell ⟨w.heap.size, 1, none⟩ (.int .i64 n)) (.slice (some ⟨g, 0, none⟩) T.length T.length) T := ownsRow_off hw ht (fun k hk' e => by
      obtain ⟨-, cur, hcc⟩ := ownsRow_block hw k hk'
      rw [e, hc1] at hcc
      injection hcc with hcc
      injection hcc with _ hcc _
      exact absurd hcc (by decide))
    have HE := Lib.hid (And.intro ho (And.intro ho1 (And.intro h8 (And.intro (hr.other ht (by have := HLt.out; omega) HN.out) (show OnlyR R w ((w1.setCell ⟨w.heap.size, 0, none⟩ (.slice (some ⟨g, 0, none⟩) T.length T.length)).setCell ⟨w.heap.size, 1, none⟩ (.int .i64 n)) from
      ((OnlyR.fromB HB.out).trans hk).trans' ht (fun k hk e => by omega))))))
    clear ho hx h8 hr hk hc1 hc2 hc3 ht hw ho1 HT
    go_wp2_with fail
    refine bodyPost_ret (v := .agg #[.slice (some ⟨g, 0, none⟩) T.length T.length, .int .i64 n]) (by simp [results, Tryz.results115, go_sem, r0, r1]) rfl ?_
    exact ⟨.inl ⟨(T, n), r, _, HE.out.1, rfl, ⟨_, rfl, HE.out.2.1, HE.out.2.2.1⟩, HE.out.2.2.2.1⟩, HE.out.2.2.2.2⟩
  · have HE := Lib.hid (And.intro ho ((OnlyR.fromB HB.out).trans hk))
    clear ho hk HT
    go_wp2_with fail
    exact ⟨rfl, .inr ⟨HE.out.1, rfl⟩, HE.out.2⟩
end
end Go.Proofs.YtdjhfcopnhcljaaGreatDoor
