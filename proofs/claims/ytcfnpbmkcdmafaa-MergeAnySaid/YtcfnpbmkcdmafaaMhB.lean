/-
  Appends of one cell; contracts of the laws' cut and cursors.
-/
import Derived.Test.YtcfnpbmkcdmafaaMhA
import Derived.Test.YtcfnpbmkcdmafaaMgW
namespace Go.Proofs.Ytcfnpbmkcdmafaa
open Go Go.RowKit Go.Shelf

theorem run_app1 (w : World) (B : Nat) (st et ty : TypeId) (z : Value) (by_ : Nat) (hu : Try.prog.underlying st = some (.slice et)) (hi : (Try.prog.info? et).map (fun i => (i.zero, i.size, i.bytes)) = some (some z, 1, by_)) (hzc : z.cells.size = 1) (hby : by_ ≤ 1000) (v u : Value) (n b : Nat) (us : List Value)
    (hb : w.cell? ⟨b, 0, none⟩ = some u) (hu1 : u.oneCell' = true) (hown : w.ownsRow B et 1 v n us) (hn : n ≤ 1000000) (hB : B ≤ w.heap.size) :
    ∃ v' w', (Builtin.append_ #[st, st] ty #[v, .slice (some ⟨b, 0, none⟩) 1 1]).run Try.prog w = .ok v' w' ∧ w'.ownsRow B et 1 v' (n + 1) (us ++ [u]) ∧ w.grownBy w' v.ownBlock ∧ (v'.ownBlock = v.ownBlock ∨ v'.ownBlock = some w.heap.size) := by
  obtain ⟨i0, hi, hz0, hz1, hz2⟩ := info_parts hi
  have hbytes : (n + 1) * by_ ≤ 140737488355328 := by
    have : (n + 1) * by_ ≤ 1000001 * 1000 := Nat.mul_le_mul (by omega) hby
    omega
  obtain ⟨v', w', hr, ho, hg, -, hv⟩ := run_append_own_at (P := Try.prog) w B st ty et i0 z 1 by_ hu hi hz0 hz1 hz2 hzc (by decide) v n us hown ⟨b, 0, none⟩ 1 1 [u] rfl (fun j x hx => by
    rcases j with _ | j
    · simp at hx; subst hx; rw [addr_add]; exact hb
    · simp at hx) (by intro x hx; simp at hx; subst hx; exact hu1) (by unfold maxLen; omega) hbytes hB
  exact ⟨v', w', hr, ho, hg, hv⟩
theorem wpList_app1 {ops : Array Oper} {rest : List Oper} {o : Oper} {a : Act} {w : World} {Q : Exit → Act → World → Prop} (hgd : o.guard = none) (s x : Operand) (st et : TypeId)
    (ho : o.op = .call { callee := .builtin .append, args := #[s, x], argTypes := #[st, st] }) (B : Nat) (z : Value) (by_ : Nat) (hu : Try.prog.underlying st = some (.slice et)) (hi : (Try.prog.info? et).map (fun i => (i.zero, i.size, i.bytes)) = some (some z, 1, by_)) (hzc : z.cells.size = 1) (hby : by_ ≤ 1000) (v u : Value) (n b : Nat) (us : List Value)
    (hs : a.eval s = v) (hx : a.eval x = .slice (some ⟨b, 0, none⟩) 1 1) (hb : w.cell? ⟨b, 0, none⟩ = some u) (hu1 : u.oneCell' = true) (hown : w.ownsRow B et 1 v n us) (hn : n ≤ 1000000) (hB : B ≤ w.heap.size)
    (h : ∀ v' w', w'.ownsRow B et 1 v' (n + 1) (us ++ [u]) → w.grownBy w' v.ownBlock → (v'.ownBlock = v.ownBlock ∨ v'.ownBlock = some w.heap.size) → wpList Try.prog ops Q rest (a.put o.dst v') w') : wpList Try.prog ops Q (o :: rest) a w := by
  refine wpList_plain hgd fun K hK => ?_
  obtain ⟨v', w', hr, h2, h3, h4⟩ := run_app1 w B st et o.type z by_ hu hi hzc hby v u n b us hb hu1 hown hn hB
  unfold Oper.wp execOp
  simp only [ho, resolve, invoke, builtin, Sem.run_bind, Sem.run_pure, Result.andThen_ok, List.map_toArray, List.map_cons, List.map_nil, hs, hx, hr]
  exact hK _ _ (h v' w' h2 h3 h4)
/-- An append of things at a step of a drawn region. -/
theorem step_appTh {ops : Array Oper} {o : Oper} {a : Act} {w : World} {K : Act → World → Prop} {Q : Exit → Act → World → Prop} {E : Prop} (hgd : o.guard = none) (s x : Operand)
    (ho : o.op = .call { callee := .builtin .append, args := #[s, x], argTypes := #[22, 22] })
    (B : Nat) (S : Nat → Prop) (v vx : Value) (T X : List Th) (hs : a.eval s = v) (hx : a.eval x = vx) (hown : OwnTh B w v T) (hin : ThIn S w vx X) (hlen : T.length ≤ 1000000) (hlx : X.length ≤ 1000000) (hB : B ≤ w.heap.size)
    (h : ∀ v' w', OwnTh B w' v' (T ++ X) → w.grownBy w' v.ownBlock → (v'.ownBlock = v.ownBlock ∨ v'.ownBlock = some w.heap.size) → K (a.put o.dst v') w') : if Region.wanted o (yielded ops a.tmps) = true then Oper.wp Try.prog o a w K Q else E := by
  have hw : Region.wanted o (yielded ops a.tmps) = true := by simp [Region.wanted, hgd]
  rw [if_pos hw]
  obtain ⟨v', w', hr, h2, h3, h4⟩ := run_appTh w B S o.type v vx T X hown hin hlen hlx hB
  unfold Oper.wp execOp
  simp only [ho, resolve, invoke, builtin, Sem.run_bind, Sem.run_pure, Result.andThen_ok, List.map_toArray, List.map_cons, List.map_nil, hs, hx, hr]
  exact h v' w' h2 h3 h4
def cutL (LL : List (List Th)) : List (List Th) := (LL.take 6).map (·.take 30)
set_option maxRecDepth 100000 in
set_option maxHeartbeats 2000000 in
theorem cut_any {S : Nat → Prop} {v : Value} {LL : List (List Th)} {w : World} (h : RowsIn S w v LL) :
    Calls Try.prog 20 #[v] w fun e w' => ∃ v', e = .returned v' ∧ OwnRr w.heap.size (fun k => S k ∧ k < w.heap.size) w' v' (cutL LL) ∧ Below w.heap.size w w' := by
  have HV := Lib.hid (show RowsIn (fun k => S k ∧ k < w.heap.size) w v LL from h.keep (Nat.le_refl _) (fun k e hk => ⟨⟨e, hk⟩, rfl⟩))
  obtain ⟨p, c, rfl, hc1, hc2, -⟩ := h
  go_enter Try.func20, Try.ntmps20
  go_wp2_with fail
  go_loopw [3, 4] (fun v i wr => ∃ n : Nat, n ≤ LL.length ∧ n ≤ 6 ∧ i = .int .i64 n ∧ Hid (OwnRr w.heap.size (fun k => S k ∧ k < w.heap.size) wr v ((LL.take n).map (·.take 30)) ∧ Below w.heap.size w wr)) (fun _ i _ => 6 - (intOf i).toNat)
  case atStart => exact ⟨0, Nat.zero_le _, Nat.zero_le _, rfl, Lib.hid ⟨OwnRr.nil _ _ _, Below.refl _ _⟩⟩
  case round =>
    obtain ⟨n, hn, hn6, rfl, HJ⟩ := hrel
    by_cases hlt : n < LL.length
    · have hlt' : (n : Int) < (LL.length : Int) := by omega
      by_cases h6 : n < 6
      · have h6' : (n : Int) < 6 := by omega
        obtain ⟨L, hL⟩ : ∃ L, L = LL[n] := ⟨_, rfl⟩
        obtain ⟨b, off, pu, cu, rfl, -, -, hcell, hth⟩ := (HV.out.below HJ.out.2).at_ hlt
        rw [← hL] at hcell hth
        have HSh := Lib.hid (short_any hth)
        have HE := Lib.hid (show (LL.take n).map (·.take 30) ++ [L.take 30] = (LL.take (n + 1)).map (·.take 30) by rw [List.take_succ_eq_append_getElem hlt, List.map_append, hL]; rfl)
        have HTl := Lib.hid (show ((LL.take n).map (·.take 30)).length = n by rw [List.length_map, List.length_take]; omega)
        clear hL hth
        go_wp2_with fail
        refine HSh.out.mono ?_
        rintro e w1 ⟨v1, rfl, hv1, rfl⟩
        obtain ⟨T, hT⟩ : ∃ T, T = L.take 30 := ⟨_, rfl⟩
        rw [← hT] at hv1 HE
        have HV1 := Lib.hid hv1
        obtain ⟨p1, c1, rfl, -⟩ := hv1
        obtain ⟨us, hu1, hu2, hu3⟩ := HJ.out.1
        have HU := Lib.hid (And.intro hu1 (And.intro hu2 hu3))
        have HBz := Lib.hid (And.intro HJ.out.2 HJ.out.2.size)
        clear hu1 hu2 hu3 HSh hT
        go_wp2_with (at_builtin; refine wpList_app1 rfl (.tmp 15) (.tmp 21) 39 22 rfl w.heap.size (.slice none 0 0) 24 Try.underlying39 infoRr rfl (by decide) _ (.slice p1 T.length c1) n wr.heap.size us rfl rfl (by rw [cell_of_row _ _ 0 _ _ (0, 0) (heap_alloc_new wr _)]; rfl) rfl (ownsRow_keep (by have h := HU.out.2.1; rw [HTl.out] at h; exact h) (fun k e => Below.heap_alloc _ _ _ (by have := (World.ownsRow.lt HU.out.2.1 k e).2; omega))) (by omega) (by have := HBz.out.2; simp; omega) ?_; intro v3 w3 ho hg _; have HN := Lib.hid (And.intro ho hg); clear ho hg)
        go_roundw
        case rel =>
          obtain ⟨ho, hg⟩ := HN.out
          obtain ⟨hu1, hu2, hu3⟩ := HU.out
          have hb3 : Below w.heap.size w w3 := ((HBz.out.1.alloc HBz.out.1.size _).grown hg (by have := HBz.out.2; simp; omega) (fun k e => (World.ownsRow.lt hu2 k e).1))
          have hold : ∀ k, k < w.heap.size → w3.heap[k]? = wr.heap[k]? := fun k hk => (hb3.block k hk).trans (HBz.out.1.block k hk).symm
          have hsz : wr.heap.size ≤ w3.heap.size := by have := hg.size; simp at this; omega
          refine ⟨n + 1, hlt, h6, by simp, Lib.hid ⟨?_, hb3⟩⟩
          rw [← HE.out]
          exact OwnRr.snoc hu1 (fun j hj hj' => (hu3 j hj hj').keep hsz (fun k e _ => ⟨e, hold k e.2⟩)) (HV1.out.keep hsz (fun k e _ => ⟨e, hold k e.2⟩)) (by rw [HTl.out]; exact ho)
        case measure => simp [intOf]; omega
      · obtain rfl : n = 6 := by omega
        have h6' : ¬ ((6 : Nat) : Int) < 6 := by omega
        go_wp2_with fail
        go_ret
        exact ⟨_, rfl, HJ.out⟩
    · obtain rfl : n = LL.length := by omega
      have HE := Lib.hid (show (LL.take LL.length).map (·.take 30) = cutL LL by unfold cutL; rw [List.take_length, List.take_of_length_le hn6])
      go_wp2_with fail
      go_ret
      refine ⟨_, rfl, ?_, HJ.out.2⟩
      rw [← HE.out]
      exact HJ.out.1
end Go.Proofs.Ytcfnpbmkcdmafaa
