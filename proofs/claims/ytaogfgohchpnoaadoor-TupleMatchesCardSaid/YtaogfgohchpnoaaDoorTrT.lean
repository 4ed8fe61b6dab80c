/-
  The document's put: a tuple into a rising row.
-/
import Derived.Test.YtaogfgohchpnoaaDoorTrG
import Derived.Deep.RegionHeld3
namespace Go.Proofs.YtaogfgohchpnoaaDoor
open Go Go.RowKit

/-- A frame into which a value has been put, laid out anew: one name for all the steps. -/
theorem put_normT : (∀ (t : Array Value) (ds : List Deferred) (d : Tmp) (v : Value), (⟨t, ds⟩ : Act).put (some d) v = ⟨t.setIfInBounds d v, ds⟩) ∧ (∀ (a : Act) (v : Value), a.put none v = a) ∧ (∀ (l : List Value) (i : Nat) (v : Value), l.toArray.setIfInBounds i v = (l.set i v).toArray) ∧
    (∀ (l : List Value) (x v : Value), (x :: l).set 0 v = v :: l) ∧ (∀ (l : List Value) (x v : Value) (n : Nat), (x :: l).set (n + 1) v = x :: l.set n v) ∧
    (∀ (l : List Bool) (i : Nat) (v : Bool), l.toArray.setIfInBounds i v = (l.set i v).toArray) ∧ (∀ (l : List Bool) (x v : Bool), (x :: l).set 0 v = v :: l) ∧ (∀ (l : List Bool) (x v : Bool) (n : Nat), (x :: l).set (n + 1) v = x :: l.set n v) :=
  ⟨fun _ _ _ _ => rfl, fun _ _ => rfl, fun l i v => List.setIfInBounds_toArray l i v, fun _ _ _ => rfl, fun _ _ _ _ => rfl, fun l i v => List.setIfInBounds_toArray l i v, fun _ _ _ => rfl, fun _ _ _ _ => rfl⟩
/-- One operation that yields in every world that is held, taken first; the frame behind it laid out. -/
theorem take1T {P : Program} {ops : Array Oper} {Q : Exit → Act → World → Prop} {md : Region.Mode} {S : World → Prop} (i d : Nat) {oi : Oper} {v : Value} {fuel : Nat} {listed : Array Bool} {a a' : Act} {W : World} (hi : ops[i]? = some oi) (hd : oi.dst = some d)
    (hs : Region.noSelect ops = true) (hf : Region.free md ops listed i = true) (hr : (Region.ready md ops listed).contains i = true)
    (hQ : ∀ c a w, Q (.panic c) (a.put oi.dst v) w → Q (.panic c) a w) (hw : Region.wanted oi (yielded ops a.tmps) = true) (hy : ∀ w, S w → (execOp a.eval oi).run P w = .ok (.value v) w) (hS : S W)
    (ha : a.put (some d) v = a') (h : wpAnyH P md ops Q S fuel (listed.setIfInBounds i true) a' W) : wpAnyH P md ops Q S (fuel + 1) listed a W :=
  wpAnyH_take hi hs hf hr hQ (.inl ⟨hw, hy⟩) hS (by rw [hd, ha]; exact h)
/-- A row of slice values that is read. -/
def RdRow (w : World) (v : Value) (Y : List Value) : Prop :=
  ∃ p c, v = .slice p Y.length c ∧ (Y = [] ∨ ∃ b off, p = some ⟨b, off, none⟩ ∧ ∀ j u, Y[j]? = some u → w.cell? ⟨b, off + j, none⟩ = some u) ∧ ∀ u ∈ Y, u.oneCell' = true
theorem run_append_nilT (w : World) (B : Nat) (ty : TypeId) (v : Value) (xs : List Value) (hown : w.ownsRow B 33 1 v xs.length xs) (c : Nat) : (Builtin.append_ #[22, 22] ty #[v, .slice none 0 c]).run Tryd.prog w = .ok v w := by
  obtain ⟨i0, hi, -, -, -⟩ := info_parts Tryd.infoTup
  rcases hown.2 with ⟨rfl, -⟩ | ⟨g, cap, cur, rfl, -, -, hnc, -⟩
  · simp [Builtin.append_, run_underlying Tryd.underlying22, sizeOf, typeInfo, hi, Builtin.lenOf, Builtin.firstCells]
  · simp [Builtin.append_, run_underlying Tryd.underlying22, sizeOf, typeInfo, hi, Builtin.lenOf, Builtin.firstCells, hnc, storeCells]
/-- An append of a row onto a row of the call's own. -/
theorem run_appRows (w : World) (B : Nat) (ty : TypeId) (v vx : Value) (xs Y : List Value) (hown : w.ownsRow B 33 1 v xs.length xs) (hin : RdRow w vx Y) (hl : xs.length + Y.length ≤ 1000000) (hB : B ≤ w.heap.size) :
    ∃ v' w', (Builtin.append_ #[22, 22] ty #[v, vx]).run Tryd.prog w = .ok v' w' ∧ w'.ownsRow B 33 1 v' (xs ++ Y).length (xs ++ Y) ∧ w.grownBy w' v.ownBlock ∧ (v'.ownBlock = v.ownBlock ∨ v'.ownBlock = some w.heap.size) := by
  obtain ⟨i0, hi, hz0, hz1, hz2⟩ := info_parts Tryd.infoTup
  obtain ⟨p, c, rfl, hc, h1⟩ := hin
  have some_ : ∀ ad, p = some ad → (∀ j u, Y[j]? = some u → w.cell? (ad.add j) = some u) → ∃ v' w', (Builtin.append_ #[22, 22] ty #[v, .slice p Y.length c]).run Tryd.prog w = .ok v' w' ∧ w'.ownsRow B 33 1 v' (xs ++ Y).length (xs ++ Y) ∧ w.grownBy w' v.ownBlock ∧ (v'.ownBlock = v.ownBlock ∨ v'.ownBlock = some w.heap.size) := by
    rintro ad rfl hcell
    obtain ⟨v', w', hr, ho, hg, -, hb⟩ := run_append_own_at (P := Tryd.prog) w B 22 ty 33 i0 (.slice none 0 0) 1 24 Tryd.underlying22 hi hz0 hz1 hz2 rfl (by decide) v _ _ hown ad Y.length c Y
      (by simp) hcell h1 (by unfold maxLen; omega) (by omega) hB
    exact ⟨v', w', hr, by rw [List.length_append]; exact ho, hg, hb⟩
  rcases hc with rfl | ⟨b, off, rfl, hc⟩
  · rcases p with _ | ad
    · exact ⟨v, w, run_append_nilT w B ty v xs hown c, by rw [List.append_nil]; exact hown, World.grownBy.refl w _, .inl rfl⟩
    · exact some_ ad rfl fun j u hu => by simp at hu
  · exact some_ _ rfl fun j u hu => by
      have hadd : (⟨b, off, none⟩ : Addr).add j = ⟨b, off + j, none⟩ := by unfold Addr.add; split <;> simp_all
      rw [hadd]
      exact hc j u hu
/-- The same at a step of a region that draws its order. -/
theorem step_appRows {w : World} {ops : Array Oper} {o : Oper} {a : Act} {K : Act → World → Prop} {Q : Exit → Act → World → Prop} {E : Prop} (hgd : o.guard = none) (s x : Operand)
    (ho : o.op = .call { callee := .builtin .append, args := #[s, x], argTypes := #[22, 22] })
    (B : Nat) (v vx : Value) (xs Y : List Value) (hs : a.eval s = v) (hx : a.eval x = vx) (hown : w.ownsRow B 33 1 v xs.length xs) (hin : RdRow w vx Y) (hl : xs.length + Y.length ≤ 1000000) (hB : B ≤ w.heap.size)
    (h : ∀ v' w', w'.ownsRow B 33 1 v' (xs ++ Y).length (xs ++ Y) → w.grownBy w' v.ownBlock → (v'.ownBlock = v.ownBlock ∨ v'.ownBlock = some w.heap.size) → K (a.put o.dst v') w') : if Region.wanted o (yielded ops a.tmps) = true then Oper.wp Tryd.prog o a w K Q else E := by
  have hw : Region.wanted o (yielded ops a.tmps) = true := by simp [Region.wanted, hgd]
  rw [if_pos hw]
  obtain ⟨v', w', hr, h2, h3, h4⟩ := run_appRows w B o.type v vx xs Y hown hin hl hB
  unfold Oper.wp execOp
  simp only [ho, resolve, invoke, builtin, Sem.run_bind, Sem.run_pure, Result.andThen_ok, List.map_toArray, List.map_cons, List.map_nil, hs, hx, hr]
  exact h v' w' h2 h3 h4
/-- The box of a tuple beside a row of one's own. -/
def BxT (tv : Value) (bx : Nat) (v : Value) (W : World) : Prop := v.ownBlock ≠ some bx ∧ bx < W.heap.size ∧ W.heap[bx]? = some (.cells #[tv] 33)
theorem BxT.app {tv v v' : Value} {bx : Nat} {W W' : World} (h : BxT tv bx v W) (hg : W.grownBy W' v.ownBlock) (hb : v'.ownBlock = v.ownBlock ∨ v'.ownBlock = some W.heap.size) : BxT tv bx v' W' := by
  obtain ⟨h1, h2, h3⟩ := h
  refine ⟨?_, Nat.lt_of_lt_of_le h2 hg.size, (hg.block bx h2 h1.symm).trans h3⟩
  rcases hb with e | e
  · rw [e]; exact h1
  · rw [e]; intro e'; injection e' with e'; omega
theorem BxT.rd {tv v : Value} {bx : Nat} {W : World} (h : BxT tv bx v W) (h1 : tv.oneCell' = true) : RdRow W (.slice (some ⟨bx, 0, none⟩) 1 1) [tv] := by
  refine ⟨_, 1, rfl, .inr ⟨bx, 0, rfl, fun j u hu => ?_⟩, fun u hu => by simp at hu; subst hu; exact h1⟩
  match j, hu with
  | 0, hu =>
    simp at hu
    subst hu
    rw [cell_of_row _ bx 0 _ _ (0, 0) h.2.2]
    rfl
/-- A row that is read, with room enough to be cut. -/
def RowsCap (n : Nat) (w : World) (v : Value) (P : List (Value × List V3)) : Prop := RowsIn n w v P ∧ ∃ a cap, v = .slice a P.length cap ∧ P.length ≤ cap ∧ cap ≤ maxLen
/-- What put leaves. -/
def PutEnd (w : World) (P : List (Value × List V3)) (T : List V3) (e : Ending) (w' : World) : Prop :=
  ∃ (v' : Value) (P' : List (Value × List V3)), e = .returned v' ∧ RowsCap w'.heap.size w' v' P' ∧ P'.map (·.2) = insT (P.map (·.2)) T ∧ Below w.heap.size w w'
theorem rd_take {w W : World} {a : Option Addr} {m cap n : Nat} {P : List (Value × List V3)} (h : RowsIn w.heap.size w (.slice a m cap) P) (hb : Below w.heap.size w W) (hn : n ≤ P.length) : RdRow W (.slice a n cap) ((P.take n).map (·.1)) := by
  have h1 : ∀ u ∈ (P.take n).map (·.1), u.oneCell' = true := fun u hu => by
    obtain ⟨x, hx, rfl⟩ := List.mem_map.1 hu
    obtain ⟨_, _, -, -, -, ha⟩ := h
    exact vals_one ha _ (List.mem_map.2 ⟨x, List.mem_of_mem_take hx, rfl⟩)
  refine ⟨a, cap, by simp [Nat.min_eq_left hn], ?_, h1⟩
  by_cases h0 : n = 0
  · subst h0; exact .inl rfl
  · obtain ⟨b, off, rfl, -, -⟩ := h.elem hb (k := 0) (by omega)
    refine .inr ⟨b, off, rfl, fun j u hu => ?_⟩
    obtain ⟨hj, rfl⟩ := List.getElem?_eq_some_iff.1 hu
    have hj' : j < n := by simp at hj; omega
    obtain ⟨b', o', e, hc, -⟩ := h.elem hb (k := j) (by omega)
    injection e with e
    injection e with e e'
    subst e e'
    rw [hc]
    simp
theorem rd_drop {w W : World} {a : Option Addr} {m cap n : Nat} {P : List (Value × List V3)} (h : RowsIn w.heap.size w (.slice a m cap) P) (hb : Below w.heap.size w W) (hc : P.length ≤ cap) : RdRow W (.slice (if cap = n then a else Option.map (fun x => x.add n) a) (P.length - n) (cap - n)) ((P.drop n).map (·.1)) := by
  have h1 : ∀ u ∈ (P.drop n).map (·.1), u.oneCell' = true := fun u hu => by
    obtain ⟨x, hx, rfl⟩ := List.mem_map.1 hu
    obtain ⟨_, _, -, -, -, ha⟩ := h
    exact vals_one ha _ (List.mem_map.2 ⟨x, List.mem_of_mem_drop hx, rfl⟩)
  refine ⟨if cap = n then a else Option.map (fun x => x.add n) a, cap - n, by simp, ?_, h1⟩
  by_cases h0 : P.length ≤ n
  · exact .inl (by rw [List.drop_eq_nil_of_le h0]; rfl)
  · obtain ⟨b, off, rfl, -, -⟩ := h.elem hb (k := 0) (by omega)
    have hadd : (⟨b, off, none⟩ : Addr).add n = ⟨b, off + n, none⟩ := by unfold Addr.add; split <;> simp_all
    rw [if_neg (by omega), Option.map_some, hadd]
    refine .inr ⟨b, off + n, rfl, fun j u hu => ?_⟩
    obtain ⟨hj, rfl⟩ := List.getElem?_eq_some_iff.1 hu
    have hj' : n + j < P.length := by simp at hj; omega
    obtain ⟨b', o', e, hc, -⟩ := h.elem hb (k := n + j) hj'
    injection e with e
    injection e with e e'
    subst e e'
    rw [Nat.add_assoc, hc]
    simp
theorem put_fin {w w' : World} {v' tv : Value} {P : List (Value × List V3)} {T : List V3} {n : Nat} (h : AllIn w.heap.size w P) (ht : TupIn w.heap.size w tv T) (hn : insT (P.map (·.2)) T = (P.map (·.2)).take n ++ [T] ++ (P.map (·.2)).drop n) (hlen : P.length ≤ 1000)
    (ho : w'.ownsRow w.heap.size 33 1 v' (([] : List Value) ++ (P.take n).map (fun x : Value × List V3 => x.1) ++ [tv] ++ (P.drop n).map (fun x : Value × List V3 => x.1)).length (([] : List Value) ++ (P.take n).map (fun x : Value × List V3 => x.1) ++ [tv] ++ (P.drop n).map (fun x : Value × List V3 => x.1))) (hb : Below w.heap.size w w') : PutEnd w P T (.returned v') w' := by
  have e1 : ([] : List Value) ++ (P.take n).map (fun x : Value × List V3 => x.1) ++ [tv] ++ (P.drop n).map (fun x : Value × List V3 => x.1) = (P.take n ++ [(tv, T)] ++ P.drop n).map (·.1) := by simp
  have e2 : insT (P.map (·.2)) T = (P.take n ++ [(tv, T)] ++ P.drop n).map (·.2) := by rw [hn]; simp
  have hl : (P.take n ++ [(tv, T)] ++ P.drop n).length ≤ 1000000 := by
    simp
    omega
  rw [e1, List.length_map] at ho
  have hall : ∀ x ∈ P.take n ++ [(tv, T)] ++ P.drop n, TupIn w.heap.size w x.1 x.2 := by
    intro x hx
    rcases List.mem_append.1 hx with hx | hx
    · rcases List.mem_append.1 hx with hx | hx
      · exact h x (List.mem_of_mem_take hx)
      · obtain rfl := List.mem_singleton.1 hx
        exact ht
    · exact h x (List.mem_of_mem_drop hx)
  generalize P.take n ++ [(tv, T)] ++ P.drop n = P' at ho e2 hl hall
  have hp : 0 < P'.length := by
    have := congrArg List.length e2
    rw [hn] at this
    simp at this
    omega
  obtain ⟨g, c, rfl⟩ := own_form ho hp
  refine ⟨_, P', rfl, ⟨⟨_, c, rfl, hl, .inr ⟨g, 0, rfl, (ho.lt g rfl).2, fun j hj => ?_⟩, fun x hx => ((hall x hx).below hb).mono hb.size⟩, _, c, rfl, ?_⟩, e2.symm, hb⟩
  · rw [Nat.zero_add, ho.cellAt j (by omega)]
    simp [hj]
  · rcases ho.2 with ⟨e, -⟩ | ⟨g', c', cur, e, -, -, h1, h2, -⟩
    · simp at e
    · injection e with _ _ e
      subst e
      exact ⟨h1, h2⟩
set_option maxHeartbeats 4000000 in
set_option maxRecDepth 100000 in
theorem put_any (v tv : Value) (P : List (Value × List V3)) (T : List V3) (w : World) (h : RowsCap w.heap.size w v P) (ht : TupIn w.heap.size w tv T) (hlen : P.length ≤ 1000) :
    Calls Tryd.prog 53 #[v, tv] w (PutEnd w P T) := by
  have HR := Lib.hid h.1
  have HT := Lib.hid ht
  have HP := Lib.hid (rplace_any v tv P T w h.1 ht)
  obtain ⟨-, a, cap, rfl, hc1, hc2⟩ := h
  obtain ⟨pt, ct, rfl, -, -⟩ := ht
  unfold maxLen at hc2
  go_enter Tryd.func53, Tryd.ntmps53
  go_wp2_with fail
  refine HP.out.mono ?_
  rintro e w1 ⟨rfl, hb1⟩
  have HB := Lib.hid hb1
  clear hb1
  cases hI : plI (P.map (·.2)) T with
  | true =>
    go_wp2_with fail
    go_ret
    exact ⟨_, P, rfl, ⟨(HR.out.below HB.out).mono HB.out.size, a, cap, rfl, hc1, hc2⟩, by unfold insT; rw [if_pos hI], HB.out⟩
  | false =>
    have HN := Lib.hid (show insT (P.map (·.2)) T = (P.map (·.2)).take (plN (P.map (·.2)) T) ++ [T] ++ (P.map (·.2)).drop (plN (P.map (·.2)) T) by unfold insT; rw [hI]; rfl)
    have hn := plN_le (P.map (·.2)) T
    rw [List.length_map] at hn
    clear hI
    generalize plN (P.map (·.2)) T = n at hn HN ⊢
    have n1 : (n : Int) ≤ (P.length : Int) := by omega
    have n2 : (n : Int) ≤ (cap : Int) := by omega
    have n3 : (0 : Int) ≤ (n : Int) := by omega
    have n4 : (P.length : Int) ≤ (cap : Int) := by omega
    go_wp2_with fail
    refine wp_region_held_drew (S := fun _ => True) (by kernel_rfl) trivial (fun _ => ?_)
    iterate 1
      refine take1T 1 16 (v := ?_) rfl rfl (by kernel_rfl) (by kernel_rfl) (by kernel_rfl) (fun _ _ _ h => h) (by kernel_rfl) ?_ trivial (by first | (simp only [put_normT]; exact rfl) | exact rfl) ?_
      rotate_left
      · intro W _; go_simp; try (with_reducible rfl)
      refine take1T 2 17 (v := ?_) rfl rfl (by kernel_rfl) (by kernel_rfl) (by kernel_rfl) (fun _ _ _ h => h) (by kernel_rfl) ?_ trivial (by first | (simp only [put_normT]; exact rfl) | exact rfl) ?_
      rotate_left
      · intro W _; go_simp; try (with_reducible rfl)
      refine take1T 5 20 (v := ?_) rfl rfl (by kernel_rfl) (by kernel_rfl) (by kernel_rfl) (fun _ _ _ h => h) (by kernel_rfl) ?_ trivial (by first | (simp only [put_normT]; exact rfl) | exact rfl) ?_
      rotate_left
      · intro W _; go_simp; try (with_reducible rfl)
      refine take1T 8 23 (v := ?_) rfl rfl (by kernel_rfl) (by kernel_rfl) (by kernel_rfl) (fun _ _ _ h => h) (by kernel_rfl) ?_ trivial (by first | (simp only [put_normT]; exact rfl) | exact rfl) ?_
      rotate_left
      · intro W _; go_simp; try (with_reducible rfl)
      refine take1T 9 24 (v := ?_) rfl rfl (by kernel_rfl) (by kernel_rfl) (by kernel_rfl) (fun _ _ _ h => h) (by kernel_rfl) ?_ trivial (by first | (simp only [put_normT]; exact rfl) | exact rfl) ?_
      rotate_left
      · intro W _; go_simp; try (with_reducible rfl)
    refine take1T 3 18 (v := ?_) rfl rfl (by kernel_rfl) (by kernel_rfl) (by kernel_rfl) (fun _ _ _ h => h) (by kernel_rfl) ?_ trivial (by first | (simp only [put_normT]; exact rfl) | exact rfl) ?_
    rotate_left
    · intro W _; go_simp; try (with_reducible rfl)
    refine take1T 10 25 (v := ?_) rfl rfl (by kernel_rfl) (by kernel_rfl) (by kernel_rfl) (fun _ _ _ h => h) (by kernel_rfl) ?_ trivial (by first | (simp only [put_normT]; exact rfl) | exact rfl) ?_
    rotate_left
    · intro W _; go_simp; try (with_reducible rfl)
    obtain ⟨va, hva⟩ : ∃ va, va = Value.slice a n cap := ⟨_, rfl⟩
    obtain ⟨vb, hvb⟩ : ∃ vb, vb = Value.slice (if cap = n then a else Option.map (fun x => x.add n) a) (P.length - n) (cap - n) := ⟨_, rfl⟩
    rw [← hva, ← hvb]
    have HA := Lib.hid (show ∀ W, Below w.heap.size w W → RdRow W va ((P.take n).map (·.1)) from fun W hb => by rw [hva]; exact rd_take HR.out hb hn)
    have HD := Lib.hid (show ∀ W, Below w.heap.size w W → RdRow W vb ((P.drop n).map (·.1)) from fun W hb => by rw [hvb]; exact rd_drop HR.out hb hc1)
    have HL := Lib.hid (show ((P.take n).map (·.1)).length + 1 + ((P.drop n).map (·.1)).length ≤ 1000000 by simp; omega)
    obtain ⟨wd, hwd⟩ : ∃ wd, wd = w1.drew := ⟨_, rfl⟩
    have HBd := Lib.hid (show Below w.heap.size w wd by rw [hwd]; exact HB.out.drew)
    rw [← hwd]
    clear hwd
    have hall : AllIn w.heap.size w P := by obtain ⟨_, _, -, -, -, ha⟩ := HR.out; exact ha
    have HF := Lib.hid (show ∀ v' w', w'.ownsRow w.heap.size 33 1 v' (([] : List Value) ++ (P.take n).map (fun x : Value × List V3 => x.1) ++ [Value.slice pt T.length ct] ++ (P.drop n).map (fun x : Value × List V3 => x.1)).length (([] : List Value) ++ (P.take n).map (fun x : Value × List V3 => x.1) ++ [Value.slice pt T.length ct] ++ (P.drop n).map (fun x : Value × List V3 => x.1)) → Below w.heap.size w w' → PutEnd w P T (.returned v') w' from fun v' w' ho hb => put_fin hall HT.out HN.out hlen ho hb)
    clear hva hvb hall
    generalize (P.take n).map (·.1) = Xa at HA HL HF
    generalize (P.drop n).map (·.1) = Xb at HD HL HF
    have HBl := Lib.hid (show ∀ (o : Obj) (W : World), Below w.heap.size w W → Below w.heap.size w (W.alloc o) from fun o W h => h.trans ((below_new W o).mono h.size))
    refine wpAnyH_ready (rs := [0, 6]) (by kernel_rfl) (by simp) ?_
    refine AllReadyH.cons rfl (fun K hK => ?_) (AllReadyH.cons rfl (fun K hK => ?_) (AllReadyH.nil))
    · go_simp
      have HB1 := Lib.hid (HBl.out (.cells #[] 33) _ HBd.out)
      have HO1 : Hid ((wd.alloc (.cells #[] 33)).ownsRow w.heap.size 33 1 (.slice (some ⟨wd.heap.size, 0, none⟩) 0 0) ([] : List Value).length []) := Lib.hid (World.ownsRow_lit (base := w.heap.size) (e := 33) (size := 1) wd #[] 0 HBd.out.size (by decide) rfl)
      refine hK.out _ _ trivial (fun _ => ?_)
      clear hK K
      refine wpAnyH_ready (rs := [4, 6]) (by kernel_rfl) (by simp) ?_
      refine AllReadyH.cons rfl (fun K hK => ?_) (AllReadyH.cons rfl (fun K hK => ?_) (AllReadyH.nil))
      · skip
        refine step_appRows rfl (.tmp 15) (.tmp 18) rfl w.heap.size (.slice (some ⟨wd.heap.size, 0, none⟩) 0 0) va ([] : List Value) Xa rfl rfl HO1.out (HA.out _ HB1.out) (by have := HL.out; simp; omega) HB1.out.size ?_
        intro v4 w4 r1 r2 r3
        have HB4 := Lib.hid (HB1.out.grown r2 HB1.out.size (fun k hk => (HO1.out.lt k hk).1))
        have HO4 := Lib.hid r1
        clear r1 r2 r3
        refine hK.out _ _ trivial (fun _ => ?_)
        clear hK K
        refine wpAnyH_ready (rs := [6]) (by kernel_rfl) (by simp) ?_
        refine AllReadyH.cons rfl (fun K hK => ?_) (AllReadyH.nil)
        go_simp
        have HB6 := Lib.hid (HBl.out (.cells #[.slice pt T.length ct] 33) _ HB4.out)
        have HO6 := Lib.hid (World.ownsRow.alloc HO4.out (.cells #[.slice pt T.length ct] 33))
        have HX6 : Hid (BxT (.slice pt T.length ct) w4.heap.size v4 (w4.alloc (.cells #[.slice pt T.length ct] 33))) := Lib.hid ⟨fun e => by have := (HO4.out.lt _ e).2; omega, by simp, heap_alloc_new w4 _⟩
        refine hK.out _ _ trivial (fun _ => ?_)
        clear hK K
        refine wpAnyH_ready (rs := [7]) (by kernel_rfl) (by simp) ?_
        refine AllReadyH.cons rfl (fun K hK => ?_) (AllReadyH.nil)
        refine step_appRows rfl (.tmp 19) (.tmp 21) rfl w.heap.size v4 (.slice (some ⟨w4.heap.size, 0, none⟩) 1 1) (([] : List Value) ++ Xa) [Value.slice pt T.length ct] rfl rfl HO6.out (HX6.out.rd rfl) (by have := HL.out; simp; omega) HB6.out.size ?_
        intro v7 w7 r1 r2 r3
        have HB7 := Lib.hid (HB6.out.grown r2 HB6.out.size (fun k hk => (HO6.out.lt k hk).1))
        have HO7 := Lib.hid r1
        clear r1 r2 r3
        refine hK.out _ _ trivial (fun _ => ?_)
        clear hK K
        refine wpAnyH_ready (rs := [11]) (by kernel_rfl) (by simp) ?_
        refine AllReadyH.cons rfl (fun K hK => ?_) (AllReadyH.nil)
        refine step_appRows rfl (.tmp 22) (.tmp 25) rfl w.heap.size v7 vb (([] : List Value) ++ Xa ++ [Value.slice pt T.length ct]) Xb rfl rfl HO7.out (HD.out _ HB7.out) (by have := HL.out; simp; omega) HB7.out.size ?_
        intro v8 w8 r1 r2 r3
        have HB8 := Lib.hid (HB7.out.grown r2 HB7.out.size (fun k hk => (HO7.out.lt k hk).1))
        have HE := Lib.hid (HF.out v8 w8 r1 HB8.out)
        clear r1 r2 r3
        refine hK.out _ _ trivial (fun _ => ?_)
        clear hK K
        refine take1T 12 4 (v := ?_) rfl rfl (by kernel_rfl) (by kernel_rfl) (by kernel_rfl) (fun _ _ _ h => h) (by kernel_rfl) ?_ trivial (by first | (simp only [put_normT]; exact rfl) | exact rfl) ?_
        rotate_left
        · intro W _; go_simp; try (with_reducible rfl)
        refine wpAnyH_done (by kernel_rfl) ?_ _
        go_wp2_with fail
        go_ret
        exact HE.out
      · go_simp
        have HB6 := Lib.hid (HBl.out (.cells #[.slice pt T.length ct] 33) _ HB1.out)
        have HO6 := Lib.hid (World.ownsRow.alloc HO1.out (.cells #[.slice pt T.length ct] 33))
        have HX6 : Hid (BxT (.slice pt T.length ct) (wd.heap.size + 1) (.slice (some ⟨wd.heap.size, 0, none⟩) 0 0) ((wd.alloc (.cells #[] 33)).alloc (.cells #[.slice pt T.length ct] 33))) := Lib.hid ⟨by simp [Value.ownBlock], by simp, by have := heap_alloc_new (wd.alloc (.cells #[] 33)) (.cells #[.slice pt T.length ct] 33); simpa using this⟩
        refine hK.out _ _ trivial (fun _ => ?_)
        clear hK K
        refine wpAnyH_ready (rs := [4]) (by kernel_rfl) (by simp) ?_
        refine AllReadyH.cons rfl (fun K hK => ?_) (AllReadyH.nil)
        refine step_appRows rfl (.tmp 15) (.tmp 18) rfl w.heap.size (.slice (some ⟨wd.heap.size, 0, none⟩) 0 0) va ([] : List Value) Xa rfl rfl HO6.out (HA.out _ HB6.out) (by have := HL.out; simp; omega) HB6.out.size ?_
        intro v4 w4 r1 r2 r3
        have HB4 := Lib.hid (HB6.out.grown r2 HB6.out.size (fun k hk => (HO6.out.lt k hk).1))
        have HO4 := Lib.hid r1
        have HX4 := Lib.hid (HX6.out.app r2 r3)
        clear r1 r2 r3
        refine hK.out _ _ trivial (fun _ => ?_)
        clear hK K
        refine wpAnyH_ready (rs := [7]) (by kernel_rfl) (by simp) ?_
        refine AllReadyH.cons rfl (fun K hK => ?_) (AllReadyH.nil)
        refine step_appRows rfl (.tmp 19) (.tmp 21) rfl w.heap.size v4 (.slice (some ⟨wd.heap.size + 1, 0, none⟩) 1 1) (([] : List Value) ++ Xa) [Value.slice pt T.length ct] rfl rfl HO4.out (HX4.out.rd rfl) (by have := HL.out; simp; omega) HB4.out.size ?_
        intro v7 w7 r1 r2 r3
        have HB7 := Lib.hid (HB4.out.grown r2 HB4.out.size (fun k hk => (HO4.out.lt k hk).1))
        have HO7 := Lib.hid r1
        clear r1 r2 r3
        refine hK.out _ _ trivial (fun _ => ?_)
        clear hK K
        refine wpAnyH_ready (rs := [11]) (by kernel_rfl) (by simp) ?_
        refine AllReadyH.cons rfl (fun K hK => ?_) (AllReadyH.nil)
        refine step_appRows rfl (.tmp 22) (.tmp 25) rfl w.heap.size v7 vb (([] : List Value) ++ Xa ++ [Value.slice pt T.length ct]) Xb rfl rfl HO7.out (HD.out _ HB7.out) (by have := HL.out; simp; omega) HB7.out.size ?_
        intro v8 w8 r1 r2 r3
        have HB8 := Lib.hid (HB7.out.grown r2 HB7.out.size (fun k hk => (HO7.out.lt k hk).1))
        have HE := Lib.hid (HF.out v8 w8 r1 HB8.out)
        clear r1 r2 r3
        refine hK.out _ _ trivial (fun _ => ?_)
        clear hK K
        refine take1T 12 4 (v := ?_) rfl rfl (by kernel_rfl) (by kernel_rfl) (by kernel_rfl) (fun _ _ _ h => h) (by kernel_rfl) ?_ trivial (by first | (simp only [put_normT]; exact rfl) | exact rfl) ?_
        rotate_left
        · intro W _; go_simp; try (with_reducible rfl)
        refine wpAnyH_done (by kernel_rfl) ?_ _
        go_wp2_with fail
        go_ret
        exact HE.out
    · go_simp
      have HB1 := Lib.hid (HBl.out (.cells #[.slice pt T.length ct] 33) _ HBd.out)
      refine hK.out _ _ trivial (fun _ => ?_)
      clear hK K
      refine wpAnyH_ready (rs := [0]) (by kernel_rfl) (by simp) ?_
      refine AllReadyH.cons rfl (fun K hK => ?_) (AllReadyH.nil)
      go_simp
      have HB6 := Lib.hid (HBl.out (.cells #[] 33) _ HB1.out)
      have HO6 : Hid (((wd.alloc (.cells #[.slice pt T.length ct] 33)).alloc (.cells #[] 33)).ownsRow w.heap.size 33 1 (.slice (some ⟨wd.heap.size + 1, 0, none⟩) 0 0) ([] : List Value).length []) := Lib.hid (by have := World.ownsRow_lit (base := w.heap.size) (e := 33) (size := 1) (wd.alloc (.cells #[.slice pt T.length ct] 33)) #[] 0 HB1.out.size (by decide) rfl; simpa using this)
      have HX6 : Hid (BxT (.slice pt T.length ct) wd.heap.size (.slice (some ⟨wd.heap.size + 1, 0, none⟩) 0 0) ((wd.alloc (.cells #[.slice pt T.length ct] 33)).alloc (.cells #[] 33))) := Lib.hid ⟨by simp [Value.ownBlock], by simp; omega, (Below.heap_alloc _ _ _ (by simp)).trans (heap_alloc_new wd _)⟩
      refine hK.out _ _ trivial (fun _ => ?_)
      clear hK K
      refine wpAnyH_ready (rs := [4]) (by kernel_rfl) (by simp) ?_
      refine AllReadyH.cons rfl (fun K hK => ?_) (AllReadyH.nil)
      refine step_appRows rfl (.tmp 15) (.tmp 18) rfl w.heap.size (.slice (some ⟨wd.heap.size + 1, 0, none⟩) 0 0) va ([] : List Value) Xa rfl rfl HO6.out (HA.out _ HB6.out) (by have := HL.out; simp; omega) HB6.out.size ?_
      intro v4 w4 r1 r2 r3
      have HB4 := Lib.hid (HB6.out.grown r2 HB6.out.size (fun k hk => (HO6.out.lt k hk).1))
      have HO4 := Lib.hid r1
      have HX4 := Lib.hid (HX6.out.app r2 r3)
      clear r1 r2 r3
      refine hK.out _ _ trivial (fun _ => ?_)
      clear hK K
      refine wpAnyH_ready (rs := [7]) (by kernel_rfl) (by simp) ?_
      refine AllReadyH.cons rfl (fun K hK => ?_) (AllReadyH.nil)
      refine step_appRows rfl (.tmp 19) (.tmp 21) rfl w.heap.size v4 (.slice (some ⟨wd.heap.size, 0, none⟩) 1 1) (([] : List Value) ++ Xa) [Value.slice pt T.length ct] rfl rfl HO4.out (HX4.out.rd rfl) (by have := HL.out; simp; omega) HB4.out.size ?_
      intro v7 w7 r1 r2 r3
      have HB7 := Lib.hid (HB4.out.grown r2 HB4.out.size (fun k hk => (HO4.out.lt k hk).1))
      have HO7 := Lib.hid r1
      clear r1 r2 r3
      refine hK.out _ _ trivial (fun _ => ?_)
      clear hK K
      refine wpAnyH_ready (rs := [11]) (by kernel_rfl) (by simp) ?_
      refine AllReadyH.cons rfl (fun K hK => ?_) (AllReadyH.nil)
      refine step_appRows rfl (.tmp 22) (.tmp 25) rfl w.heap.size v7 vb (([] : List Value) ++ Xa ++ [Value.slice pt T.length ct]) Xb rfl rfl HO7.out (HD.out _ HB7.out) (by have := HL.out; simp; omega) HB7.out.size ?_
      intro v8 w8 r1 r2 r3
      have HB8 := Lib.hid (HB7.out.grown r2 HB7.out.size (fun k hk => (HO7.out.lt k hk).1))
      have HE := Lib.hid (HF.out v8 w8 r1 HB8.out)
      clear r1 r2 r3
      refine hK.out _ _ trivial (fun _ => ?_)
      clear hK K
      refine take1T 12 4 (v := ?_) rfl rfl (by kernel_rfl) (by kernel_rfl) (by kernel_rfl) (fun _ _ _ h => h) (by kernel_rfl) ?_ trivial (by first | (simp only [put_normT]; exact rfl) | exact rfl) ?_
      rotate_left
      · intro W _; go_simp; try (with_reducible rfl)
      refine wpAnyH_done (by kernel_rfl) ?_ _
      go_wp2_with fail
      go_ret
      exact HE.out
end Go.Proofs.YtaogfgohchpnoaaDoor
