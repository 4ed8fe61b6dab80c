/-
  The iterator of maps.Keys at the two loose sectors: which keys it hands on.
  Bytes in general: what reads as bytes, append, slices.Clone, cut.
  cut at any bytes.
-/
import Derived.Test.YtdjhfcopnhcljaaGreatDoorW36
import Derived.RangeFuncBox
import Derived.RangeFuncLeaves
import Derived.RangeFuncCalls
import Derived.Shelf.Abstract
import Derived.OwnWalkIn
import Derived.TacticsInMore
import Derived.LoopNIn
import Derived.LoopIn
import Derived.Sort.MapsRangeIn
import Derived.Laws.OwnMore
namespace Go.Proofs.YtdjhfcopnhcljaaGreatDoor
section
open Go Go.RowKit Go.Maps Go.WideMaps Go.Shelf

attribute [local go_sem] Oper.semAt_some

theorem ol2 : OL 2 = .map [(spotK 0 0, .held (.slice none 0 0)), (spotK 0 1, .held (.slice none 0 0))] := by kernel_rfl
theorem ol2_has (z : Lit) : Maps.has (OL 2) z = ((spotK 0 0).sameKey z || (spotK 0 1).sameKey z) := by
  rw [ol2]
  simp [Maps.has]
theorem spot_same {i : Int} {z : Lit} (h : (spotK 0 i).sameKey z = true) : z = spotK 0 i := by
  cases z with
  | string b =>
    have h' : (keyBytes [.int .i64 0, .int .i64 i] == b) = true := h
    rw [beq_iff_eq] at h'
    unfold spotK
    rw [h']
  | _ => cases h
theorem spot_self (i : Int) : (spotK 0 i).sameKey (spotK 0 i) = true := by
  show (keyBytes [.int .i64 0, .int .i64 i] == keyBytes [.int .i64 0, .int .i64 i]) = true
  simp
theorem spot_apart' : (spotK 0 1).sameKey (spotK 0 0) = false := by kernel_rfl
/-- Which of the two sectors have come. -/
def TwoR (left : Lit → Bool) (P : List Nat) : Prop :=
  (P = [] ∧ left = Maps.has (OL 2)) ∨ (∃ i, i < 2 ∧ P = [i] ∧ ∀ z, left z = (Maps.has (OL 2) z && !z.sameKey (spotK 0 i))) ∨ ((P = [0, 1] ∨ P = [1, 0]) ∧ ∀ z, left z = false)
theorem two_end {left : Lit → Bool} {P : List Nat} (h : TwoR left P) (h0 : ∀ z, left z = false) : P = [0, 1] ∨ P = [1, 0] := by
  rcases h with ⟨-, h⟩ | ⟨i, hi, -, h⟩ | ⟨h, -⟩
  · have := h0 (spotK 0 0)
    rw [h, ol2_has, spot_self] at this
    cases this
  · rcases i with _ | _ | i
    · have := h0 (spotK 0 1)
      rw [h, ol2_has, spot_self] at this
      have e : (spotK 0 1).sameKey (spotK 0 ((0 : Nat) : Int)) = false := spot_apart'
      rw [e] at this
      simp at this
    · have := h0 (spotK 0 0)
      rw [h, ol2_has, spot_self] at this
      have e : (spotK 0 0).sameKey (spotK 0 ((0 + 1 : Nat) : Int)) = false := spot_apart
      rw [e] at this
      simp at this
    · omega
  · exact h
theorem two_step {left : Lit → Bool} {P : List Nat} {kl : Lit} (h : TwoR left P) (hl : left kl = true) : ∃ i : Nat, i < 2 ∧ kl = spotK 0 i ∧ P.length < 2 ∧ TwoR (fun z => left z && !z.sameKey kl) (P ++ [i]) := by
  have hk : ∀ z : Lit, Maps.has (OL 2) z = true → ∃ i : Nat, i < 2 ∧ z = spotK 0 i := by
    intro z hz
    rw [ol2_has] at hz
    cases h1 : (spotK 0 0).sameKey z with
    | true => exact ⟨0, by omega, spot_same h1⟩
    | false =>
      rw [h1] at hz
      exact ⟨1, by omega, spot_same hz⟩
  rcases h with ⟨rfl, rfl⟩ | ⟨j, hj, rfl, h⟩ | ⟨-, h⟩
  · obtain ⟨i, hi, rfl⟩ := hk kl hl
    exact ⟨i, hi, rfl, by simp, .inr (.inl ⟨i, hi, rfl, fun z => rfl⟩)⟩
  · rw [h] at hl
    have hl1 : Maps.has (OL 2) kl = true := by cases e : Maps.has (OL 2) kl with | true => rfl | false => rw [e] at hl; cases hl
    rw [hl1, Bool.true_and] at hl
    obtain ⟨i, hi, rfl⟩ := hk kl hl1
    refine ⟨i, hi, rfl, by simp, .inr (.inr ⟨?_, fun z => ?_⟩)⟩
    · have hne : i ≠ j := by
        rintro rfl
        rw [spot_self] at hl
        cases hl
      rcases i with _ | _ | i <;> rcases j with _ | _ | j <;> first | omega | simp
    · have hne : i ≠ j := by
        rintro rfl
        rw [spot_self] at hl
        cases hl
      show (left z && !z.sameKey (spotK 0 i)) = false
      rw [h]
      cases hz : Maps.has (OL 2) z with
      | false => rfl
      | true =>
        obtain ⟨k, hk2, rfl⟩ := hk z hz
        by_cases e : k = j
        · rw [e, spot_self]; rfl
        · have e' : k = i := by omega
          rw [e', spot_self]
          simp
  · rw [h] at hl
    cases hl
theorem ranges_same {P : Program} {k : TypeId} {w w' : World} {b r n : Nat} {D : DataW Value} {left : Lit → Bool} {cnt : Nat} (h : w.ranges P k heldE b r n D left cnt) (hb : ∀ o, w.heap[b]? = some o → w'.heap[b]? = some o) (hr : ∀ o, w.heap[r]? = some o → o.isCells = false → w'.heap[r]? = some o) : w'.ranges P k heldE b r n D left cnt := by
  obtain ⟨es, clock, since, seen, c0, h1, h2, h3, h4, h5, h6⟩ := h
  exact ⟨es, clock, since, seen, c0, hb _ h1, h2, h3, h4, hr _ h5 rfl, h6⟩
theorem ranges_iter {P : Program} {k : TypeId} {w : World} {b r n : Nat} {D : DataW Value} {left : Lit → Bool} {cnt : Nat} (h : w.ranges P k heldE b r n D left cnt) : ∃ o, w.heap[r]? = some o ∧ o.isCells = false := by
  obtain ⟨es, clock, since, seen, c0, h1, h2, h3, h4, h5, h6⟩ := h
  exact ⟨_, h5, rfl⟩
theorem below_newK (W : World) (o : Obj) : Below W.heap.size W (W.alloc o) := (Below.refl _ _).alloc (Nat.le_refl _) _
/-- A sector's number as a value. -/
def spotV (i : Nat) : Value := .agg #[.int .i64 0, .int .i64 (i : Int)]
theorem spot_val {key : Value} {i : Nat} (hi : i < 2) (h : keyOf Tryz.prog 225 key = some (spotK 0 i)) : key = spotV i := keySp.inj h (keyOf_spotk i hi)
/-- What the blocks behind n are that are no cells: they stay. -/
def Stays (n : Nat) (W W' : World) : Prop := ∀ k o, n ≤ k → W.heap[k]? = some o → o.isCells = false → W'.heap[k]? = some o
/-- The loop's state. -/
structure KyR (J : List Nat → World → Prop) (w0 : World) (M r nn : Nat) (left : Lit → Bool) (cnt : Nat) (P : List Nat) (wr : World) : Prop where
  rg : wr.ranges Tryz.prog 225 heldE M r nn (OL 2) left cnt
  two : TwoR left P
  j : J P wr
  below : Below w0.heap.size w0 wr
  lt : r < wr.heap.size
end
section
open Go Go.RowKit Go.Maps Go.WideMaps

/-- Bytes as cells. -/
def BV (l : List UInt8) : List Value := l.map fun x => Value.int .u8 ((x.toNat : Nat) : Int)
theorem bv_len (l : List UInt8) : (BV l).length = l.length := by simp [BV]
theorem bv_app (l m : List UInt8) : BV (l ++ m) = BV l ++ BV m := by simp [BV]
theorem bv_one (l : List UInt8) : ∀ u ∈ BV l, u.oneCell' = true := by
  intro u hu
  obtain ⟨x, -, rfl⟩ := List.mem_map.1 hu
  rfl
theorem bv_at {l : List UInt8} {j : Nat} {u : Value} (h : (BV l)[j]? = some u) : ∃ hj : j < l.length, u = .int .u8 ((l[j].toNat : Nat) : Int) := by
  have hj : j < l.length := by
    have := (List.getElem?_eq_some_iff.1 h).1
    rwa [bv_len] at this
  refine ⟨hj, ?_⟩
  simp only [BV, List.getElem?_map, List.getElem?_eq_getElem hj, Option.map_some, Option.some.injEq] at h
  exact h.symm
/-- The bytes that a file has, in a row from block n on. -/
def OwnF (n : Nat) (w : World) (v : Value) (l : List UInt8) : Prop := w.ownsRow n 5 1 v l.length (BV l)
theorem OwnF.base {n m : Nat} {w : World} {v : Value} {l : List UInt8} (h : OwnF n w v l) (hm : m ≤ n) : OwnF m w v l := own_base h hm
theorem OwnF.grow {S : Nat → Prop} {n : Nat} {w w' : World} {v : Value} {l : List UInt8} (h : OwnF n w v l) (hg : Grow S w w') (hn : ∀ k, v.ownBlock = some k → ¬ S k) : OwnF n w' v l := own_grow h hg hn
theorem OwnF.nil (n : Nat) (w : World) : OwnF n w (.slice none 0 0) [] := World.ownsRow_nil w n _ 1
/-- What reads as bytes, in a block below n. -/
def RdIn (n : Nat) (w : World) (v : Value) (l : List UInt8) : Prop :=
  (l = [] ∧ (v = .slice none 0 0 ∨ ∃ a cap, v = .slice (some a) 0 cap)) ∨
    ∃ b off cap, v = .slice (some ⟨b, off, none⟩) l.length cap ∧ b < n ∧ ∀ j (h : j < l.length), w.cell? ⟨b, off + j, none⟩ = some (.int .u8 ((l[j].toNat : Nat) : Int))
theorem RdIn.grow {S : Nat → Prop} {n : Nat} {w w' : World} {v : Value} {l : List UInt8} (h : RdIn n w v l) (hg : Grow S w w') (hn : n ≤ w.heap.size) (hS : ∀ b off n cap, v = .slice (some ⟨b, off, none⟩) n cap → ¬ S b) : RdIn n w' v l := by
  rcases h with h | ⟨b, off, cap, rfl, hb, hc⟩
  · exact .inl h
  · exact .inr ⟨b, off, cap, rfl, hb, fun j hj => (World.cell?_of_block (a := ⟨b, off + j, none⟩) (hg.block b (by omega) (hS b off _ cap rfl))).trans (hc j hj)⟩
theorem RdIn.same {n : Nat} {w w' : World} {v : Value} {l : List UInt8} (h : RdIn n w v l) (hg : Grow (fun _ => False) w w') (hn : n ≤ w.heap.size) : RdIn n w' v l := h.grow hg hn (fun _ _ _ _ _ e => e)
theorem RdIn.mono {n m : Nat} {w : World} {v : Value} {l : List UInt8} (h : RdIn n w v l) (hm : n ≤ m) : RdIn m w v l := by
  rcases h with h | ⟨b, off, cap, rfl, hb, hc⟩
  · exact .inl h
  · exact .inr ⟨b, off, cap, rfl, by omega, hc⟩
theorem OwnF.form {n : Nat} {w : World} {v : Value} {l : List UInt8} (h : OwnF n w v l) : (l = [] ∧ v = .slice none 0 0) ∨ ∃ b cap, v = .slice (some ⟨b, 0, none⟩) l.length cap ∧ n ≤ b ∧ b < w.heap.size ∧ l.length ≤ cap ∧ cap ≤ maxLen ∧ ∀ j (hj : j < l.length), w.cell? ⟨b, 0 + j, none⟩ = some (.int .u8 ((l[j].toNat : Nat) : Int)) := by
  have hc := fun g (hg : v.ownBlock = some g) => World.ownsRow.cells h (g := g) hg
  rcases h.2 with ⟨rfl, h0⟩ | ⟨g, cap, cur, rfl, hb, hg, h2, h3, -, -⟩
  · exact .inl ⟨List.eq_nil_of_length_eq_zero h0, rfl⟩
  · refine .inr ⟨g, cap, rfl, hb, (Array.getElem?_eq_some_iff.1 hg).1, h2, h3, fun j hj => ?_⟩
    have e := hc g (by simp [Value.ownBlock]) j (.int .u8 ((l[j].toNat : Nat) : Int)) (by simp [BV, hj])
    have a : (⟨g, 0, none⟩ : Addr).add j = ⟨g, j, none⟩ := by unfold Addr.add; split <;> simp_all
    rw [a] at e
    rw [Nat.zero_add]
    exact e
theorem OwnF.read {n : Nat} {w : World} {v : Value} {l : List UInt8} (h : OwnF n w v l) : RdIn w.heap.size w v l := by
  rcases h.form with ⟨h1, h2⟩ | ⟨b, cap, h1, -, h3, -, -, h5⟩
  · exact .inl ⟨h1, .inl h2⟩
  · exact .inr ⟨b, 0, cap, h1, h3, h5⟩
/-- An append of bytes onto a row of the call's own. -/
theorem run_appB {w : World} {n n0 : Nat} (ty : TypeId) {v x : Value} {L l : List UInt8} (hown : OwnF n w v L) (hx : RdIn n0 w x l) (hlen : L.length + l.length ≤ 100000000000000) (hn : n ≤ w.heap.size) :
    ∃ v' w', (Builtin.append_ #[24, 24] ty #[v, x]).run Tryz.prog w = .ok v' w' ∧ OwnF n w' v' (L ++ l) ∧ w.grownBy w' v.ownBlock ∧ (v'.ownBlock = v.ownBlock ∨ v'.ownBlock = some w.heap.size) := by
  obtain ⟨i0, hi, hz0, hz1, hz2⟩ := info_parts infoU8
  have H : ∀ (a : Addr) (cap : Nat), x = .slice (some a) l.length cap → (∀ j u, (BV l)[j]? = some u → w.cell? (a.add j) = some u) →
      ∃ v' w', (Builtin.append_ #[24, 24] ty #[v, x]).run Tryz.prog w = .ok v' w' ∧ OwnF n w' v' (L ++ l) ∧ w.grownBy w' v.ownBlock ∧ (v'.ownBlock = v.ownBlock ∨ v'.ownBlock = some w.heap.size) := by
    rintro a cap rfl hnews
    obtain ⟨v', w', hr, ho, hg, -, hl⟩ := run_append_own_at (P := Tryz.prog) w n 24 ty 5 i0 (.int .u8 0) 1 1 Tryz.underlying24 hi hz0 hz1 hz2 rfl (by decide) v _ _ hown a l.length cap (BV l)
      (by rw [bv_len]; omega) hnews (bv_one l) (by unfold maxLen; omega) (by omega) hn
    refine ⟨v', w', hr, ?_, hg, hl⟩
    unfold OwnF
    rw [List.length_append, bv_app]
    exact ho
  rcases hx with ⟨rfl, rfl | ⟨a, cap, rfl⟩⟩ | ⟨b, off, cap, rfl, hb, hc⟩
  · exact ⟨v, w, run_append_owned_none (P := Tryz.prog) w n _ _ _ i0 1 Tryz.underlying24 hi v _ _ hown, by rw [List.append_nil]; exact hown, World.grownBy.refl w _, .inl rfl⟩
  · exact H a cap rfl (fun j u hu => by simp [BV] at hu)
  · refine H ⟨b, off, none⟩ cap rfl (fun j u hu => ?_)
    obtain ⟨hj, rfl⟩ := bv_at hu
    have a : (⟨b, off, none⟩ : Addr).add j = ⟨b, off + j, none⟩ := by unfold Addr.add; split <;> simp_all
    rw [a]
    exact hc j hj
theorem wpList_appB {ops : Array Oper} {rest : List Oper} {o : Oper} {a : Act} {w : World} {Q : Exit → Act → World → Prop} (hgd : o.guard = none) (s x : Operand)
    (ho : o.op = .call { callee := .builtin .append, args := #[s, x], argTypes := #[24, 24] })
    {n n0 : Nat} {v vx : Value} {L l : List UInt8} (hs : a.eval s = v) (hx : a.eval x = vx) (hown : OwnF n w v L) (hin : RdIn n0 w vx l) (hlen : L.length + l.length ≤ 100000000000000) (hn : n ≤ w.heap.size)
    (h : ∀ v' w', OwnF n w' v' (L ++ l) → w.grownBy w' v.ownBlock → (v'.ownBlock = v.ownBlock ∨ v'.ownBlock = some w.heap.size) → wpList Tryz.prog ops Q rest (a.put o.dst v') w') : wpList Tryz.prog ops Q (o :: rest) a w := by
  refine wpList_plain hgd fun K hK => ?_
  obtain ⟨v', w', hr, h2, h3, h4⟩ := run_appB o.type hown hin hlen hn
  unfold Oper.wp execOp
  simp only [ho, resolve, invoke, builtin, Sem.run_bind, Sem.run_pure, Result.andThen_ok, List.map_toArray, List.map_cons, List.map_nil, hs, hx, hr]
  exact hK _ _ (h v' w' h2 h3 h4)
set_option maxRecDepth 100000 in
set_option maxHeartbeats 2000000 in
theorem cloneB_some (w : World) (a : Addr) (cap : Nat) (l : List UInt8) (h : RdIn w.heap.size w (.slice (some a) l.length cap) l) (hl : l.length ≤ 1000000) :
    Calls Tryz.prog 131 #[.slice (some a) l.length cap] w fun e w' => ∃ v, e = .returned v ∧ OwnF w.heap.size w' v l ∧ Grow (fun _ => False) w w' := by
  have q := fun W : World => Lib.run_eql_slice_nil W 24 5 (some a) l.length cap 0 0 Tryz.underlying24
  have HR := Lib.hid (h.same ((Grow.refl _ w).alloc (.cells #[] 5)) (Nat.le_refl _))
  have HO := Lib.hid (show OwnF w.heap.size (w.alloc (.cells #[] 5)) (.slice (some ⟨w.heap.size, 0, none⟩) 0 0) [] from World.ownsRow_made w #[] 0 (Nat.le_refl _) (by decide) rfl)
  have hl2 : ([] : List UInt8).length + l.length ≤ 100000000000000 := by simp; omega
  have hn : w.heap.size ≤ (w.alloc (.cells #[] 5)).heap.size := by simp
  clear h
  go_enter Tryz.func131, Tryz.ntmps131
  go_wp2_with (at_builtin; refine wpList_appB rfl (.tmp 5) (.tmp 6) rfl rfl rfl HO.out HR.out hl2 hn ?_; intro v5 w5 how5 hgr5 hlo5)
  have HEnd := Lib.hid (And.intro (show OwnF w.heap.size w5 v5 l from how5) (((Grow.refl (fun _ => False) w).alloc (.cells #[] 5)).grownNew (r := w.heap.size) hgr5 (Nat.le_refl _)))
  clear how5 hgr5 hlo5
  go_ret
  exact ⟨v5, by simp, HEnd.out.1, HEnd.out.2⟩
theorem cloneB_any (w : World) (v : Value) (l : List UInt8) (h : RdIn w.heap.size w v l) (hl : l.length ≤ 1000000) :
    Calls Tryz.prog 131 #[v] w fun e w' => ∃ v', e = .returned v' ∧ OwnF w.heap.size w' v' l ∧ Grow (fun _ => False) w w' := by
  have h' := h
  rcases h with ⟨rfl, rfl | ⟨a, cap, rfl⟩⟩ | ⟨b, off, cap, rfl, hb, hc⟩
  · refine (cloneB_nil w).mono ?_
    rintro e w' ⟨rfl, rfl⟩
    exact ⟨_, rfl, OwnF.nil _ _, Grow.refl _ _⟩
  · exact cloneB_some w a cap [] h' hl
  · exact cloneB_some w ⟨b, off, none⟩ cap l h' hl
end
section
open Go Go.RowKit Go.Maps Go.WideMaps

set_option maxRecDepth 100000 in
theorem cut_out (w : World) (b cap n i : Nat) (hc : n ≤ cap) (hm : cap ≤ maxLen) (hn : n ≤ 1000000) (hi : i ≤ 100000) (h : n ≤ i * 64) : Says 158 #[.slice (some ⟨b, 0, none⟩) n cap, .int .i64 (i : Int)] w (.slice (some ⟨b, 0, none⟩) 0 0) := by
  unfold maxLen at hm
  have h1 : (n : Int) ≤ (cap : Int) := by omega
  have h2 : (cap : Int) ≤ 9223372036854775807 := by omega
  have h3 : (n : Int) ≤ (i : Int) * 64 := by omega
  have h4 : (i : Int) ≤ 100000 := by omega
  have h5 : (0 : Int) ≤ (i : Int) := by omega
  have h6 : (0 : Int) ≤ (n : Int) := by omega
  have h7 : (n : Int) ≤ 1000000 := by omega
  go_enter Tryz.func158, Tryz.ntmps158
  go_wp2_with fail
  · go_ret
    exact ⟨rfl, rfl⟩
  · have e : n - ((i : Int) * 64).toNat = 0 := by omega
    go_ret
    rw [e]
    exact ⟨rfl, rfl⟩
set_option maxRecDepth 100000 in
theorem cut_in (w : World) (b cap n i : Nat) (hc : n ≤ cap) (hm : cap ≤ maxLen) (hn : n ≤ 1000000) (hi : i ≤ 100000) (h : i * 64 < n) (h' : n ≤ i * 64 + 64) : Says 158 #[.slice (some ⟨b, 0, none⟩) n cap, .int .i64 (i : Int)] w (.slice (some ⟨b, i * 64, none⟩) (n - i * 64) (n - i * 64)) := by
  unfold maxLen at hm
  have h1 : (n : Int) ≤ (cap : Int) := by omega
  have h2 : (cap : Int) ≤ 9223372036854775807 := by omega
  have h3 : (i : Int) * 64 < (n : Int) := by omega
  have h3' : (n : Int) ≤ (i : Int) * 64 + 64 := by omega
  have h4 : (i : Int) ≤ 100000 := by omega
  have h5 : (0 : Int) ≤ (i : Int) := by omega
  have h6 : (0 : Int) ≤ (n : Int) := by omega
  have h7 : (n : Int) ≤ 1000000 := by omega
  go_enter Tryz.func158, Tryz.ntmps158
  go_wp2_with fail
  · go_ret
    exact ⟨rfl, rfl⟩
  · go_ret
    have e2 : ((i : Int) * 64 + 64).toNat = n := by omega
    exact ⟨by rw [e2]; rfl, rfl⟩
set_option maxRecDepth 100000 in
theorem cut_mid (w : World) (b cap n i : Nat) (hc : n ≤ cap) (hm : cap ≤ maxLen) (hn : n ≤ 1000000) (hi : i ≤ 100000) (h : i * 64 + 64 < n) : Says 158 #[.slice (some ⟨b, 0, none⟩) n cap, .int .i64 (i : Int)] w (.slice (some ⟨b, i * 64, none⟩) 64 64) := by
  unfold maxLen at hm
  have h1 : (n : Int) ≤ (cap : Int) := by omega
  have h2 : (cap : Int) ≤ 9223372036854775807 := by omega
  have h3 : (i : Int) * 64 + 64 < (n : Int) := by omega
  have h4 : (i : Int) ≤ 100000 := by omega
  have h5 : (0 : Int) ≤ (i : Int) := by omega
  have h6 : (0 : Int) ≤ (n : Int) := by omega
  have h7 : (n : Int) ≤ 1000000 := by omega
  go_enter Tryz.func158, Tryz.ntmps158
  go_wp2_with fail
  go_ret
  have e : i * 64 + 64 - i * 64 = 64 := by omega
  exact ⟨by rw [e]; rfl, rfl⟩
/-- A sector's bytes. -/
def sec (l : List UInt8) (i : Nat) : List UInt8 := (l.drop (i * 64)).take 64
theorem sec_len (l : List UInt8) (i : Nat) : (sec l i).length ≤ 64 := by unfold sec; simp; omega
/-- cut, as a value: where it lies. -/
def cutV (b n i : Nat) : Value := if n ≤ i * 64 then .slice (some ⟨b, 0, none⟩) 0 0 else .slice (some ⟨b, i * 64, none⟩) (min 64 (n - i * 64)) (min 64 (n - i * 64))
theorem cut_some (w : World) (b cap n i : Nat) (hc : n ≤ cap) (hm : cap ≤ maxLen) (hn : n ≤ 1000000) (hi : i ≤ 100000) : Says 158 #[.slice (some ⟨b, 0, none⟩) n cap, .int .i64 (i : Int)] w (cutV b n i) := by
  unfold cutV
  by_cases h : n ≤ i * 64
  · rw [if_pos h]
    exact cut_out w b cap n i hc hm hn hi h
  · rw [if_neg h]
    by_cases h' : n ≤ i * 64 + 64
    · rw [show min 64 (n - i * 64) = n - i * 64 by omega]
      exact cut_in w b cap n i hc hm hn hi (by omega) h'
    · rw [show min 64 (n - i * 64) = 64 by omega]
      exact cut_mid w b cap n i hc hm hn hi (by omega)
theorem cutV_read {n0 : Nat} {w : World} {b cap : Nat} {l : List UInt8} (i : Nat) (h : OwnF n0 w (.slice (some ⟨b, 0, none⟩) l.length cap) l) : RdIn w.heap.size w (cutV b l.length i) (sec l i) := by
  rcases h.form with ⟨-, h2⟩ | ⟨b', cap', h1, -, h3, -, -, h5⟩
  · cases h2
  injection h1 with h1 _ _
  injection h1 with h1
  injection h1 with h1 _ _
  subst h1
  unfold cutV
  by_cases h : l.length ≤ i * 64
  · rw [if_pos h]
    refine .inl ⟨?_, .inr ⟨_, _, rfl⟩⟩
    unfold sec
    rw [List.drop_eq_nil_of_le h]
    rfl
  · rw [if_neg h]
    have hl : (sec l i).length = min 64 (l.length - i * 64) := by unfold sec; rw [List.length_take, List.length_drop]
    refine .inr ⟨b, i * 64, min 64 (l.length - i * 64), by rw [hl], h3, fun j hj => ?_⟩
    have e := h5 (i * 64 + j) (by omega)
    rw [Nat.zero_add] at e
    rw [e]
    have e2 : (sec l i)[j] = l[i * 64 + j]'(by omega) := by simp [sec]
    rw [e2]
/-- cut of a file's bytes, whatever they are. -/
theorem cut_any {n0 : Nat} {w : World} {v : Value} {l : List UInt8} (i : Nat) (h : OwnF n0 w v l) (hl : l.length ≤ 1000000) (hi : i ≤ 100000) : ∃ v', Says 158 #[v, .int .i64 (i : Int)] w v' ∧ RdIn w.heap.size w v' (sec l i) := by
  rcases h.form with ⟨rfl, rfl⟩ | ⟨b, cap, rfl, -, -, h4, h5, -⟩
  · exact ⟨_, cut_nil w i hi, .inl ⟨by simp [sec], .inl rfl⟩⟩
  · exact ⟨_, cut_some w b cap l.length i h4 h5 hl hi, cutV_read i h⟩
end
end Go.Proofs.YtdjhfcopnhcljaaGreatDoor
