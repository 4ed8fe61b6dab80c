/-
  slices.Index and slices.Contains at sides.
-/
import Derived.Test.YtaogfgohchpnoaaDoorTsM
import Derived.Test.YtaogfgohchpnoaaDoorTrO
namespace Go.Proofs.YtaogfgohchpnoaaDoor
section
open Go Go.RowKit

/-- A row of sides that is read. -/
def SidesIn (n : Nat) (w : World) (v : Value) (S : List Int) : Prop :=
  ∃ b off cap, v = .slice (some ⟨b, off, none⟩) S.length cap ∧ S.length ≤ 1000 ∧ b < n ∧ ∀ j (h : j < S.length), w.cell? ⟨b, off + j, none⟩ = some (.int .i64 S[j])
theorem SidesIn.below {n : Nat} {w w' : World} {v : Value} {S : List Int} (h : SidesIn n w v S) (hb : Below n w w') : SidesIn n w' v S := by
  obtain ⟨b, off, cap, rfl, h0, h1, h2⟩ := h
  exact ⟨b, off, cap, rfl, h0, h1, fun j hj => (hb.cell (p := ⟨b, off + j, none⟩) h1).trans (h2 j hj)⟩
/-- Where a side stands first. -/
def sideAt : List Int → Int → Int → Int
  | [], _, _ => -1
  | x :: r, s, k => if s = x then k else sideAt r s (k + 1)
theorem sideAt_has : ∀ (S : List Int) (s k : Int), 0 ≤ k → (decide (0 ≤ sideAt S s k) = S.contains s)
  | [], s, k, _ => by simp [sideAt]
  | x :: r, s, k, h => by
    unfold sideAt
    by_cases e : s = x
    · simp [e, h]
    · rw [if_neg e, sideAt_has r s (k + 1) (by omega)]
      simp [e]
theorem sideAt_drop {S : List Int} {s : Int} {i : Nat} (h : i < S.length) : sideAt (S.drop i) s i = if s = S[i] then (i : Int) else sideAt (S.drop (i + 1)) s ((i + 1 : Nat) : Int) := by
  rw [List.drop_eq_getElem_cons h]
  rfl
set_option maxHeartbeats 1000000 in
set_option maxRecDepth 100000 in
theorem index_any (n : Nat) (v : Value) (S : List Int) (s : Int) (w : World) (h : SidesIn n w v S) :
    Calls Tryd.prog 68 #[v, .int .i64 s] w fun e w' => e = .returned (.int .i64 (sideAt S s 0)) ∧ w' = w := by
  obtain ⟨b, off, cap, rfl, hl, -, hc⟩ := h
  have HC := Lib.hid hc
  clear hc
  go_enter Tryd.func68, Tryd.ntmps68
  go_wp2_with fail
  go_loopw [8] (fun i wr => ∃ k : Nat, k ≤ S.length ∧ i = .int .i64 k ∧ Hid (sideAt S s 0 = sideAt (S.drop k) s k) ∧ wr = w) (fun i _ => S.length - (intOf i).toNat)
  case atStart => exact ⟨0, Nat.zero_le _, rfl, Lib.hid rfl, rfl⟩
  case round =>
    obtain ⟨k, hk, rfl, hE, rfl⟩ := hrel
    have h0 : (0 : Int) ≤ (k : Int) := by omega
    by_cases hlt : k < S.length
    · have hlt' : (k : Int) < (S.length : Int) := by omega
      have hx := HC.out k hlt
      have HD := Lib.hid (sideAt_drop (s := s) hlt)
      generalize S[k] = x at hx HD
      by_cases e : s = x
      · have HF := Lib.hid (show sideAt S s 0 = (k : Int) by rw [hE.out, HD.out, if_pos e])
        subst e
        clear HD
        go_wp2_with fail
        go_ret
        exact ⟨by rw [HF.out]; rfl, rfl⟩
      · have HF := Lib.hid (show sideAt S s 0 = sideAt (S.drop (k + 1)) s ((k + 1 : Nat) : Int) by rw [hE.out, HD.out, if_neg e])
        have e' : (s == x) = false := by simp [e]
        go_wp2_with fail
        go_roundw
        case rel => exact ⟨k + 1, by omega, by go_num, HF, trivial⟩
        case measure => simp [intOf]; omega
    · have hlt' : (S.length : Int) ≤ (k : Int) := by omega
      obtain rfl : k = S.length := by omega
      have HF := Lib.hid (show sideAt S s 0 = -1 by rw [hE.out, List.drop_length]; rfl)
      go_wp2_with fail
      go_ret
      exact ⟨by rw [HF.out]; rfl, rfl⟩
set_option maxHeartbeats 1000000 in
set_option maxRecDepth 100000 in
theorem contains_any (n : Nat) (v : Value) (S : List Int) (s : Int) (w : World) (h : SidesIn n w v S) :
    Calls Tryd.prog 51 #[v, .int .i64 s] w fun e w' => e = .returned (.bool (S.contains s)) ∧ w' = w := by
  have HI := Lib.hid (index_any n v S s w h)
  have HE := Lib.hid (sideAt_has S s 0 (Int.le_refl _))
  obtain ⟨b, off, cap, rfl, hl, -, -⟩ := h
  go_enter Tryd.func51, Tryd.ntmps51
  go_wp2_with fail
  refine HI.out.mono ?_
  rintro e w1 ⟨rfl, rfl⟩
  go_wp2_with fail
  go_ret
  exact ⟨by rw [← HE.out]; rfl, rfl⟩
end
section
open Go Go.RowKit Go.Shelf

attribute [local go_sem] Oper.semAt_some

theorem keepO {W X : World} {k : Nat} {o : Obj} {row : Option Nat} (h : W.heap[k]? = some o) (hg : W.grownBy X row) (hne : some k ≠ row) : X.heap[k]? = some o :=
  (hg.block k (Array.getElem?_eq_some_iff.1 h).1 hne).trans h
theorem ownsRow_keep {W X : World} {b : Nat} {e : TypeId} {s : Nat} {v : Value} {n : Nat} {xs : List Value} {row : Option Nat} (h : W.ownsRow b e s v n xs) (hg : W.grownBy X row) (hr : ∀ r, row = some r → ∀ ys, W.heap[r]? ≠ some (.cells ys e (0, 0))) : X.ownsRow b e s v n xs := by
  refine h.kept hg ?_
  rcases h.2 with ⟨rfl, _⟩ | ⟨g, cap, cur, rfl, _, hgb, _⟩
  · exact .inl rfl
  · exact .inr fun e' => hr g e'.symm _ hgb
theorem ownsRow_apart {W : World} {b : Nat} {e : TypeId} {s : Nat} {v : Value} {n : Nat} {xs : List Value} {k : Nat} {o : Obj} (h : W.ownsRow b e s v n xs) (hk : W.heap[k]? = some o) (ho : ∀ ys, o ≠ .cells ys e (0, 0)) : some k ≠ v.ownBlock := by
  intro e'
  rcases h.2 with ⟨rfl, _⟩ | ⟨g, cap, cur, rfl, _, hgb, _⟩
  · cases e'
  · cases e'
    rw [hk] at hgb
    cases hgb
    exact ho cur rfl
/-- Five blocks laid one behind another. -/
theorem allocs5 (w : World) (o1 o2 o3 o4 o5 : Obj) : ∃ w2, w2 = ((((w.alloc o1).alloc o2).alloc o3).alloc o4).alloc o5 ∧ w2.heap.size = w.heap.size + 5 ∧ w2.heap[w.heap.size + 1 + 1]? = some o3 ∧ w2.heap[w.heap.size + 1 + 1 + 1]? = some o4 ∧ w2.heap[w.heap.size + 1 + 1 + 1 + 1]? = some o5 ∧ Below w.heap.size w w2 := by
  refine ⟨_, rfl, by simp, ?_, ?_, ?_, ?_⟩
  · exact (Below.heap_alloc _ _ _ (by simp)).trans ((Below.heap_alloc _ _ _ (by simp)).trans (by have := heap_alloc_new ((w.alloc o1).alloc o2) o3; simpa using this))
  · exact (Below.heap_alloc _ _ _ (by simp)).trans (by have := heap_alloc_new (((w.alloc o1).alloc o2).alloc o3) o4; simpa using this)
  · have := heap_alloc_new ((((w.alloc o1).alloc o2).alloc o3).alloc o4) o5
    simpa using this
  · exact (((((Below.refl _ _).alloc (Nat.le_refl _) _).alloc (by simp) _).alloc (by simp; omega) _).alloc (by simp; omega) _).alloc (by simp; omega) _
/-- The box of a list. -/
def LBox (W : World) (B : Nat) (v : Value) : Prop := W.heap[B]? = some (.cells #[.func (.func 48) #[] #[], v] 58 (0, 0))
/-- What has been picked of what was told. -/
def pickT (S : List Int) (P : List (List V3 × Int)) : List (List V3) := (P.filter fun p => S.contains p.2).map (·.1)
theorem pickT_in {S : List Int} {P : List (List V3 × Int)} {T : List V3} {s : Int} (h : S.contains s = true) : pickT S (P ++ [(T, s)]) = pickT S P ++ [T] := by
  unfold pickT
  rw [List.filter_append, List.filter_cons, if_pos h, List.map_append]
  rfl
theorem pickT_out {S : List Int} {P : List (List V3 × Int)} {T : List V3} {s : Int} (h : S.contains s = false) : pickT S (P ++ [(T, s)]) = pickT S P := by
  unfold pickT
  rw [List.filter_append, List.filter_cons, if_neg (by simp only [h]; decide), List.map_append]
  simp
/-- What the range keeps. -/
structure PkJ (w0 : World) (B5 B6 B7 Bm l D : Nat) (sv va : Value) (S : List Int) (r : Loop) (P : List (List V3 × Int)) (W : World) : Prop where
  rows : ∃ (v : Value) (Q : List (Value × List V3)), LBox W B7 v ∧ W.ownsRow w0.heap.size 33 1 v Q.length (Q.map (·.1)) ∧ Q.map (·.2) = pickT S P ∧ AllIn w0.heap.size W Q ∧ Q.length ≤ P.length
  sides : W.heap[B5]? = some (.cells #[sv] 77 (0, 0))
  mbox : LBox W Bm va
  res : W.heap[B6]? = some (.cells #[.nilFunc, .slice none 0 0] 58 (0, 0))
  loop : W.heap[l]? = some (.loop r)
  defs : W.heap[D]? = some (.deferred (some []))
  below : Below w0.heap.size w0 W
theorem PkJ.keep {w0 : World} {B5 B6 B7 Bm l D : Nat} {sv va : Value} {S : List Int} {r : Loop} {P : List (List V3 × Int)} {A C : World} (h : PkJ w0 B5 B6 B7 Bm l D sv va S r P A) (hb : Below A.heap.size A C) : PkJ w0 B5 B6 B7 Bm l D sv va S r P C := by
  obtain ⟨⟨v, Q, h1, h2, h3, h4, h4'⟩, h5, hm, h6, h7, h8, h9⟩ := h
  have k : ∀ {k : Nat} {o : Obj}, A.heap[k]? = some o → C.heap[k]? = some o := fun h => (hb.block _ (Array.getElem?_eq_some_iff.1 h).1).trans h
  exact ⟨⟨v, Q, k h1, own_below h2 hb, h3, h4.below (hb.mono h9.size), h4'⟩, k h5, k hm, k h6, k h7, k h8, h9.trans (hb.mono h9.size)⟩
theorem PkJ.put {w0 : World} {B5 B6 B7 Bm l D : Nat} {sv va : Value} {S : List Int} {r : Loop} {P : List (List V3 × Int)} {A : World} (h : PkJ w0 B5 B6 B7 Bm l D sv va S r P A) (r' : Loop) (hl : w0.heap.size ≤ l) : PkJ w0 B5 B6 B7 Bm l D sv va S r' P (A.putObj l (.loop r')) := by
  obtain ⟨⟨v, Q, h1, h2, h3, h4, h4'⟩, h5, hm, h6, h7, h8, h9⟩ := h
  have hg := grownBy_putObj' A l (.loop r')
  have hb : Below w0.heap.size A (A.putObj l (.loop r')) := (Below.refl _ _).grown hg h9.size (fun k e => by cases e; exact hl)
  have k : ∀ {k : Nat} {o : Obj}, (∀ r, o ≠ .loop r) → A.heap[k]? = some o → (A.putObj l (.loop r')).heap[k]? = some o := fun hne h => keepO h hg (fun e => by cases e; rw [h7] at h; cases h; exact hne _ rfl)
  refine ⟨⟨v, Q, k (fun r => by intro e; cases e) h1, ownsRow_keep h2 hg (fun r e ys => ?_), h3, h4.below hb, h4'⟩, k (fun r => by intro e; cases e) h5, k (fun r => by intro e; cases e) hm, k (fun r => by intro e; cases e) h6, World.putObj_heap_same (Array.getElem?_eq_some_iff.1 h7).1, k (fun r => by intro e; cases e) h8, h9.trans hb⟩
  cases e
  intro e
  rw [h7] at e
  cases e
/-- A round that picks nothing. -/
theorem PkJ.skip {w0 : World} {B5 B6 B7 Bm l D : Nat} {sv va : Value} {S : List Int} {r : Loop} {P : List (List V3 × Int)} {A : World} {T : List V3} {s : Int} (h : PkJ w0 B5 B6 B7 Bm l D sv va S r P A) (hs : S.contains s = false) : PkJ w0 B5 B6 B7 Bm l D sv va S r (P ++ [(T, s)]) A := by
  obtain ⟨⟨v, Q, h1, h2, h3, h4, h4'⟩, h5, hm, h6, h7, h8, h9⟩ := h
  exact ⟨⟨v, Q, h1, h2, by rw [h3, pickT_out hs], h4, by rw [List.length_append]; omega⟩, h5, hm, h6, h7, h8, h9⟩
theorem LBox.cells {W : World} {B : Nat} {v : Value} (h : LBox W B v) : W.cell? ⟨B, 0, none⟩ = some (.func (.func 48) #[] #[]) ∧ W.cell? ⟨B, 1, none⟩ = some v ∧ W.frozen? ⟨B, 1, none⟩ = false :=
  ⟨by rw [cell_of_row W B 0 _ _ (0, 0) h]; rfl, by rw [cell_of_row W B 1 _ _ (0, 0) h]; rfl, frozen_of_row W B 1 _ _ h⟩
theorem LBox.set {W : World} {B : Nat} {v : Value} (h : LBox W B v) (u : Value) : LBox (W.setCell ⟨B, 1, none⟩ u) B u := by
  exact heap_setCell_same W B 1 _ _ u h
/-- A round that picks: behind the append and the store. -/
theorem PkJ.step {w0 W3 w5 : World} {B5 B6 B7 Bm l D : Nat} {sv va : Value} {S : List Int} {r : Loop} {P : List (List V3 × Int)} {T : List V3} {s : Int} {vv v5 u : Value} {Q : List (Value × List V3)} (hJ : PkJ w0 B5 B6 B7 Bm l D sv va S r P W3) (hvv : LBox W3 B7 vv) (ho : W3.ownsRow w0.heap.size 33 1 vv Q.length (Q.map (·.1)))
    (hm : Q.map (·.2) = pickT S P) (ha : AllIn w0.heap.size W3 Q) (hlq : Q.length ≤ P.length) (hg : W3.grownBy w5 vv.ownBlock) (ho5 : w5.ownsRow w0.heap.size 33 1 v5 (Q.map (·.1) ++ [u]).length (Q.map (·.1) ++ [u])) (hu : TupIn w0.heap.size W3 u T) (hs : S.contains s = true) (h7 : w0.heap.size ≤ B7) (h57 : B5 ≠ B7) (h67 : B6 ≠ B7) (hm7 : Bm ≠ B7) :
    LBox w5 B7 vv ∧ PkJ w0 B5 B6 B7 Bm l D sv va S r (P ++ [(T, s)]) (w5.setCell ⟨B7, 1, none⟩ v5) ∧ Below w0.heap.size W3 (w5.setCell ⟨B7, 1, none⟩ v5) := by
  have k7 : LBox w5 B7 vv := keepO hvv hg (ownsRow_apart ho hvv (fun ys => by intro e; cases e))
  have k5 := keepO hJ.sides hg (ownsRow_apart ho hJ.sides (fun ys => by intro e; cases e))
  have km := keepO hJ.mbox hg (ownsRow_apart ho hJ.mbox (fun ys => by intro e; cases e))
  have k6 := keepO hJ.res hg (ownsRow_apart ho hJ.res (fun ys => by intro e; cases e))
  have kl := keepO hJ.loop hg (ownsRow_apart ho hJ.loop (fun ys => by intro e; cases e))
  have kd := keepO hJ.defs hg (ownsRow_apart ho hJ.defs (fun ys => by intro e; cases e))
  have hset : ∀ {k : Nat} {o : Obj}, w5.heap[k]? = some o → k ≠ B7 → (w5.setCell ⟨B7, 1, none⟩ v5).heap[k]? = some o := fun h hne => (heap_setCell_other w5 ⟨B7, 1, none⟩ _ v5 hne).trans h
  have b5 : Below w0.heap.size W3 w5 := (Below.refl _ _).grown hg hJ.below.size (fun j e => (ho.lt j e).1)
  have b7 : Below w0.heap.size W3 (w5.setCell ⟨B7, 1, none⟩ v5) := b5.setCell (p := ⟨B7, 1, none⟩) h7 _
  have s7 := k7.set v5
  have o7 : (w5.setCell ⟨B7, 1, none⟩ v5).ownsRow w0.heap.size 33 1 v5 (Q.map (·.1) ++ [u]).length (Q.map (·.1) ++ [u]) := by
    refine own_other ho5 B7 1 v5 fun e => ?_
    exact ownsRow_apart ho5 k7 (fun ys => by intro e; cases e) e.symm
  refine ⟨k7, ⟨⟨v5, Q ++ [(u, T)], s7, by simpa using o7, by rw [List.map_append, hm, pickT_in hs]; rfl, ?_, by simp; exact hlq⟩, hset k5 h57, hset km hm7, hset k6 h67, hset kl (fun e => by rw [e, show w5.heap[B7]? = _ from k7] at kl; cases kl), hset kd (fun e => by rw [e, show w5.heap[B7]? = _ from k7] at kd; cases kd), hJ.below.trans b7⟩, b7⟩
  intro x hx
  rcases List.mem_append.1 hx with h | h
  · exact (ha x h).below b7
  · obtain rfl := List.mem_singleton.1 h
    exact hu.below b7
end
section
open Go Go.RowKit Go.Shelf

attribute [local go_sem] Oper.semAt_some

/-- What pick leaves. -/
def PickEnd (w : World) (S : List Int) (A B : List (Value × List V3)) (e : Ending) (w' : World) : Prop :=
  ∃ (v : Value) (Q : List (Value × List V3)), e = .returned (.agg #[.func (.func 48) #[] #[], v]) ∧ RowsC w'.heap.size w' v Q ∧ Q.map (·.2) = pickL S (A.map (·.2)) (B.map (·.2)) ∧ Below w.heap.size w w'
set_option maxHeartbeats 400000 in
set_option maxRecDepth 100000 in
theorem merge_call (va vb : Value) (w : World) :
    Calls Tryd.prog 50 #[.agg #[.func (.func 48) #[] #[], va], .agg #[.func (.func 48) #[] #[], vb]] w fun e w' =>
      e = .returned (.func (.func 67) #[] #[.pointer (some ⟨w.heap.size, 0, none⟩), .pointer (some ⟨w.heap.size + 1, 0, none⟩)]) ∧
        (w.alloc (.cells #[.func (.func 48) #[] #[], va] 58)).alloc (.cells #[.func (.func 48) #[] #[], vb] 58) = w' := by
  go_enter Tryd.func50, Tryd.ntmps50
  go_wp2_with fail
  go_ret
  exact ⟨rfl, rfl⟩
/-- An append of one tuple to a row of one's own, inside a fence. -/
theorem wpListIn_appOne {F : Fence} {f : Nat} {ops : Array Oper} {rest : List Oper} {o : Oper} {a : Act} {w : World} {Q : Exit → Act → World → Prop} (hgd : o.guard = none) (s x : Operand)
    (ho : o.op = .call { callee := .builtin .append, args := #[s, x], argTypes := #[22, 22] })
    (B : Nat) (v : Value) (xs : List Value) (u : Value) (bx : Nat) (hs : a.eval s = v) (hx : a.eval x = .slice (some ⟨bx, 0, none⟩) 1 1) (hown : w.ownsRow B 33 1 v xs.length xs) (hc : w.cell? ⟨bx, 0, none⟩ = some u) (h1 : u.oneCell' = true) (hl : xs.length ≤ 999999) (hB : B ≤ w.heap.size)
    (h : ∀ v' w', w'.ownsRow B 33 1 v' (xs ++ [u]).length (xs ++ [u]) → w.grownBy w' v.ownBlock → wpListIn F f Tryd.prog ops Q rest (a.put o.dst v') w') : wpListIn F f Tryd.prog ops Q (o :: rest) a w := by
  refine wpListIn_plain hgd fun K hK => ?_
  have hrd : RdRow w (.slice (some ⟨bx, 0, none⟩) 1 1) [u] := ⟨_, 1, rfl, .inr ⟨bx, 0, rfl, fun j y hj => by
    match j, hj with
    | 0, hj => simp at hj; subst hj; exact hc⟩, fun y hy => by simp at hy; subst hy; exact h1⟩
  obtain ⟨v', w', hr, h2, h3, h4⟩ := run_appRows w B o.type v _ xs [u] hown hrd (by simp; omega) hB
  unfold Oper.wpIn
  refine ⟨?_, ?_⟩
  · simp [Oper.about, ho, resolve, Target.leads, Sem.run_pure]
  · rw [Oper.semAt_plain F _ _ (by rw [ho]; intro c hc'; cases hc')]
    simp [execOp, ho, resolve, invoke, builtin, hs, hx, hr, Result.andThen]
    exact hK _ _ (h v' w' h2 h3)
theorem rows_own {n : Nat} {w : World} {v : Value} {P : List (Value × List V3)} (ho : w.ownsRow n 33 1 v P.length (P.map (·.1))) (hl : P.length ≤ 1000000) (ha : AllIn w.heap.size w P) : RowsC w.heap.size w v P := by
  rcases ho.2 with ⟨rfl, h0⟩ | ⟨g, cap, cur, rfl, -, -, c1, c2, -⟩
  · obtain rfl := List.length_eq_zero_iff.1 h0
    exact ⟨⟨none, 0, rfl, hl, .inl rfl, ha⟩, fun _ _ _ _ h => absurd rfl h⟩
  · refine ⟨⟨_, cap, rfl, hl, .inr ⟨g, 0, rfl, (ho.lt g rfl).2, fun j hj => ?_⟩, ha⟩, fun a m c e _ => by injection e with e1 e2 e3; subst e2 e3; exact ⟨c1, c2⟩⟩
    rw [Nat.zero_add, ho.cellAt j (by omega), List.getElem?_map, List.getElem?_eq_getElem hj]
    rfl
/-- What pick ends with. -/
theorem PkJ.fin {w0 W : World} {B5 B6 B7 Bm l D : Nat} {sv va v : Value} {S : List Int} {r : Loop} {P : List (List V3 × Int)} {Q : List (Value × List V3)} (hJ : PkJ w0 B5 B6 B7 Bm l D sv va S r P W) (ho : W.ownsRow w0.heap.size 33 1 v Q.length (Q.map (·.1)))
    (_hm : Q.map (·.2) = pickT S P) (ha : AllIn w0.heap.size W Q) (hl : Q.length ≤ 1000000) (h6 : w0.heap.size ≤ B6) (hD : w0.heap.size ≤ D) :
    ((W.setCell ⟨B6, 0, none⟩ (.func (.func 48) #[] #[])).setCell ⟨B6, 1, none⟩ v).heap[D]? = some (.deferred (some [])) ∧
    (((W.setCell ⟨B6, 0, none⟩ (.func (.func 48) #[] #[])).setCell ⟨B6, 1, none⟩ v).putObj D (.deferred none)).cell? ⟨B6, 0, none⟩ = some (.func (.func 48) #[] #[]) ∧
    (((W.setCell ⟨B6, 0, none⟩ (.func (.func 48) #[] #[])).setCell ⟨B6, 1, none⟩ v).putObj D (.deferred none)).cell? ⟨B6, 1, none⟩ = some v ∧
    RowsC (((W.setCell ⟨B6, 0, none⟩ (.func (.func 48) #[] #[])).setCell ⟨B6, 1, none⟩ v).putObj D (.deferred none)).heap.size (((W.setCell ⟨B6, 0, none⟩ (.func (.func 48) #[] #[])).setCell ⟨B6, 1, none⟩ v).putObj D (.deferred none)) v Q ∧
    Below w0.heap.size w0 (((W.setCell ⟨B6, 0, none⟩ (.func (.func 48) #[] #[])).setCell ⟨B6, 1, none⟩ v).putObj D (.deferred none)) := by
  have k0 := hJ.res
  have s1 := heap_setCell_same W B6 0 _ _ (.func (.func 48) #[] #[]) k0
  obtain ⟨W1, hW1⟩ : ∃ W1, W1 = W.setCell ⟨B6, 0, none⟩ (.func (.func 48) #[] #[]) := ⟨_, rfl⟩
  have n6 : D ≠ B6 := fun e => by have := hJ.defs; rw [e, k0] at this; cases this
  have d1 : W1.heap[D]? = some (.deferred (some [])) := by rw [hW1]; exact (heap_setCell_other W ⟨B6, 0, none⟩ _ _ n6).trans hJ.defs
  have o1 : W1.ownsRow w0.heap.size 33 1 v Q.length (Q.map (·.1)) := by rw [hW1]; exact own_other ho B6 0 _ fun e => ownsRow_apart ho k0 (fun ys => by intro e; cases e) e.symm
  have b1 : Below w0.heap.size W W1 := by rw [hW1]; exact (Below.refl _ _).setCell (p := ⟨B6, 0, none⟩) h6 _
  rw [← hW1] at s1 ⊢
  clear hW1
  have s2 := heap_setCell_same W1 B6 1 _ _ v s1
  obtain ⟨W2, hW2⟩ : ∃ W2, W2 = W1.setCell ⟨B6, 1, none⟩ v := ⟨_, rfl⟩
  have d2 : W2.heap[D]? = some (.deferred (some [])) := by rw [hW2]; exact (heap_setCell_other W1 ⟨B6, 1, none⟩ _ _ n6).trans d1
  have o2 : W2.ownsRow w0.heap.size 33 1 v Q.length (Q.map (·.1)) := by rw [hW2]; exact own_other o1 B6 1 _ fun e => ownsRow_apart o1 s1 (fun ys => by intro e; cases e) e.symm
  have b2 : Below w0.heap.size W W2 := by rw [hW2]; exact b1.setCell (p := ⟨B6, 1, none⟩) h6 _
  rw [← hW2] at s2 ⊢
  clear hW2 s1 d1 o1 b1
  have s3 : (W2.putObj D (.deferred none)).heap[B6]? = _ := (World.putObj_heap_other (Ne.symm n6)).trans s2
  have b3 : Below w0.heap.size W (W2.putObj D (.deferred none)) := b2.grown (grownBy_putObj' _ _ _) (Nat.le_trans hJ.below.size b2.size) (fun k e => by cases e; exact hD)
  have o3 : (W2.putObj D (.deferred none)).ownsRow w0.heap.size 33 1 v Q.length (Q.map (·.1)) := ownsRow_keep o2 (grownBy_putObj' _ _ _) (fun r e ys => by
    cases e
    intro e
    rw [d2] at e
    cases e)
  exact ⟨d2, by rw [cell_of_row _ B6 0 _ _ (0, 0) s3]; rfl, by rw [cell_of_row _ B6 1 _ _ (0, 0) s3]; rfl, rows_own o3 hl ((ha.below b3).mono (Nat.le_trans hJ.below.size b3.size)), hJ.below.trans b3⟩
set_option maxRecDepth 100000 in
set_option maxHeartbeats 4000000 in
theorem pick_any (va vb sv : Value) (A B : List (Value × List V3)) (S : List Int) (w : World) (hA : RowsC w.heap.size w va A) (hB : RowsC w.heap.size w vb B) (hS : SidesIn w.heap.size w sv S) (hlen : A.length + B.length ≤ 900000) :
    Calls Tryd.prog 35 #[.agg #[.func (.func 48) #[] #[], va], .agg #[.func (.func 48) #[] #[], vb], sv] w (PickEnd w S A B) := by
  have HA := Lib.hid hA
  have HB := Lib.hid hB
  have HS := Lib.hid hS
  obtain ⟨aa, ca, rfl, -⟩ := hA.form
  obtain ⟨ab, cb, rfl, -⟩ := hB.form
  obtain ⟨sb, so, sc, rfl, -, -, -⟩ := id hS
  clear hA hB hS
  refine (callsIn_wide (n := 9)).1 ?_
  refine callsIn_of_wp_marks Tryd.func35 rfl trivial ?_ rfl
  simp only [Tryd.ntmps35, List.size_toArray, List.length_cons, List.length_nil, Nat.reduceAdd, Nat.reduceSub, Array.replicate_succ, Array.replicate_zero, List.push_toArray, List.append_toArray, List.nil_append, List.cons_append]
  gi_wp2_with fail
  obtain ⟨w2, hw2, hs2, g2, g3, g4, hb2⟩ := allocs5 w (.cells #[.func (.func 48) #[] #[], .slice aa A.length ca] 58) (.cells #[.func (.func 48) #[] #[], .slice ab B.length cb] 58) (.cells #[.slice (some ⟨sb, so, none⟩) S.length sc] 77) (.cells #[.nilFunc, .slice none 0 0] 58) (.cells #[.func (.func 48) #[] #[], .slice none 0 0] 58)
  rw [← hw2]
  have HS2 := Lib.hid hs2
  clear hw2 hs2
  refine ⟨True.intro, (callsIn_wide.2 (merge_call _ _ _)).mono ?_⟩
  rintro e w3 ⟨rfl, hw3⟩
  have hb3 : Below w2.heap.size w2 w3 := by rw [← hw3]; exact ((Below.refl _ _).alloc (Nat.le_refl _) _).alloc (by simp) _
  have HS3 := Lib.hid (show w3.heap.size = w2.heap.size + 2 by rw [← hw3]; simp)
  have HM1 := Lib.hid (show LBox w3 w2.heap.size (.slice aa A.length ca) by rw [← hw3]; exact (Below.heap_alloc _ _ _ (by simp)).trans (heap_alloc_new w2 _))
  have HM2 := Lib.hid (show LBox w3 (w2.heap.size + 1) (.slice ab B.length cb) by rw [← hw3]; have := heap_alloc_new (w2.alloc (.cells #[.func (.func 48) #[] #[], .slice aa A.length ca] 58)) (.cells #[.func (.func 48) #[] #[], .slice ab B.length cb] 58); rwa [World.size_alloc] at this)
  have up : ∀ {k : Nat} {o : Obj}, w2.heap[k]? = some o → w3.heap[k]? = some o := fun h => (hb3.block _ (Array.getElem?_eq_some_iff.1 h).1).trans h
  have H5 := Lib.hid (up g2)
  have H6 := Lib.hid (up g3)
  have H7 := Lib.hid (show LBox w3 (w.heap.size + 1 + 1 + 1 + 1) (.slice none 0 0) from up g4)
  have HB3 := Lib.hid (show Below w.heap.size w w3 from hb2.trans (hb3.mono hb2.size))
  clear hw3 up g2 g3 g4 hb3 hb2
  gi_wp2_with fail
  refine range_wide (gf := 67) (lb := #[.pointer (some ⟨w2.heap.size, 0, none⟩), .pointer (some ⟨w2.heap.size + 1, 0, none⟩)]) rfl (enters_of Tryd.func67 (by kernel_rfl) rfl) ?_
  intro r r1 r2 r3 r4 r5 r6
  have hl0 : ((w3.alloc (.deferred (some []))).alloc (.loop r)).heap[w3.heap.size + 1]? = some (.loop r) := by
    have := World.alloc_heap_new (w3.alloc (.deferred (some []))) (.loop r)
    rwa [World.size_alloc] at this
  have hd0 : ((w3.alloc (.deferred (some []))).alloc (.loop r)).heap[w3.heap.size]? = some (.deferred (some [])) := (Below.heap_alloc _ _ _ (by simp)).trans (World.alloc_heap_new w3 _)
  have hbb : Below w3.heap.size w3 ((w3.alloc (.deferred (some []))).alloc (.loop r)) := ((Below.refl _ _).alloc (Nat.le_refl _) _).alloc (by simp) _
  have kk : ∀ {k : Nat} {o : Obj}, w3.heap[k]? = some o → ((w3.alloc (.deferred (some []))).alloc (.loop r)).heap[k]? = some o := fun h => (hbb.block _ (Array.getElem?_eq_some_iff.1 h).1).trans h
  have HL := Lib.hid (show w.heap.size ≤ w3.heap.size + 1 by have := HS3.out; have := HS2.out; omega)
  have HBW := Lib.hid (HB3.out.trans (hbb.mono HB3.out.size))
  have HSQ := merge_in w.heap.size w3 w2.heap.size (w2.heap.size + 1) (.slice aa A.length ca) (.slice ab B.length cb) A B (by have := HS3.out; have := HS2.out; omega) (HA.out.below HB3.out) (HB.out.below HB3.out) (by omega) HM1.out.cells.1 HM1.out.cells.2.1 HM2.out.cells.2.1
  refine (HSQ (w3.heap.size + 1) _ hbb (PkJ w (w.heap.size + 1 + 1) (w.heap.size + 1 + 1 + 1) (w.heap.size + 1 + 1 + 1 + 1) w2.heap.size (w3.heap.size + 1) w3.heap.size (.slice (some ⟨sb, so, none⟩) S.length sc) (.slice aa A.length ca) S r) (fun P A B h hb => h.keep hb) ?_
    ⟨⟨_, [], kk H7.out, World.ownsRow_nil _ _ _ _, rfl, fun x hx => (by cases hx), Nat.le_refl _⟩, kk H5.out, kk HM1.out, kk H6.out, hl0, hd0, HBW.out⟩).mono ?_
  · clear hl0 hd0 hbb kk HBW H5 H6 H7 HM1 HM2 HSQ
    intro P T s v W hJ0 hin hPl hkm
    have HJ := Lib.hid hJ0
    have HIn := Lib.hid hin
    have HKm := Lib.hid hkm
    have r3' := r3
    obtain ⟨pv, cv, rfl, -⟩ := id hin
    refine yield_wide hJ0.loop r1 r2 (by rw [r3]; rfl) ?_
    clear hJ0 hin hkm
    rw [r3, r4, r5, r6]
    clear r1 r2 r3 r4 r5 r6 r3'
    gi_wp2_with fail
    refine ⟨HJ.out.loop, ?_⟩
    obtain ⟨W2, hW2⟩ : ∃ W2, W2 = W.putObj (w3.heap.size + 1) (.loop (busyR r)) := ⟨_, rfl⟩
    have HJ2 := Lib.hid (show PkJ w (w.heap.size + 1 + 1) (w.heap.size + 1 + 1 + 1) (w.heap.size + 1 + 1 + 1 + 1) w2.heap.size (w3.heap.size + 1) w3.heap.size (.slice (some ⟨sb, so, none⟩) S.length sc) (.slice aa A.length ca) S (busyR r) P W2 by
      rw [hW2]
      exact HJ.out.put _ HL.out)
    have HB2 := Lib.hid (show Below w.heap.size W W2 by
      rw [hW2]
      exact (Below.refl _ _).grown (grownBy_putObj' _ _ _) HJ.out.below.size (fun k e => by cases e; exact HL.out))
    have HI2 := Lib.hid (HIn.out.below HB2.out)
    rw [← hW2]
    clear hW2
    have c5 : W2.cell? ⟨w.heap.size + 1 + 1, 0, none⟩ = some (.slice (some ⟨sb, so, none⟩) S.length sc) := by rw [cell_of_row _ _ 0 _ _ (0, 0) HJ2.out.sides]; rfl
    have HC := Lib.hid (contains_any _ _ _ s W2 (HS.out.below HJ2.out.below))
    gi_wp2_with fail
    refine ⟨trivial, (callsIn_wide.2 HC.out).mono ?_⟩
    rintro e W3 ⟨rfl, rfl⟩
    cases hs : S.contains s with
    | false =>
      gi_wp2_with fail
      have h1 := (HJ2.out.skip (T := T) hs).put r HL.out
      have h2 : Below w.heap.size W3 (W3.putObj (w3.heap.size + 1) (.loop r)) := (Below.refl _ _).grown (grownBy_putObj' _ _ _) HJ2.out.below.size (fun k e => by cases e; exact HL.out)
      exact ⟨HJ2.out.loop, h1, HB2.out.trans h2, fun o ho => by rw [show W.heap[w2.heap.size]? = _ from HJ.out.mbox] at ho; rw [← ho]; exact h1.mbox⟩
    | true =>
      obtain ⟨vv, Q, hbx, hown, hm, ha, hlq⟩ := HJ2.out.rows
      obtain ⟨b0, b1, b2⟩ := hbx.cells
      have hnew := below_new W3 (.cells #[.slice pv T.length cv] 33)
      have HJ3 := Lib.hid (HJ2.out.keep hnew)
      have HO3 := Lib.hid (hown.alloc (.cells #[.slice pv T.length cv] 33))
      have HBx3 := Lib.hid (show LBox (W3.alloc (.cells #[.slice pv T.length cv] 33)) (w.heap.size + 1 + 1 + 1 + 1) vv from (hnew.block _ (Array.getElem?_eq_some_iff.1 hbx).1).trans hbx)
      have HA3 := Lib.hid (ha.below (hnew.mono HJ2.out.below.size))
      have HI3 := Lib.hid (HI2.out.below (hnew.mono HJ2.out.below.size))
      have HX3 := Lib.hid (show (W3.alloc (.cells #[.slice pv T.length cv] 33)).cell? ⟨W3.heap.size, 0, none⟩ = some (.slice pv T.length cv) by rw [cell_of_row _ W3.heap.size 0 _ _ (0, 0) (heap_alloc_new W3 _)]; rfl)
      have HBn := Lib.hid (HB2.out.trans (hnew.mono HJ2.out.below.size))
      have HQ := Lib.hid (And.intro hm hlq)
      have HLq := Lib.hid (show (Q.map (·.1)).length ≤ 999999 by rw [List.length_map]; omega)
      have HO3' := Lib.hid (show (W3.alloc (.cells #[.slice pv T.length cv] 33)).ownsRow w.heap.size 33 1 vv (Q.map (·.1)).length (Q.map (·.1)) by rw [List.length_map]; exact HO3.out)
      have hsl : ∃ p n c, vv = .slice p n c := by
        rcases hown.2 with ⟨rfl, -⟩ | ⟨g, cap, cur, rfl, -⟩
        · exact ⟨_, _, _, rfl⟩
        · exact ⟨_, _, _, rfl⟩
      obtain ⟨pq, nq, cq, rfl⟩ := hsl
      clear hnew hbx hown hm ha hlq
      gi_wp2_with (gi_at_builtin; refine wpListIn_appOne rfl (.tmp 22) (.tmp 24) rfl w.heap.size (.slice pq nq cq) (Q.map (·.1)) (.slice pv T.length cv) W3.heap.size rfl rfl HO3'.out HX3.out rfl HLq.out HJ3.out.below.size ?_; intro v5 w5 ho5 hg5; obtain ⟨q7, q8, q9⟩ := PkJ.step (T := T) (s := s) HJ3.out HBx3.out HO3.out HQ.out.1 HA3.out HQ.out.2 hg5 ho5 HI3.out hs (by omega) (by omega) (by omega) (by have := HS2.out; omega); have HQ8 := Lib.hid q8; have HQ9 := Lib.hid (HBn.out.trans q9); obtain ⟨d0, d1, d2⟩ := q7.cells; obtain ⟨g5, cap5, e5, -⟩ := World.ownsRow.form ho5 (by simp); rw [List.length_append, List.length_map, List.length_singleton] at e5; subst e5; clear q7 q8 q9 ho5 hg5)
      have h1 := HQ8.out.put r HL.out
      exact ⟨HQ8.out.loop, h1, HQ9.out.trans ((Below.refl _ _).grown (grownBy_putObj' _ _ _) HQ8.out.below.size (fun k e => by cases e; exact HL.out)), fun o ho => by rw [show W.heap[w2.heap.size]? = _ from HJ.out.mbox] at ho; rw [← ho]; exact h1.mbox⟩
  · rintro e w4 ⟨⟨vr, rfl⟩, hJ4⟩
    refine ⟨⟨_, rfl⟩, hJ4.loop, ?_⟩
    have HJ5 := Lib.hid (hJ4.put { r with state := .exhausted } HL.out)
    obtain ⟨w5, hw5⟩ : ∃ w5, w5 = w4.putObj (w3.heap.size + 1) (.loop { r with state := .exhausted }) := ⟨_, rfl⟩
    rw [← hw5] at HJ5 ⊢
    clear hw5 hJ4 hl0 hd0 hbb kk HBW H5 H6 H7 HM1 HM2 HSQ r1 r2 r3 r4 r5 r6
    obtain ⟨v5, Q5, hbx, hown, hm, ha, hlq⟩ := HJ5.out.rows
    obtain ⟨b0, b1, b2⟩ := hbx.cells
    have d0 : w5.cell? ⟨w.heap.size + 1 + 1 + 1, 0, none⟩ = some .nilFunc := by rw [cell_of_row _ _ 0 _ _ (0, 0) HJ5.out.res]; rfl
    have d1 : w5.cell? ⟨w.heap.size + 1 + 1 + 1, 1, none⟩ = some (.slice none 0 0) := by rw [cell_of_row _ _ 1 _ _ (0, 0) HJ5.out.res]; rfl
    have f0 := frozen_of_row w5 _ 0 _ _ HJ5.out.res
    have f1 := frozen_of_row w5 _ 1 _ _ HJ5.out.res
    have HR := Lib.hid (And.intro hown (And.intro hm ha))
    have hsl : ∃ p n c, v5 = .slice p n c := by
      rcases hown.2 with ⟨rfl, -⟩ | ⟨g, cap, cur, rfl, -⟩
      · exact ⟨_, _, _, rfl⟩
      · exact ⟨_, _, _, rfl⟩
    obtain ⟨pq, nq, cq, rfl⟩ := hsl
    clear hbx hown hm ha
    have HF := Lib.hid (HJ5.out.fin HR.out.1 HR.out.2.1 HR.out.2.2 (by have := mrg_len (A.map (·.2)) (B.map (·.2)); simp at this; omega) (by omega) HB3.out.size)
    gi_wp2_with fail
    refine ⟨by simp, .inl ⟨_, _, rfl, run_takeDeferred HF.out.1, ?_⟩⟩
    obtain ⟨-, e0, e1, hR, hb⟩ := HF.out
    exact ⟨.agg #[.func (.func 48) #[] #[], .slice pq nq cq], by simp [results, Tryd.results35, go_sem, e0, e1], .slice pq nq cq, Q5, rfl, hR, HR.out.2.1, hb⟩
end
section
open Go Go.RowKit

/-- A row of sides; a list; an iterator; a row of tuples. -/
def St1 (S : List Int) (v : Value) (W : World) : Prop := SidesIn W.heap.size W v S
def St2 (L : List (List V3)) (v : Value) (W : World) : Prop := ∃ l Q, v = .agg #[.func (.func 48) #[] #[], l] ∧ RowsC W.heap.size W l Q ∧ Q.map (·.2) = L
def St3 (L : List (List V3)) (v : Value) (W : World) : Prop := ∃ (Bs : Nat) (l : Value) (Q : List (Value × List V3)), v = .func (.func 69) #[] #[.pointer (some ⟨Bs, 0, none⟩)] ∧ RowsIn W.heap.size W l Q ∧ Q.map (·.2) = L ∧ W.cell? ⟨Bs, 0, none⟩ = some l ∧ Bs < W.heap.size
def St4 (L : List (List V3)) (v : Value) (W : World) : Prop := ∃ Q, RowsIn W.heap.size W v Q ∧ Q.map (·.2) = L
theorem St1.on {S : List Int} {v : Value} {W W' : World} (h : St1 S v W) (hb : Below W.heap.size W W') : St1 S v W' := by
  obtain ⟨b, off, cap, rfl, h0, h1, h2⟩ := SidesIn.below h hb
  exact ⟨b, off, cap, rfl, h0, Nat.lt_of_lt_of_le h1 hb.size, h2⟩
theorem St2.on {L : List (List V3)} {v : Value} {W W' : World} (h : St2 L v W) (hb : Below W.heap.size W W') : St2 L v W' := by
  obtain ⟨l, Q, rfl, h1, h2⟩ := h
  exact ⟨l, Q, rfl, (h1.below hb).mono hb.size, h2⟩
theorem St3.on {L : List (List V3)} {v : Value} {W W' : World} (h : St3 L v W) (hb : Below W.heap.size W W') : St3 L v W' := by
  obtain ⟨Bs, l, Q, rfl, h1, h2, h3, h4⟩ := h
  exact ⟨Bs, l, Q, rfl, h1.step hb, h2, (hb.cell (p := ⟨Bs, 0, none⟩) h4).trans h3, Nat.lt_of_lt_of_le h4 hb.size⟩
theorem St4.on {L : List (List V3)} {v : Value} {W W' : World} (h : St4 L v W) (hb : Below W.heap.size W W') : St4 L v W' := by
  obtain ⟨Q, h1, h2⟩ := h
  exact ⟨Q, h1.step hb, h2⟩
/-- A call that answers a value of a kind, and leaves all that was. -/
def Ends (F : Value → World → Prop) (w : World) (e : Ending) (w' : World) : Prop := ∃ v, e = .returned v ∧ F v w' ∧ Below w.heap.size w w'
theorem listsC {w w' : World} {P P' : List (Value × List V3)} {v : Value} (hP : AllIn w.heap.size w P) (hlen : P.length ≤ 1000000) (hp : P'.Perm P) (h : RowNew w.heap.size w' v (dedup likeT P')) (hb : Below w.heap.size w w') : RowsC w'.heap.size w' v (dedup likeT P') := by
  refine ⟨lists_in hP hlen hp h hb, ?_⟩
  obtain ⟨a, cap, rfl, h⟩ := h
  intro a' m c e hne
  injection e with e1 e2 e3
  subst e2 e3
  rcases h with h | ⟨g, -, -, -, -, h1, h2⟩
  · exact absurd h hne
  · exact ⟨h1, h2⟩
theorem rising_st {L : List (List V3)} {v : Value} {w : World} (h : St4 L v w) : Calls Tryd.prog 33 #[v] w (Ends (St2 (srtL L)) w) := by
  obtain ⟨P, hP, rfl⟩ := h
  refine (rising_rows w v P hP).mono ?_
  rintro e w' ⟨P', v', rfl, hp, hs, hn, hb⟩
  obtain ⟨_, _, -, hl, -, ha⟩ := hP
  exact ⟨_, rfl, ⟨v', _, rfl, listsC ha hl hp hn hb, dedup_srt hp hs⟩, hb⟩
theorem pick_st {A B : List (List V3)} {S : List Int} {va vb vs : Value} {w : World} (h1 : St2 A va w) (h2 : St2 B vb w) (h3 : St1 S vs w) (hl : A.length + B.length ≤ 900000) : Calls Tryd.prog 35 #[va, vb, vs] w (Ends (St2 (pickL S A B)) w) := by
  obtain ⟨la, P, rfl, hP, rfl⟩ := h1
  obtain ⟨lb, Q, rfl, hQ, rfl⟩ := h2
  refine (pick_any la lb vs P Q S w hP hQ h3 (by simpa using hl)).mono ?_
  rintro e w' ⟨v, R, rfl, hR, hm, hb⟩
  exact ⟨_, rfl, ⟨v, R, rfl, hR, hm⟩, hb⟩
theorem all_st {L : List (List V3)} {v : Value} {w : World} (h : St2 L v w) : Calls Tryd.prog 36 #[v] w (Ends (St3 L) w) := by
  obtain ⟨l, Q, rfl, hQ, rfl⟩ := h
  obtain ⟨a, c, rfl, -⟩ := hQ.form
  refine (all_any _ _ _ _ ⟨_, rfl⟩ _).mono ?_
  rintro e w' ⟨rfl, rfl⟩
  have hB2 : Below w.heap.size w ((w.alloc (.cells #[.func (.func 48) #[] #[], .slice a Q.length c] 58)).alloc (.cells #[.slice a Q.length c] 22)) := (below_new _ _).alloc (by simp) _
  exact ⟨_, rfl, ⟨w.heap.size + 1, _, Q, rfl, hQ.1.step hB2, rfl, by simp, by simp⟩, hB2⟩
theorem copies_st {L : List (List V3)} {v : Value} {w : World} (h : St3 L v w) : Calls Tryd.prog 34 #[v] w (Ends (St4 L) w) := by
  obtain ⟨Bs, l, Q, rfl, hQ, rfl, hc, hlt⟩ := h
  have hq : (Q.map (·.2)).length ≤ 1000000 := by obtain ⟨_, _, -, h, -⟩ := hQ; simpa using h
  refine (copies_any _ _ _ _ (fun _ _ => by kernel_rfl) (vals_seq w Bs l Q hQ hc hlt)).mono ?_
  rintro e w' ⟨v, R, rfl, h1, h2, h3, hb⟩
  have hr : R.length ≤ 1000000 := by
    have := congrArg List.length h2
    rw [List.length_map] at this
    omega
  exact ⟨v, rfl, ⟨R, (rows_own h1 hr fun y hy => (h3 y hy).1.in_ (h3 y hy).2).1, h2⟩, hb⟩
/-- Sides laid as a literal. -/
theorem sides3 (w : World) (S : List Int) (hS : S.length ≤ 1000) : St1 S (.slice (some ⟨w.heap.size, 0, none⟩) S.length S.length) (w.alloc (.cells (S.map fun s => Value.int .i64 s).toArray 64)) :=
  ⟨w.heap.size, 0, S.length, rfl, hS, by simp, fun j hj => by rw [Nat.zero_add, cell_of_row _ w.heap.size j _ _ (0, 0) (heap_alloc_new w _)]; simp [hj]⟩
end
end Go.Proofs.YtaogfgohchpnoaaDoor
