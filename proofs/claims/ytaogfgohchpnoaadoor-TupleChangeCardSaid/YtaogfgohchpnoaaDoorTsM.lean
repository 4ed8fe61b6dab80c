/-
  The closure of tuple.merge hands the body each element of two rising rows, with the side where it is; what has come is told of the world of its round.
-/
import Derived.Test.YtaogfgohchpnoaaDoorTrO
import Derived.Test.YtaogfgohchpnoaaDoorTsP
import Derived.Sort.QuietIn
import Derived.Shelf.SlSortCmp.QuietGrown
namespace Go.Proofs.YtaogfgohchpnoaaDoor
open Go Go.RowKit Go.Shelf

attribute [local go_sem] Oper.semAt_some

theorem inRegion_grown {F : Fence} {n : Nat} {P : Program} {id : Nat} {Q : Exit → Act → World → Prop} {a : Act} {w : World} {l : List Oper} (hro : F.round = none) (hm : P.follows .mixedOrders = true) (hB : Region.lexB .any l.toArray = true)
    (h : wpQuietIn F n P l.toArray (fun w' => ∃ p : GrownBy, w' = Sort.grow (w.drewN p.n) p.os) (fun a' => ∀ w', (∃ p : GrownBy, w' = Sort.grow (w.drewN p.n) p.os) → Q .normal a' w') l a) : (Code.region id l.toArray true).wpIn F n P Q a w :=
  wpIn_region_quiet (C := fun w' => ∃ p : GrownBy, w' = Sort.grow (w.drewN p.n) p.os) hro hm hB ⟨⟨1, #[]⟩, by rw [Sort.grow_empty]; rfl⟩ (by simpa using h)
def lenT : Value → Nat
  | .slice _ n _ => n
  | _ => 0
/-- A row that is read, with room enough to be cut where it holds any. -/
def RowsC (n : Nat) (w : World) (v : Value) (P : List (Value × List V3)) : Prop := RowsIn n w v P ∧ ∀ a m c, v = .slice a m c → P ≠ [] → m ≤ c ∧ c ≤ maxLen
theorem RowsC.below {n : Nat} {w w' : World} {v : Value} {P : List (Value × List V3)} (h : RowsC n w v P) (hb : Below n w w') : RowsC n w' v P := ⟨h.1.below hb, h.2⟩
theorem RowsC.mono {n n' : Nat} {w : World} {v : Value} {P : List (Value × List V3)} (h : RowsC n w v P) (hb : n ≤ n') : RowsC n' w v P := ⟨h.1.mono hb, h.2⟩
theorem RowsC.form {n : Nat} {w : World} {v : Value} {P : List (Value × List V3)} (h : RowsC n w v P) : ∃ a cap, v = .slice a P.length cap ∧ P.length ≤ 1000000 := by
  obtain ⟨a, cap, rfl, h, -⟩ := h.1
  exact ⟨a, cap, rfl, h⟩
theorem RowsC.cons {n : Nat} {w : World} {v : Value} {p : Value × List V3} {P : List (Value × List V3)} (h : RowsC n w v (p :: P)) :
    ∃ b off cap, v = .slice (some ⟨b, off, none⟩) (P.length + 1) cap ∧ P.length + 1 ≤ 1000000 ∧ P.length + 1 ≤ cap ∧ cap ≤ maxLen ∧ b < n ∧ w.cell? ⟨b, off, none⟩ = some p.1 ∧ TupIn n w p.1 p.2 ∧
      RowsC n w (.slice (if cap = 1 then some ⟨b, off, none⟩ else some ⟨b, off + 1, none⟩) P.length (cap - 1)) P := by
  obtain ⟨⟨a, cap, rfl, h1, h2, h3⟩, h4⟩ := h
  obtain ⟨c1, c2⟩ := h4 _ _ _ rfl (by simp)
  rcases h2 with h2 | ⟨b, off, rfl, hb, hr⟩
  · cases h2
  · rw [List.length_cons] at h1 c1
    refine ⟨b, off, cap, rfl, h1, c1, c2, hb, hr 0 (by simp), h3 p List.mem_cons_self, ⟨_, _, rfl, by omega, ?_, fun x hx => h3 x (List.mem_cons_of_mem _ hx)⟩, ?_⟩
    · by_cases hP : P = []
      · exact .inl hP
      · right
        have : 0 < P.length := List.length_pos_iff.2 hP
        rw [if_neg (by omega)]
        refine ⟨b, off + 1, rfl, hb, fun j hj => ?_⟩
        have := hr (j + 1) (by simp; omega)
        rw [show off + 1 + j = off + (j + 1) by omega]
        simpa using this
    · intro a m c e hP
      injection e with e1 e2 e3
      subst e2 e3
      have : 0 < P.length := List.length_pos_iff.2 hP
      omega
/-- All below n is as it was, and the block Ba. -/
structure KM (n Ba : Nat) (W W' : World) : Prop where
  below : Below n W W'
  box : ∀ o, W.heap[Ba]? = some o → W'.heap[Ba]? = some o
theorem KM.trans {n Ba : Nat} {A B C : World} (h : KM n Ba A B) (h' : KM n Ba B C) : KM n Ba A C := ⟨h.below.trans h'.below, fun o ho => h'.box o (h.box o ho)⟩
theorem KM.of {n Ba : Nat} {A B : World} (h : Below A.heap.size A B) (hn : n ≤ A.heap.size) : KM n Ba A B := ⟨h.mono hn, fun _ ho => (h.block _ (Array.getElem?_eq_some_iff.1 ho).1).trans ho⟩
/-- An iterator that tells these tuples with their sides, each of the world of its round. -/
def SeqM (n Ba : Nat) (w : World) (gf : Nat) (lb : Array Value) (Ms : List (List V3 × Int)) : Prop :=
  ∀ (l : Nat) (W : World), Below w.heap.size w W → ∀ (J : List (List V3 × Int) → World → Prop), (∀ P A B, J P A → Below A.heap.size A B → J P B) →
    (∀ P T s v W1, J P W1 → TupIn n W1 v T → P.length < 1000000 → KM n Ba w W1 → YieldAt Fence.wide 7 Tryd.prog l #[v, .int .i64 s] W1 fun e W' => e = .returned (.bool true) ∧ J (P ++ [(T, s)]) W' ∧ KM n Ba W1 W') →
    J [] W → CallsIn Fence.wide 8 Tryd.prog gf (#[.func (.yield l) #[] #[]] ++ lb) W fun e W' => (∃ v, e = .returned v) ∧ J Ms W'
/-- What a round begins with. -/
structure MgR (n Ba : Nat) (w : World) (J : List (List V3 × Int) → World → Prop) (A B : List (List V3)) (x y : Value) (A' B' : List (Value × List V3)) (P : List (List V3 × Int)) (wr : World) : Prop where
  a : RowsC n wr x A'
  b : RowsC n wr y B'
  j : J P wr
  below : KM n Ba w wr
  eq : mrg A B = P ++ mrg (A'.map (·.2)) (B'.map (·.2))
  len : P.length + A'.length + B'.length ≤ A.length + B.length
theorem MgR.step {n Ba : Nat} {w : World} {J : List (List V3 × Int) → World → Prop} {A B : List (List V3)} {P : List (List V3 × Int)} {wr W3 : World} {x y : Value} {A' B' : List (Value × List V3)} {z : List V3 × Int} (ha : RowsC n wr x A') (hb : RowsC n wr y B')
    (hj : J (P ++ [z]) W3) (h0 : KM n Ba w wr) (h3 : KM n Ba wr W3) (he : mrg A B = P ++ z :: mrg (A'.map (·.2)) (B'.map (·.2))) (hl : P.length + 1 + A'.length + B'.length ≤ A.length + B.length) : MgR n Ba w J A B x y A' B' (P ++ [z]) W3 :=
  ⟨ha.below h3.below, hb.below h3.below, hj, h0.trans h3, by rw [he, List.append_assoc]; rfl, by rw [List.length_append, List.length_singleton]; omega⟩
theorem MgR.at_ {n Ba : Nat} {w : World} {J : List (List V3 × Int) → World → Prop} {A B : List (List V3)} {P : List (List V3 × Int)} {wr W : World} {x y : Value} {A' B' : List (Value × List V3)} (h : MgR n Ba w J A B x y A' B' P wr) (hk : ∀ P A B, J P A → Below A.heap.size A B → J P B) (hb : Below wr.heap.size wr W) (hn : n ≤ w.heap.size) : MgR n Ba w J A B x y A' B' P W :=
  have hb' : KM n Ba wr W := KM.of hb (Nat.le_trans hn h.below.below.size)
  ⟨h.a.below hb'.below, h.b.below hb'.below, hk _ _ _ h.j hb, h.below.trans hb', h.eq, h.len⟩
set_option maxRecDepth 100000 in
set_option maxHeartbeats 4000000 in
theorem merge_in (n : Nat) (w : World) (Ba Bb : Nat) (va vb : Value) (A B : List (Value × List V3)) (hn : n ≤ w.heap.size) (hA : RowsC n w va A) (hB : RowsC n w vb B) (hlen : A.length + B.length ≤ 1000000) (ha0 : w.cell? ⟨Ba, 0, none⟩ = some (.func (.func 48) #[] #[])) (ha1 : w.cell? ⟨Ba, 1, none⟩ = some va) (hb1 : w.cell? ⟨Bb, 1, none⟩ = some vb) :
    SeqM n Ba w 67 #[.pointer (some ⟨Ba, 0, none⟩), .pointer (some ⟨Bb, 0, none⟩)] (mrg (A.map (·.2)) (B.map (·.2))) := by
  intro l W hW J hkeep hround h0
  have mixed : Tryd.prog.follows .mixedOrders = true := by kernel_rfl
  have HY := Lib.hid hround
  have HK := Lib.hid hkeep
  have HW := Lib.hid hW
  have HM0 := Lib.hid (show MgR n Ba w J (A.map (·.2)) (B.map (·.2)) va vb A B [] W from ⟨hA.below (hW.mono hn), hB.below (hW.mono hn), h0, KM.of hW hn, rfl, by simp⟩)
  have lta : Ba < w.heap.size := World.block_lt_of_cell? w _ ha0
  have ltb : Bb < w.heap.size := World.block_lt_of_cell? w _ hb1
  have HCa := Lib.hid (show ∀ W', KM n Ba w W' → W'.cell? ⟨Ba, 0, none⟩ = some (.func (.func 48) #[] #[]) from fun W' h => (World.cell?_of_block (a := ⟨Ba, 0, none⟩) (by rw [h.box _ (Array.getElem?_eq_getElem lta), Array.getElem?_eq_getElem lta])).trans ha0)
  have hBa : W.cell? ⟨Ba, 1, none⟩ = some va := (hW.cell (p := ⟨Ba, 1, none⟩) lta).trans ha1
  have hBb : W.cell? ⟨Bb, 1, none⟩ = some vb := (hW.cell (p := ⟨Bb, 1, none⟩) ltb).trans hb1
  have HL := Lib.hid (show (A.map (·.2)).length + (B.map (·.2)).length ≤ 1000000 by simpa using hlen)
  clear hround hkeep hW hA hB h0 ha0 ha1 hb1 hlen
  generalize A.map (·.2) = LA at HM0 HL ⊢
  generalize B.map (·.2) = LB at HM0 HL ⊢
  refine callsIn_of_wp Tryd.func67 rfl trivial ?_ rfl
  simp only [Tryd.ntmps67, List.size_toArray, List.length_cons, List.length_nil, Nat.reduceAdd, Nat.reduceSub, Array.replicate_succ, Array.replicate_zero, List.push_toArray, List.append_toArray, List.nil_append, List.cons_append]
  gi_wp2
  gi_region
  gi_wp2
  gi_loopw [4, 5] (fun x y wr => ∃ (A' B' : List (Value × List V3)) (P : List (List V3 × Int)), Hid (MgR n Ba w J LA LB x y A' B' P wr)) (fun x y _ => lenT x + lenT y)
  case atStart => exact ⟨A, B, [], Lib.hid (HM0.out.at_ HK.out (Below.refl _ _).drew hn)⟩
  case round =>
    obtain ⟨A', B', P, HR⟩ := hrel
    have hPl : P.length + A'.length + B'.length ≤ 1000000 := by have := HR.out.len; have := HL.out; omega
    cases A' with
    | nil =>
      cases B' with
      | nil =>
        obtain ⟨a1, c1, e1, -⟩ := HR.out.a.form
        obtain ⟨a2, c2, e2, -⟩ := HR.out.b.form
        subst e1 e2
        have HE := Lib.hid (show mrg LA LB = P by have := HR.out.eq; rw [this, List.map_nil, mrg_nil, List.append_nil])
        gi_wp2_with fail
        go_end0
        exact ⟨⟨_, rfl⟩, by rw [HE.out]; exact HR.out.j⟩
      | cons q B' =>
        obtain ⟨b, off, c, e1, l1, l2, l3, hb, hx, -, -⟩ := HR.out.b.cons
        obtain ⟨a1, c1, e2, -⟩ := HR.out.a.form
        subst e1 e2
        obtain ⟨x, T⟩ := q
        have HD := Lib.hid (HR.out.at_ HK.out (Below.refl wr.heap.size wr).drew hn)
        obtain ⟨b_, off_, c_, e1, -, -, -, -, -, hi, ht⟩ := HD.out.b.cons
        injection e1 with e1 e2 e3; injection e1 with e1; injection e1 with e1 e4; subst e1 e3 e4
        obtain ⟨fn, tmps, assign, body, hy, hR⟩ := HY.out P T (1) x _ HD.out.j hi (by simp at hPl; omega) HD.out.below
        have hnext := fun W3 hJ3 hk3 => MgR.step (n := n) (Ba := Ba) (w := w) (J := J) (A := LA) (B := LB) (P := P) (z := (T, 1)) (W3 := W3) HD.out.a ht hJ3 HD.out.below hk3 (by have := HD.out.eq; rw [this]; rw [List.map_cons, List.map_nil, mrg_right]) (by have := HD.out.len; simp at this ⊢; omega)
        clear ht hi
        generalize B'.length = m at *
        have g11 : (0 : Int) < ((m + 1 : Nat) : Int) := by omega
        have g12 : (1 : Int) ≤ ((m + 1 : Nat) : Int) := by omega
        have g13 : ((m + 1 : Nat) : Int) ≤ (c : Int) := by omega
        have g14 : (c : Int) ≤ 9223372036854775807 := by unfold maxLen at *; omega
        by_cases hc1 : c = 1
        · subst hc1
          obtain rfl : m = 0 := by omega
          simp only [if_true, Nat.sub_self] at hnext
          gi_wp2_with fail
          gi_region
          gi_wp2_with fail
          refine hR.mono ?_
          rintro e W3 ⟨rfl, hJ3, hk3⟩
          have HN := Lib.hid (hnext W3 hJ3 hk3)
          clear hJ3 hk3 hnext
          gi_wp2_with fail
          go_roundw
          case rel => exact ⟨_, _, _, HN⟩
          case measure => simp [lenT]; try omega
        · rw [if_neg hc1] at hnext
          have hd1 : ¬ c - 1 = 0 := by omega
          have he1 : ¬ (c : Int) - 1 = 0 := by omega
          gi_wp2_with fail
          gi_region
          gi_wp2_with fail
          refine hR.mono ?_
          rintro e W3 ⟨rfl, hJ3, hk3⟩
          have HN := Lib.hid (hnext W3 hJ3 hk3)
          clear hJ3 hk3 hnext
          gi_wp2_with fail
          go_roundw
          case rel => exact ⟨_, _, _, HN⟩
          case measure => simp [lenT]; try omega
    | cons q A' =>
      cases B' with
      | nil =>
        obtain ⟨b, off, c, e1, l1, l2, l3, hb, hx, -, -⟩ := HR.out.a.cons
        obtain ⟨a1, c1, e2, -⟩ := HR.out.b.form
        subst e1 e2
        obtain ⟨x, T⟩ := q
        have HD := Lib.hid (HR.out.at_ HK.out (Below.refl wr.heap.size wr).drew hn)
        obtain ⟨b_, off_, c_, e1, -, -, -, -, -, hi, ht⟩ := HD.out.a.cons
        injection e1 with e1 e2 e3; injection e1 with e1; injection e1 with e1 e4; subst e1 e3 e4
        obtain ⟨fn, tmps, assign, body, hy, hR⟩ := HY.out P T (-1) x _ HD.out.j hi (by simp at hPl; omega) HD.out.below
        have hnext := fun W3 hJ3 hk3 => MgR.step (n := n) (Ba := Ba) (w := w) (J := J) (A := LA) (B := LB) (P := P) (z := (T, -1)) (W3 := W3) ht HD.out.b hJ3 HD.out.below hk3 (by have := HD.out.eq; rw [this]; rw [List.map_cons, List.map_nil, mrg_left]) (by have := HD.out.len; simp at this ⊢; omega)
        clear ht hi
        generalize A'.length = m at *
        have g11 : (0 : Int) < ((m + 1 : Nat) : Int) := by omega
        have g12 : (1 : Int) ≤ ((m + 1 : Nat) : Int) := by omega
        have g13 : ((m + 1 : Nat) : Int) ≤ (c : Int) := by omega
        have g14 : (c : Int) ≤ 9223372036854775807 := by unfold maxLen at *; omega
        by_cases hc1 : c = 1
        · subst hc1
          obtain rfl : m = 0 := by omega
          simp only [if_true, Nat.sub_self] at hnext
          gi_wp2_with fail
          gi_region
          gi_wp2_with fail
          refine hR.mono ?_
          rintro e W3 ⟨rfl, hJ3, hk3⟩
          have HN := Lib.hid (hnext W3 hJ3 hk3)
          clear hJ3 hk3 hnext
          gi_wp2_with fail
          go_roundw
          case rel => exact ⟨_, _, _, HN⟩
          case measure => simp [lenT]; try omega
        · rw [if_neg hc1] at hnext
          have hd1 : ¬ c - 1 = 0 := by omega
          have he1 : ¬ (c : Int) - 1 = 0 := by omega
          gi_wp2_with fail
          gi_region
          gi_wp2_with fail
          refine hR.mono ?_
          rintro e W3 ⟨rfl, hJ3, hk3⟩
          have HN := Lib.hid (hnext W3 hJ3 hk3)
          clear hJ3 hk3 hnext
          gi_wp2_with fail
          go_roundw
          case rel => exact ⟨_, _, _, HN⟩
          case measure => simp [lenT]; try omega
      | cons q2 B' =>
        obtain ⟨ba, oa, ca, e1, l1, l2, l3, hba, hx, hi1, -⟩ := HR.out.a.cons
        obtain ⟨bb, ob, cb, e2, k1, k2, k3, hbb, hy0, hi2, -⟩ := HR.out.b.cons
        obtain ⟨ma, HMA⟩ : ∃ m, Hid (m = A'.length) := ⟨_, Lib.hid rfl⟩
        obtain ⟨mb, HMB⟩ : ∃ m, Hid (m = B'.length) := ⟨_, Lib.hid rfl⟩
        rw [← HMA.out] at e1 l1 l2
        rw [← HMB.out] at e2 k1 k2
        subst e1 e2
        obtain ⟨x, T⟩ := q
        obtain ⟨y, U⟩ := q2
        have HG := Lib.hid (fun (n' : Nat) (os : Array Obj) => Grown.below (show Grown wr (Sort.grow (wr.drewN n') os) from ⟨n', os, rfl⟩))
        have hnr : n ≤ wr.heap.size := Nat.le_trans hn HR.out.below.below.size
        have HC : Hid (∀ n' os, Calls Tryd.prog 48 #[x, y] (Sort.grow (wr.drewN n') os) fun e w' => e = .returned (.int .i64 (cmpT T U)) ∧ ∃ q os', w' = Sort.grow ((Sort.grow (wr.drewN n') os).drewN q) os') := Lib.hid (fun n' os => (tcompare_any _ _ _ _ n _ (hi1.below ((HG.out n' os).mono hnr)) (hi2.below ((HG.out n' os).mono hnr)) (Nat.le_trans hnr (HG.out n' os).size)).mono fun e w' h => h)
        have f1 : ∀ n' os, (Sort.grow (wr.drewN n') os).cell? ⟨ba, oa, none⟩ = some x := fun n' os => ((HG.out n' os).cell (p := ⟨ba, oa, none⟩) (Nat.lt_of_lt_of_le hba hnr)).trans hx
        have f2 : ∀ n' os, (Sort.grow (wr.drewN n') os).cell? ⟨bb, ob, none⟩ = some y := fun n' os => ((HG.out n' os).cell (p := ⟨bb, ob, none⟩) (Nat.lt_of_lt_of_le hbb hnr)).trans hy0
        have f0 : ∀ n' os, (Sort.grow (wr.drewN n') os).cell? ⟨Ba, 0, none⟩ = some (.func (.func 48) #[] #[]) := fun n' os => HCa.out _ (HR.out.below.trans (KM.of (HG.out n' os) hnr))
        clear hi1 hi2 hx hy0
        have g11 : (0 : Int) < ((ma + 1 : Nat) : Int) := by omega
        have g12 : (1 : Int) ≤ ((ma + 1 : Nat) : Int) := by omega
        have g13 : ((ma + 1 : Nat) : Int) ≤ (ca : Int) := by omega
        have g14 : (ca : Int) ≤ 9223372036854775807 := by unfold maxLen at *; omega
        have g21 : (0 : Int) < ((mb + 1 : Nat) : Int) := by omega
        have g22 : (1 : Int) ≤ ((mb + 1 : Nat) : Int) := by omega
        have g23 : ((mb + 1 : Nat) : Int) ≤ (cb : Int) := by omega
        have g24 : (cb : Int) ≤ 9223372036854775807 := by unfold maxLen at *; omega
        obtain ⟨z, hz⟩ : ∃ z, z = cmpT T U := ⟨_, rfl⟩
        rw [← hz] at HC
        rcases cmpT_cases T U with hc | hc | hc
        · obtain rfl : z = -1 := hz.trans hc
          clear hz
          gi_wp2_with fail
          refine inRegion_grown rfl mixed (by kernel_rfl) ?_
          iterate 8 gi_big_quiet_step (fail)
          refine BigFrame.wpQuietIn_want (fun _ _ _ _ => trivial) rfl (fun K hK => ?_)
          gi_big_quiet_op
          apply Exists.intro
          refine ⟨fun _ => (by gi_at_call 48; exact callsIn_wide.2 (Calls.grown_of (HC.out _ _))), ?_⟩
          refine hK _ ?_
          clear hK K
          repeat gi_big_quiet_step (fail)
          refine wpQuietIn_nil ?_
          rintro _ ⟨⟨nq, osq⟩, rfl⟩
          have h6 := HG.out nq osq
          have fa := f1 nq osq
          have fb := f2 nq osq
          clear f0 f1 f2 HC HG
          obtain ⟨w6, hw6⟩ : ∃ w6, w6 = Sort.grow (wr.drewN nq) osq := ⟨_, rfl⟩
          dsimp only at *
          rw [← hw6] at h6 fa fb ⊢
          clear hw6
          have HD := Lib.hid (HR.out.at_ HK.out (h6.drew) hn)
          obtain ⟨b_, off_, c_, e1, -, -, -, -, -, hi1, ht1⟩ := HD.out.a.cons
          rw [← HMA.out] at e1 ht1
          injection e1 with e1 e2 e3; injection e1 with e1; injection e1 with e1 e4; subst e1 e3 e4
          obtain ⟨fn, tmps, assign, body, hy, hR⟩ := HY.out P T (-1) x _ HD.out.j hi1 (by simp at hPl; omega) HD.out.below
          have hnext := fun W3 hJ3 hk3 => MgR.step (n := n) (Ba := Ba) (w := w) (J := J) (A := LA) (B := LB) (P := P) (z := (T, -1)) (W3 := W3) ht1 HD.out.b hJ3 HD.out.below hk3 (by have := HD.out.eq; rw [this]; rw [List.map_cons, List.map_cons, mrg_lt _ _ hc]) (by have := HD.out.len; simp at this ⊢; omega)
          clear ht1 hi1 
          by_cases hc1 : ca = 1
          · subst hc1
            obtain rfl : ma = 0 := by omega
            simp only [if_true, Nat.sub_self] at hnext
            gi_wp2_with fail
            gi_region
            gi_wp2_with fail
            refine hR.mono ?_
            rintro e W3 ⟨rfl, hJ3, hk3⟩
            have HN := Lib.hid (hnext W3 hJ3 hk3)
            clear hJ3 hk3 hnext
            gi_wp2_with fail
            go_roundw
            case rel => exact ⟨_, _, _, HN⟩
            case measure => simp [lenT]; try omega
          · rw [if_neg hc1] at hnext
            have hd1 : ¬ ca - 1 = 0 := by omega
            have he1 : ¬ (ca : Int) - 1 = 0 := by omega
            gi_wp2_with fail
            gi_region
            gi_wp2_with fail
            refine hR.mono ?_
            rintro e W3 ⟨rfl, hJ3, hk3⟩
            have HN := Lib.hid (hnext W3 hJ3 hk3)
            clear hJ3 hk3 hnext
            gi_wp2_with fail
            go_roundw
            case rel => exact ⟨_, _, _, HN⟩
            case measure => simp [lenT]; try omega
        · obtain rfl : z = 0 := hz.trans hc
          clear hz
          gi_wp2_with fail
          refine inRegion_grown rfl mixed (by kernel_rfl) ?_
          iterate 8 gi_big_quiet_step (fail)
          refine BigFrame.wpQuietIn_want (fun _ _ _ _ => trivial) rfl (fun K hK => ?_)
          gi_big_quiet_op
          apply Exists.intro
          refine ⟨fun _ => (by gi_at_call 48; exact callsIn_wide.2 (Calls.grown_of (HC.out _ _))), ?_⟩
          refine hK _ ?_
          clear hK K
          repeat gi_big_quiet_step (fail)
          refine wpQuietIn_nil ?_
          rintro _ ⟨⟨nq, osq⟩, rfl⟩
          have h6 := HG.out nq osq
          have fa := f1 nq osq
          have fb := f2 nq osq
          clear f0 f1 f2 HC HG
          obtain ⟨w6, hw6⟩ : ∃ w6, w6 = Sort.grow (wr.drewN nq) osq := ⟨_, rfl⟩
          dsimp only at *
          rw [← hw6] at h6 fa fb ⊢
          clear hw6
          have HD := Lib.hid (HR.out.at_ HK.out (h6.drew.drew) hn)
          obtain ⟨b_, off_, c_, e1, -, -, -, -, -, hi1, ht1⟩ := HD.out.a.cons
          rw [← HMA.out] at e1 ht1
          injection e1 with e1 e2 e3; injection e1 with e1; injection e1 with e1 e4; subst e1 e3 e4
          obtain ⟨b_, off_, c_, e1, -, -, -, -, -, hi2, ht2⟩ := HD.out.b.cons
          rw [← HMB.out] at e1 ht2
          injection e1 with e1 e2 e3; injection e1 with e1; injection e1 with e1 e4; subst e1 e3 e4
          obtain ⟨fn, tmps, assign, body, hy, hR⟩ := HY.out P T (0) x _ HD.out.j hi1 (by simp at hPl; omega) HD.out.below
          have hnext := fun W3 hJ3 hk3 => MgR.step (n := n) (Ba := Ba) (w := w) (J := J) (A := LA) (B := LB) (P := P) (z := (T, 0)) (W3 := W3) ht1 ht2 hJ3 HD.out.below hk3 (by have := HD.out.eq; rw [this]; rw [List.map_cons, List.map_cons, mrg_eq _ _ hc]) (by have := HD.out.len; simp at this ⊢; omega)
          clear ht1 hi1 ht2 hi2
          by_cases hc2 : cb = 1
          · subst hc2
            obtain rfl : mb = 0 := by omega
            simp only [if_true, Nat.sub_self] at hnext
            by_cases hc1 : ca = 1
            · subst hc1
              obtain rfl : ma = 0 := by omega
              simp only [if_true, Nat.sub_self] at hnext
              gi_wp2_with fail
              gi_region
              gi_wp2_with fail
              gi_region
              gi_wp2_with fail
              refine hR.mono ?_
              rintro e W3 ⟨rfl, hJ3, hk3⟩
              have HN := Lib.hid (hnext W3 hJ3 hk3)
              clear hJ3 hk3 hnext
              gi_wp2_with fail
              go_roundw
              case rel => exact ⟨_, _, _, HN⟩
              case measure => simp [lenT]; try omega
            · rw [if_neg hc1] at hnext
              have hd1 : ¬ ca - 1 = 0 := by omega
              have he1 : ¬ (ca : Int) - 1 = 0 := by omega
              gi_wp2_with fail
              gi_region
              gi_wp2_with fail
              gi_region
              gi_wp2_with fail
              refine hR.mono ?_
              rintro e W3 ⟨rfl, hJ3, hk3⟩
              have HN := Lib.hid (hnext W3 hJ3 hk3)
              clear hJ3 hk3 hnext
              gi_wp2_with fail
              go_roundw
              case rel => exact ⟨_, _, _, HN⟩
              case measure => simp [lenT]; try omega
          · rw [if_neg hc2] at hnext
            have hd2 : ¬ cb - 1 = 0 := by omega
            have he2 : ¬ (cb : Int) - 1 = 0 := by omega
            by_cases hc1 : ca = 1
            · subst hc1
              obtain rfl : ma = 0 := by omega
              simp only [if_true, Nat.sub_self] at hnext
              gi_wp2_with fail
              gi_region
              gi_wp2_with fail
              gi_region
              gi_wp2_with fail
              refine hR.mono ?_
              rintro e W3 ⟨rfl, hJ3, hk3⟩
              have HN := Lib.hid (hnext W3 hJ3 hk3)
              clear hJ3 hk3 hnext
              gi_wp2_with fail
              go_roundw
              case rel => exact ⟨_, _, _, HN⟩
              case measure => simp [lenT]; try omega
            · rw [if_neg hc1] at hnext
              have hd1 : ¬ ca - 1 = 0 := by omega
              have he1 : ¬ (ca : Int) - 1 = 0 := by omega
              gi_wp2_with fail
              gi_region
              gi_wp2_with fail
              gi_region
              gi_wp2_with fail
              refine hR.mono ?_
              rintro e W3 ⟨rfl, hJ3, hk3⟩
              have HN := Lib.hid (hnext W3 hJ3 hk3)
              clear hJ3 hk3 hnext
              gi_wp2_with fail
              go_roundw
              case rel => exact ⟨_, _, _, HN⟩
              case measure => simp [lenT]; try omega
        · obtain rfl : z = 1 := hz.trans hc
          clear hz
          gi_wp2_with fail
          refine inRegion_grown rfl mixed (by kernel_rfl) ?_
          iterate 8 gi_big_quiet_step (fail)
          refine BigFrame.wpQuietIn_want (fun _ _ _ _ => trivial) rfl (fun K hK => ?_)
          gi_big_quiet_op
          apply Exists.intro
          refine ⟨fun _ => (by gi_at_call 48; exact callsIn_wide.2 (Calls.grown_of (HC.out _ _))), ?_⟩
          refine hK _ ?_
          clear hK K
          repeat gi_big_quiet_step (fail)
          refine wpQuietIn_nil ?_
          rintro _ ⟨⟨nq, osq⟩, rfl⟩
          have h6 := HG.out nq osq
          have fa := f1 nq osq
          have fb := f2 nq osq
          clear f0 f1 f2 HC HG
          obtain ⟨w6, hw6⟩ : ∃ w6, w6 = Sort.grow (wr.drewN nq) osq := ⟨_, rfl⟩
          dsimp only at *
          rw [← hw6] at h6 fa fb ⊢
          clear hw6
          have HD := Lib.hid (HR.out.at_ HK.out (h6.drew) hn)
          obtain ⟨b_, off_, c_, e1, -, -, -, -, -, hi2, ht2⟩ := HD.out.b.cons
          rw [← HMB.out] at e1 ht2
          injection e1 with e1 e2 e3; injection e1 with e1; injection e1 with e1 e4; subst e1 e3 e4
          obtain ⟨fn, tmps, assign, body, hy, hR⟩ := HY.out P U (1) y _ HD.out.j hi2 (by simp at hPl; omega) HD.out.below
          have hnext := fun W3 hJ3 hk3 => MgR.step (n := n) (Ba := Ba) (w := w) (J := J) (A := LA) (B := LB) (P := P) (z := (U, 1)) (W3 := W3) HD.out.a ht2 hJ3 HD.out.below hk3 (by have := HD.out.eq; rw [this]; rw [List.map_cons, List.map_cons, mrg_gt _ _ hc]) (by have := HD.out.len; simp at this ⊢; omega)
          clear ht2 hi2
          by_cases hc2 : cb = 1
          · subst hc2
            obtain rfl : mb = 0 := by omega
            simp only [if_true, Nat.sub_self] at hnext
            gi_wp2_with fail
            gi_region
            gi_wp2_with fail
            refine hR.mono ?_
            rintro e W3 ⟨rfl, hJ3, hk3⟩
            have HN := Lib.hid (hnext W3 hJ3 hk3)
            clear hJ3 hk3 hnext
            gi_wp2_with fail
            go_roundw
            case rel => exact ⟨_, _, _, HN⟩
            case measure => simp [lenT]; try omega
          · rw [if_neg hc2] at hnext
            have hd2 : ¬ cb - 1 = 0 := by omega
            have he2 : ¬ (cb : Int) - 1 = 0 := by omega
            gi_wp2_with fail
            gi_region
            gi_wp2_with fail
            refine hR.mono ?_
            rintro e W3 ⟨rfl, hJ3, hk3⟩
            have HN := Lib.hid (hnext W3 hJ3 hk3)
            clear hJ3 hk3 hnext
            gi_wp2_with fail
            go_roundw
            case rel => exact ⟨_, _, _, HN⟩
            case measure => simp [lenT]; try omega
end Go.Proofs.YtaogfgohchpnoaaDoor