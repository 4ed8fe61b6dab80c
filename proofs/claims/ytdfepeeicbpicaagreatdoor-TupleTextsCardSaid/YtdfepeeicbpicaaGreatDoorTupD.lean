/-
  Contract of slices.CompactFunc at tuples, with tuple.listOf's own closure: each run of alike neighbours, once.
-/
import Derived.Test.YtdfepeeicbpicaaGreatDoorTupC
import Derived.Test.YtdfepeeicbpicaaGreatDoorTupQ
import Derived.OwnWalk
import Derived.Laws.OwnMore
import Derived.Laws.AppendOwn
import Derived.Deep.LoopGhost
import Derived.Shelf.SlSortCmp.QuietGrown
import Derived.Lib.SliceRun
import Derived.BigQuiet
import Derived.Deep.AppendLies
import Derived.Maps.AppendAt
import Derived.IntWalk
namespace Go.Proofs.YtdfepeeicbpicaaGreatDoor
open Go Go.RowKit

/-- Alike, by the order. -/
def likeT (x y : Value × List V3) : Bool := cmpT x.2 y.2 == 0

set_option maxHeartbeats 400000 in
theorem eq_any (v1 v2 : Value) (T1 T2 : List V3) (n₀ bc : Nat) (w : World) (h1 : TupIn n₀ w v1 T1) (h2 : TupIn n₀ w v2 T2) (hn : n₀ ≤ w.heap.size) (hc : w.cell? ⟨bc, 0, none⟩ = some (.func (.func 56) #[] #[])) :
    Calls Tryz.prog 71 #[v1, v2, .pointer (some ⟨bc, 0, none⟩)] w fun e w' => e = .returned (.bool (cmpT T1 T2 == 0)) ∧ Grown w w' := by
  have H := Lib.hid (tcompare_any v1 v2 T1 T2 n₀ w h1 h2 hn)
  clear h1 h2
  go_enter Tryz.func71, Tryz.ntmps71
  go_wp2_with fail
  refine H.out.mono ?_
  rintro e w1 ⟨rfl, g1⟩
  go_wp2_with fail
  go_ret
  exact ⟨rfl, g1⟩

theorem Grown.by_ {w w' : World} (h : Grown w w') (row : Option Nat) : w.grownBy w' row :=
  ⟨h.below.os, h.below.tape, h.below.output, h.below.size, fun k hk _ => h.below.block k hk⟩
theorem own_grown {w w' : World} {base : Nat} {e : TypeId} {size : Nat} {v : Value} {n : Nat} {xs : List Value} (h : w.ownsRow base e size v n xs) (hg : Grown w w') : w'.ownsRow base e size v n xs :=
  h.kept (hg.by_ none) (by cases hv : v.ownBlock <;> simp)
/-- A row of one's own, cut. -/
theorem own_cut {w : World} {base : Nat} {e : TypeId} {g n cap k : Nat} {xs : List Value} (h : w.ownsRow base e 1 (.slice (some ⟨g, 0, none⟩) n cap) n xs) (hk : k ≤ n) : w.ownsRow base e 1 (.slice (some ⟨g, 0, none⟩) k cap) k (xs.take k) := by
  obtain ⟨hl, h' | ⟨g', cap', cur, h', hb, hg, hnc, hcm, hcs, htake⟩⟩ := h
  · simp at h'
  · simp only [Value.slice.injEq, Option.some.injEq, Addr.mk.injEq, and_true, true_and] at h'
    obtain ⟨rfl, rfl⟩ := h'
    refine ⟨by rw [List.length_take]; omega, .inr ⟨g, cap, cur, rfl, hb, hg, by omega, hcm, hcs, ?_⟩⟩
    rw [← htake, List.take_take]
    congr 1
    omega
/-- Stores from a place on leave what lies in front. -/
theorem own_stores {base : Nat} {e : TypeId} {g n cap : Nat} : ∀ (vs : List Value) (o : Nat) (w : World) (xs : List Value), w.ownsRow base e 1 (.slice (some ⟨g, 0, none⟩) n cap) n xs →
    ∃ ys, (w.setCells g o vs).ownsRow base e 1 (.slice (some ⟨g, 0, none⟩) n cap) n ys ∧ w.grownBy (w.setCells g o vs) (some g) ∧ ys.take o = xs.take o
  | [], o, w, xs, h => ⟨xs, h, World.grownBy.refl _ _, rfl⟩
  | v :: r, o, w, xs, h => by
    obtain ⟨h1, g1⟩ := h.stored o v
    obtain ⟨ys, h2, g2, e2⟩ := own_stores r (o + 1) _ _ h1
    refine ⟨ys, h2, g1.trans g2, ?_⟩
    have e3 := congrArg (fun z : List Value => z.take o) e2
    simp only [List.take_take] at e3
    rw [show min o (o + 1) = o by omega] at e3
    rw [e3]
    simp [List.take_set_of_le]
theorem zeroTup (w : World) : (zeroValue 23).run Tryz.prog w = .ok (.slice none 0 0) w := by kernel_rfl

theorem by_below {w w' : World} {g n₀ : Nat} (h : w.grownBy w' (some g)) (hn : n₀ ≤ g) (hs : n₀ ≤ w.heap.size) : Below n₀ w w' :=
  ⟨h.os, h.tape, h.output, h.size, fun k hk => h.block k (by omega) (by simp; omega)⟩
/-- The tuples of a row, as they lie, read as they are. -/
def AllIn (n₀ : Nat) (w : World) (P : List (Value × List V3)) : Prop := ∀ x ∈ P, TupIn n₀ w x.1 x.2

/-- What CompactFunc leaves. -/
def CompEnd (w : World) (n₀ g cap : Nat) (P : List (Value × List V3)) (e : Ending) (w' : World) : Prop :=
  e = .returned (.slice (some ⟨g, 0, none⟩) (dedup likeT P).length cap) ∧ w'.ownsRow n₀ 23 1 (.slice (some ⟨g, 0, none⟩) (dedup likeT P).length cap) (dedup likeT P).length ((dedup likeT P).map (·.1)) ∧ w.grownBy w' (some g)

set_option maxHeartbeats 4000000 in
set_option maxRecDepth 100000 in
theorem compactF_any (w : World) (n₀ g cap bc : Nat) (P : List (Value × List V3)) (hown : w.ownsRow n₀ 23 1 (.slice (some ⟨g, 0, none⟩) P.length cap) P.length (P.map (·.1))) (hP : AllIn n₀ w P) (hlen : P.length ≤ 1000000)
    (hn₀ : n₀ ≤ w.heap.size) (hcl : w.cell? ⟨bc, 0, none⟩ = some (.func (.func 56) #[] #[])) (hbc : bc < w.heap.size) (hne : bc ≠ g) :
    Calls Tryz.prog 70 #[.slice (some ⟨g, 0, none⟩) P.length cap, .func (.func 71) #[] #[.pointer (some ⟨bc, 0, none⟩)]] w (CompEnd w n₀ g cap P) := by
  obtain ⟨hg0, hg1⟩ := hown.lt g rfl
  have hcap : P.length ≤ cap ∧ cap ≤ maxLen := by
    obtain ⟨-, h' | ⟨g', cap', cur, h', -, -, hnc, hcm, -, -⟩⟩ := hown
    · simp at h'
    · simp only [Value.slice.injEq, Option.some.injEq, Addr.mk.injEq, and_true, true_and] at h'
      obtain ⟨rfl, rfl⟩ := h'
      exact ⟨hnc, hcm⟩
  unfold maxLen at hcap
  have mixed : Tryz.prog.follows .mixedOrders = true := by kernel_rfl
  obtain ⟨hc1, hc2⟩ := hcap
  have HO := Lib.hid hown
  have HP := Lib.hid hP
  have HC := Lib.hid hcl
  clear hown hP hcl
  by_cases h2 : P.length < 2
  · have h2' : (P.length : Int) < 2 := by omega
    have HD := Lib.hid (dedup_short likeT h2)
    go_enter Tryz.func70, Tryz.ntmps70
    go_wp2_with fail
    go_ret
    unfold CompEnd
    rw [HD.out]
    exact ⟨rfl, HO.out, World.grownBy.refl _ _⟩
  · have h2' : (2 : Int) ≤ (P.length : Int) := by omega
    go_enter Tryz.func70, Tryz.ntmps70
    go_wp2_with fail
    go_loopg [5] P.length (fun gg s5 wr => ∃ k : Nat, 1 ≤ k ∧ k ≤ P.length ∧ P.length - k ≤ gg ∧ s5 = .int .i64 k ∧ Hid (Grown w wr) ∧ Hid (dedup likeT (P.take k) = P.take k))
    case atStart => exact ⟨1, Nat.le_refl _, by omega, by omega, rfl, Lib.hid (Grown.refl _), Lib.hid (dedup_one likeT P)⟩
    case round =>
      obtain ⟨k, hk1, hk2, hgg, rfl, hgr, hdd⟩ := hrel
      by_cases hlt : k < P.length
      · have hlt' : (k : Int) < (P.length : Int) := by omega
        have hk1' : (1 : Int) ≤ (k : Int) := by omega
        have hkc : (k : Int) ≤ (cap : Int) := by omega
        have hkc2 : k < cap := by omega
        have hsz := hgr.out.size
        have hownr := own_grown HO.out hgr.out
        have cAt : ∀ j (hj : j < P.length) n os, (Sort.grow (wr.drewN n) os).cell? ⟨g, j, none⟩ = some P[j].1 := fun j hj n os => by
          have := (own_grown hownr ⟨n, os, rfl⟩).cellAt j (by omega)
          rw [this]
          simp [hj]
        have cK := cAt k hlt
        have cP := cAt (k - 1) (by omega)
        have HA : Hid (∀ n os, Calls Tryz.prog 71 #[P[k].1, (P[k - 1]'(by omega)).1, .pointer (some ⟨bc, 0, none⟩)] (Sort.grow (wr.drewN n) os) fun e w' => e = .returned (.bool (likeT P[k] (P[k - 1]'(by omega)))) ∧ ∃ q os', w' = Sort.grow ((Sort.grow (wr.drewN n) os).drewN q) os') := Lib.hid (fun n os => by
          have hG : Grown w (Sort.grow (wr.drewN n) os) := hgr.out.trans ⟨n, os, rfl⟩
          have hB := hG.below.mono hn₀
          exact eq_any _ _ _ _ n₀ bc _ ((HP.out _ (List.getElem_mem _)).below hB) ((HP.out _ (List.getElem_mem _)).below hB) (by have := hG.size; omega) ((hG.below.cell (p := ⟨bc, 0, none⟩) hbc).trans HC.out))
        clear cAt hownr
        cases hb : likeT P[k] (P[k - 1]'(by omega)) with
        | false =>
          rw [hb] at HA
          have HN := Lib.hid (dedup_keep likeT hk1 hlt hdd.out hb)
          clear hb
          generalize P[k].1 = x at cK HA
          generalize (P[k - 1]'(by omega)).1 = y at cP HA
          go_wp2_with fail
          have e1 : IntKind.i64.wrap ((k : Int) - 1) = (k : Int) - 1 := IntWalk.i64_in _ (by omega)
          have e3 : (k : Int) - 1 < (P.length : Int) := by omega
          have e4 : (k : Int) < (P.length : Int) + 1 := by omega
          have e5 : (0 : Int) ≤ (k : Int) - 1 := by omega
          have e2 : ((k : Int) - 1).toNat = k - 1 := by omega
          go_quiet_grown ((go_at_call 71; exact Calls.grown_of (HA.out _ _)))
          clear e1 e2 e3 e4 e5 cK cP HA
          go_wp2
          go_roundg (P.length - (k + 1))
          case measure => omega
          case rel => exact ⟨k + 1, by omega, by omega, Nat.le_refl _, by go_num, Lib.hid (hgr.out.trans ⟨nq, osq, rfl⟩), HN⟩
        | true =>
          rw [hb] at HA
          have HI := Lib.hid (DedInv.start (f := fun x : Value × List V3 => x.1) hk1 hlt hdd.out hb)
          clear hb
          generalize P[k].1 = x at cK HA
          generalize (P[k - 1]'(by omega)).1 = y at cP HA
          go_wp2_with fail
          have e1 : IntKind.i64.wrap ((k : Int) - 1) = (k : Int) - 1 := IntWalk.i64_in _ (by omega)
          have e3 : (k : Int) - 1 < (P.length : Int) := by omega
          have e4 : (k : Int) < (P.length : Int) + 1 := by omega
          have e5 : (0 : Int) ≤ (k : Int) - 1 := by omega
          have e2 : ((k : Int) - 1).toNat = k - 1 := by omega
          go_quiet_grown ((go_at_call 71; exact Calls.grown_of (HA.out _ _)))
          clear e1 e2 e3 e4 e5 cK cP HA
          have hg2 : Grown w (Sort.grow (wr.drewN nq) osq) := hgr.out.trans ⟨nq, osq, rfl⟩
          generalize Sort.grow (wr.drewN nq) osq = W1 at hg2
          have HG2 := Lib.hid hg2
          clear hg2
          go_wp2
          go_loopg [5, 7] P.length (fun gg s5 s7 wr => ∃ (kk k2 : Nat) (C : List Value), s5 = .int .i64 kk ∧ s7 = .int .i64 k2 ∧ 1 ≤ k2 ∧ k + k2 ≤ P.length ∧ P.length - (k + k2) ≤ gg ∧ Hid (wr.ownsRow n₀ 23 1 (.slice (some ⟨g, 0, none⟩) P.length cap) P.length C) ∧ Hid (w.grownBy wr (some g)) ∧ Hid (DedInv likeT (fun x : Value × List V3 => x.1) P (k + k2) kk C))
          case atStart => exact ⟨k, 1, P.map (·.1), rfl, rfl, Nat.le_refl _, by omega, by omega, Lib.hid (own_grown HO.out HG2.out), Lib.hid (HG2.out.by_ _), HI⟩
          case round =>
            obtain ⟨kk, k2, C, rfl, rfl, q1, q2, q3, hO2, hG2, hI2⟩ := hrel
            have hkk := hI2.out.klt
            have hsz2 := hG2.out.size
            by_cases hlt2 : k + k2 < P.length
            · have cAt : ∀ j (hj : j < P.length), k + k2 - 1 ≤ j → ∀ n os, (Sort.grow (wr.drewN n) os).cell? ⟨g, j, none⟩ = some P[j].1 := fun j hj hle n os => by
                have := (own_grown hO2.out ⟨n, os, rfl⟩).cellAt j (by omega)
                rw [this]
                exact hI2.out.at hle hj
              have cK := cAt (k + k2) hlt2 (by omega)
              have cP : ∀ n os, (Sort.grow (wr.drewN n) os).cell? ⟨g, k + (k2 - 1), none⟩ = some (P[k + k2 - 1]'(by omega)).1 := fun n os => by
                rw [show k + (k2 - 1) = k + k2 - 1 by omega]
                exact cAt (k + k2 - 1) (by omega) (Nat.le_refl _) n os
              have HA : Hid (∀ n os, Calls Tryz.prog 71 #[P[k + k2].1, (P[k + k2 - 1]'(by omega)).1, .pointer (some ⟨bc, 0, none⟩)] (Sort.grow (wr.drewN n) os) fun e w' => e = .returned (.bool (likeT P[k + k2] (P[k + k2 - 1]'(by omega)))) ∧ ∃ q os', w' = Sort.grow ((Sort.grow (wr.drewN n) os).drewN q) os') := Lib.hid (fun n os => by
                have hG : Grown wr (Sort.grow (wr.drewN n) os) := ⟨n, os, rfl⟩
                have hB := (by_below hG2.out hg0 hn₀).trans (hG.below.mono (by omega))
                exact eq_any _ _ _ _ n₀ bc _ ((HP.out _ (List.getElem_mem _)).below hB) ((HP.out _ (List.getElem_mem _)).below hB) (by have := hG.size; omega) ((hG.below.cell (p := ⟨bc, 0, none⟩) (by show bc < _; omega)).trans (hG2.out.cell HC.out (by simpa using hne))))
              clear cAt
              have a1 : (k2 : Int) < ((P.length - k : Nat) : Int) := by omega
              have a2 : (k2 : Int) < (P.length : Int) - (k : Int) := by omega
              have a3 : (1 : Int) ≤ (k2 : Int) := by omega
              have a4 : k2 < P.length - k := by omega
              have a5 : (kk : Int) < (P.length : Int) := by omega
              cases hb2 : likeT P[k + k2] (P[k + k2 - 1]'(by omega)) with
              | true =>
                rw [hb2] at HA
                have HN := Lib.hid (hI2.out.skip hlt2 hb2)
                clear hb2
                generalize P[k + k2].1 = x at cK HA
                generalize (P[k + k2 - 1]'(by omega)).1 = y at cP HA
                go_wp2_with fail
                have e1 : IntKind.i64.wrap ((k2 : Int) - 1) = (k2 : Int) - 1 := IntWalk.i64_in _ (by omega)
                have e3 : (k2 : Int) - 1 < (P.length : Int) - (k : Int) := by omega
                have e6 : (k2 : Int) - 1 < ((P.length - k : Nat) : Int) := by omega
                have e7 : (k2 : Int) < ((P.length - k : Nat) : Int) + 1 := by omega
                have e4 : (k2 : Int) < (P.length : Int) - (k : Int) + 1 := by omega
                have e5 : (0 : Int) ≤ (k2 : Int) - 1 := by omega
                have e2 : ((k2 : Int) - 1).toNat = k2 - 1 := by omega
                go_quiet_grown ((go_at_call 71; exact Calls.grown_of (HA.out _ _)))
                clear e1 e2 e3 e4 e5 e6 e7 cK cP HA
                go_wp2
                go_roundg (P.length - (k + (k2 + 1)))
                case measure => omega
                case rel => exact ⟨kk, k2 + 1, C, rfl, by go_num, by omega, by omega, Nat.le_refl _, Lib.hid (own_grown hO2.out ⟨nq, osq, rfl⟩), Lib.hid (hG2.out.trans (Grown.by_ ⟨nq, osq, rfl⟩ _)), HN⟩
              | false =>
                rw [hb2] at HA
                have HN := Lib.hid (hI2.out.keep hlt2 hb2)
                clear hb2
                obtain ⟨px, nx, cx, hx⟩ : ∃ p n c, P[k + k2].1 = .slice p n c := by
                  obtain ⟨p, c, h, -⟩ := HP.out _ (List.getElem_mem hlt2)
                  exact ⟨p, _, c, h⟩
                have HX := Lib.hid hx
                rw [hx] at cK HA
                clear hx
                generalize (P[k + k2 - 1]'(by omega)).1 = y at cP HA
                go_wp2_with fail
                have e1 : IntKind.i64.wrap ((k2 : Int) - 1) = (k2 : Int) - 1 := IntWalk.i64_in _ (by omega)
                have e3 : (k2 : Int) - 1 < (P.length : Int) - (k : Int) := by omega
                have e6 : (k2 : Int) - 1 < ((P.length - k : Nat) : Int) := by omega
                have e7 : (k2 : Int) < ((P.length - k : Nat) : Int) + 1 := by omega
                have e4 : (k2 : Int) < (P.length : Int) - (k : Int) + 1 := by omega
                have e5 : (0 : Int) ≤ (k2 : Int) - 1 := by omega
                have e2 : ((k2 : Int) - 1).toNat = k2 - 1 := by omega
                go_quiet_grown ((go_at_call 71; exact Calls.grown_of (HA.out _ _)))
                clear e1 e2 e3 e4 e5 e6 e7 cP HA
                have cX := cK nq osq
                clear cK
                have hO3 := own_grown hO2.out (w' := Sort.grow (wr.drewN nq) osq) ⟨nq, osq, rfl⟩
                have hG3 := hG2.out.trans (Grown.by_ (w := wr) (w' := Sort.grow (wr.drewN nq) osq) ⟨nq, osq, rfl⟩ (some g))
                generalize Sort.grow (wr.drewN nq) osq = W3 at cX hO3 hG3
                have ck := hO3.cellAt kk (by omega)
                have fk := hO3.frozenAt kk
                obtain ⟨old, hold⟩ : ∃ old, C[kk]? = some old := ⟨_, List.getElem?_eq_getElem (by have := hI2.out.len; omega)⟩
                rw [hold] at ck
                have HO3 := Lib.hid hO3
                have HG3 := Lib.hid hG3
                clear hO3 hG3 hold
                go_wp2
                go_roundg (P.length - (k + (k2 + 1)))
                case measure => omega
                case rel => exact ⟨kk + 1, k2 + 1, C.set kk P[k + k2].1, by go_num, by go_num, by omega, by omega, Nat.le_refl _, Lib.hid (by rw [HX.out]; exact (HO3.out.stored kk _).1), Lib.hid (HG3.out.trans (HO3.out.stored kk (.slice px nx cx)).2), HN⟩
            · have hend : k + k2 = P.length := by omega
              have hlen2 := hI2.out.len
              have hcl : ∀ ty, (Builtin.clear_ #[50] ty #[.slice (some ⟨g, kk, none⟩) (P.length - kk) (cap - kk)]).run Tryz.prog wr = .ok (.tuple #[]) (wr.setCells g kk (List.replicate (P.length - kk) (.slice none 0 0))) := fun ty =>
                Lib.run_clear_slice wr _ _ ty _ Tryz.underlying50 zeroTup rfl rfl g kk _ _ (by omega) (fun j hj => by rw [hO2.out.cellAt (kk + j) (by omega), List.getElem?_eq_getElem (by omega)]; rfl) (fun j hj => hO2.out.frozenAt (kk + j))
              obtain ⟨ys, hys, hgy, hty⟩ := own_stores (List.replicate (P.length - kk) (.slice none 0 0)) kk wr C hO2.out
              have hcut := own_cut hys (k := kk) (by omega)
              have hdone := hI2.out
              rw [hend] at hdone
              obtain ⟨d1, d2⟩ := hdone.done
              rw [hty, d2] at hcut
              have HE : Hid (wr.setCells g kk (List.replicate (P.length - kk) (.slice none 0 0)) |>.ownsRow n₀ 23 1 (.slice (some ⟨g, 0, none⟩) kk cap) kk ((dedup likeT P).map (·.1))) := Lib.hid hcut
              have HG4 := Lib.hid (hG2.out.trans hgy)
              have HK := Lib.hid d1
              have b1 : (kk : Int) ≤ (cap : Int) := by omega
              have b2 : (kk : Int) ≤ (P.length : Int) := by omega
              have b3 : (P.length : Int) - (k : Int) ≤ (k2 : Int) := by omega
              have b4 : ((P.length - k : Nat) : Int) ≤ (k2 : Int) := by omega
              clear hys hgy hty hcut hdone d1 d2 hend
              go_wp2
              go_ret
              unfold CompEnd
              rw [← HK.out]
              exact ⟨rfl, HE.out, HG4.out⟩
      · obtain rfl : k = P.length := by omega
        have hge : (P.length : Int) ≤ (P.length : Int) := by omega
        have HD : Hid (dedup likeT P = P) := Lib.hid (by have := hdd.out; rwa [List.take_length] at this)
        go_wp2
        go_ret
        unfold CompEnd
        rw [HD.out]
        exact ⟨rfl, own_grown HO.out hgr.out, hgr.out.by_ _⟩
end Go.Proofs.YtdfepeeicbpicaaGreatDoor
