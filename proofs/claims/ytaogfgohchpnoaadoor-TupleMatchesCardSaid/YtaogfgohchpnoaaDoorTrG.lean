/-
  The place of a tuple in a row; rows against each other; rows in order.
-/
import Derived.Test.YtaogfgohchpnoaaDoorTrF
import Derived.Test.YtaogfgohchpnoaaDoorTrP
import Derived.Test.YtaogfgohchpnoaaDoorTck
namespace Go.Proofs.YtaogfgohchpnoaaDoor
open Go Go.RowKit

theorem kept_ris : ∀ (l : List (Value × List V3)) (p : Value × List V3), (p :: l).Pairwise (fun x y => cmpT x.2 y.2 ≤ 0) → Ris ((p :: keptFrom likeT p l).map (·.2)) ∧ ∀ x, x ∈ (p :: keptFrom likeT p l).map (·.2) ↔ x ∈ (p :: l).map (·.2)
  | [], p, _ => ⟨by simp [keptFrom, Ris], fun x => Iff.rfl⟩
  | y :: r, p, h => by
    obtain ⟨h1, h2⟩ := List.pairwise_cons.1 h
    obtain ⟨i1, i2⟩ := kept_ris r y h2
    unfold keptFrom
    by_cases e : likeT y p = true
    · rw [if_pos e]
      have e' : y.2 = p.2 := (cmpT_zero _ _).1 (by simpa [likeT] using e)
      rw [List.map_cons, ← e', ← List.map_cons (f := fun x : Value × List V3 => x.2)]
      refine ⟨i1, fun x => ?_⟩
      rw [i2, List.map_cons, List.map_cons, List.map_cons, List.mem_cons, List.mem_cons, List.mem_cons, ← e']
      exact ⟨.inr, fun h => h.elim .inl id⟩
    · rw [if_neg e]
      have hlt : cmpT p.2 y.2 < 0 := by
        have a := h1 y List.mem_cons_self
        have b : cmpT p.2 y.2 ≠ 0 := fun z => e (by
          have := cmpT_neg y.2 p.2
          simp [likeT, this, z])
        omega
      refine ⟨?_, fun x => ?_⟩
      · rw [List.map_cons]
        refine List.pairwise_cons.2 ⟨fun z hz => ?_, i1⟩
        obtain ⟨u, hu, rfl⟩ := List.mem_map.1 ((i2 z).1 hz)
        rcases List.mem_cons.1 hu with rfl | hu
        · exact hlt
        · exact cmpT_trans_lt _ _ _ hlt ((List.pairwise_cons.1 h2).1 u hu)
      · rw [List.map_cons, List.mem_cons, i2, ← List.mem_cons, ← List.map_cons (f := fun x : Value × List V3 => x.2)]
theorem dedup_srt {P P' : List (Value × List V3)} (hp : P'.Perm P) (hs : SortedP P') : (dedup likeT P').map (·.2) = srtL (P.map (·.2)) := by
  have h : Ris ((dedup likeT P').map (·.2)) ∧ ∀ x, x ∈ (dedup likeT P').map (·.2) ↔ x ∈ P'.map (·.2) := by
    cases P' with
    | nil => exact ⟨List.Pairwise.nil, fun x => Iff.rfl⟩
    | cons y r => exact kept_ris r y hs
  exact ris_eq h.1 (srt_ris _) fun x => by rw [h.2, srt_mem, (hp.map (·.2)).mem_iff]

/-- A row of tuples that is read: the element at a place. -/
theorem RowsIn.elem {n : Nat} {w w' : World} {a : Option Addr} {m c : Nat} {P : List (Value × List V3)} (h : RowsIn n w (.slice a m c) P) (hb : Below n w w') {k : Nat} (hk : k < P.length) :
    ∃ b off, a = some ⟨b, off, none⟩ ∧ w'.cell? ⟨b, off + k, none⟩ = some P[k].1 ∧ TupIn n w' P[k].1 P[k].2 := by
  obtain ⟨a', c', e, -, hr, ha⟩ := h
  rcases hr with h | ⟨b, off, e', h1, h2⟩
  · rw [h] at hk; simp at hk
  · injection e with e1 _ _
    exact ⟨b, off, e1.trans e', (hb.cell (p := ⟨b, off + k, none⟩) h1).trans (h2 k hk), (ha _ (List.getElem_mem hk)).below hb⟩
theorem map_take {P : List (Value × List V3)} {k : Nat} (hk : k < P.length) : (P.take (k + 1)).map (·.2) = (P.take k).map (·.2) ++ [P[k].2] := by
  rw [List.take_succ_eq_append_getElem hk, List.map_append]; rfl
/-- What Place leaves. -/
def PlaceEnd (P : List (Value × List V3)) (T : List V3) (w : World) (e : Ending) (w' : World) : Prop :=
  e = .returned (.tuple #[.int .i64 (plN (P.map (·.2)) T : Nat), .bool (plI (P.map (·.2)) T)]) ∧ Below w.heap.size w w'
set_option maxHeartbeats 2000000 in
set_option maxRecDepth 100000 in
theorem rplace_any (v tv : Value) (P : List (Value × List V3)) (T : List V3) (w : World) (h : RowsIn w.heap.size w v P) (ht : TupIn w.heap.size w tv T) :
    Calls Tryd.prog 70 #[v, tv] w (PlaceEnd P T w) := by
  have HR := Lib.hid h
  have HT := Lib.hid ht
  obtain ⟨a, cap, rfl, hlen⟩ := h.form
  clear h ht
  go_enter Tryd.func70, Tryd.ntmps70
  go_wp2_with fail
  go_loopw [6, 7, 8] (fun n z i wr => ∃ k : Nat, k ≤ P.length ∧ i = .int .i64 k ∧ (∃ q : Nat, n = .int .i64 q ∧ q ≤ k ∧ Hid (q = plN ((P.take k).map (·.2)) T)) ∧ z = .bool (plI ((P.take k).map (·.2)) T) ∧ Hid (Below w.heap.size w wr)) (fun _ _ i _ => P.length - (intOf i).toNat)
  case atStart => exact ⟨0, Nat.zero_le _, rfl, ⟨0, rfl, Nat.le_refl _, Lib.hid rfl⟩, rfl, Lib.hid (Below.refl _ _)⟩
  case round =>
    obtain ⟨k, hk, rfl, ⟨q, rfl, hqk, hq⟩, rfl, hB⟩ := hrel
    have h0 : (0 : Int) ≤ (k : Int) := by omega
    by_cases hlt : k < P.length
    · have hlt' : (k : Int) < (P.length : Int) := by omega
      obtain ⟨b, off, rfl, hx0, hin⟩ := HR.out.elem hB.out hlt
      have hsz := hB.out.size
      have HC := Lib.hid (rcompare_any _ tv _ T w.heap.size wr hin (HT.out.below hB.out) hsz)
      have HM := Lib.hid (map_take hlt)
      obtain ⟨x, X, hx, hX⟩ : ∃ x X, x = P[k].1 ∧ X = P[k].2 := ⟨_, _, rfl, rfl⟩
      rw [← hx] at hx0 HC
      rw [← hX] at HC HM
      have HI : Hid (plI ((P.take (k + 1)).map (·.2)) T = (plI ((P.take k).map (·.2)) T || cmpT X T == 0)) := Lib.hid (by rw [HM.out, plI_snoc])
      have HN : Hid (plN ((P.take (k + 1)).map (·.2)) T = q + if cmpT X T < 0 then 1 else 0) := Lib.hid (by rw [HM.out, plN_snoc, ← hq.out])
      obtain ⟨z, hz⟩ : ∃ z, z = plI ((P.take k).map (·.2)) T := ⟨_, rfl⟩
      rw [← hz] at HI ⊢
      clear hz hx hX hin HM hq
      cases z with
      | false =>
        rcases cmpT_cases X T with hc | hc | hc
        · rw [hc] at HC HI HN
          go_wp2_with fail
          refine HC.out.mono ?_
          rintro e w1 ⟨rfl, hb1⟩
          have HB := Lib.hid (hB.out.trans (hb1.below.mono hsz))
          clear hb1
          go_wp2_with fail
          go_roundw
          case rel => exact ⟨k + 1, by omega, by go_num, ⟨q + 1, by go_num, by omega, Lib.hid (by rw [HN.out]; rfl)⟩, by rw [HI.out]; simp, HB⟩
          case measure => simp [intOf]; omega
        · rw [hc] at HC HI HN
          go_wp2_with fail
          refine HC.out.mono ?_
          rintro e w1 ⟨rfl, hb1⟩
          have HB := Lib.hid (hB.out.trans (hb1.below.mono hsz))
          clear hb1
          go_wp2_with fail
          go_roundw
          case rel => exact ⟨k + 1, by omega, by go_num, ⟨q, rfl, by omega, Lib.hid (by rw [HN.out]; rfl)⟩, by rw [HI.out]; simp, HB⟩
          case measure => simp [intOf]; omega
        · rw [hc] at HC HI HN
          go_wp2_with fail
          refine HC.out.mono ?_
          rintro e w1 ⟨rfl, hb1⟩
          have HB := Lib.hid (hB.out.trans (hb1.below.mono hsz))
          clear hb1
          go_wp2_with fail
          go_roundw
          case rel => exact ⟨k + 1, by omega, by go_num, ⟨q, rfl, by omega, Lib.hid (by rw [HN.out]; rfl)⟩, by rw [HI.out]; simp, HB⟩
          case measure => simp [intOf]; omega
      | true =>
        rcases cmpT_cases X T with hc | hc | hc
        · rw [hc] at HC HI HN
          go_wp2_with fail
          refine HC.out.mono ?_
          rintro e w1 ⟨rfl, hb1⟩
          have HB := Lib.hid (hB.out.trans (hb1.below.mono hsz))
          clear hb1
          go_wp2_with fail
          go_roundw
          case rel => exact ⟨k + 1, by omega, by go_num, ⟨q + 1, by go_num, by omega, Lib.hid (by rw [HN.out]; rfl)⟩, by rw [HI.out]; simp, HB⟩
          case measure => simp [intOf]; omega
        · rw [hc] at HC HI HN
          go_wp2_with fail
          refine HC.out.mono ?_
          rintro e w1 ⟨rfl, hb1⟩
          have HB := Lib.hid (hB.out.trans (hb1.below.mono hsz))
          clear hb1
          go_wp2_with fail
          go_roundw
          case rel => exact ⟨k + 1, by omega, by go_num, ⟨q, rfl, by omega, Lib.hid (by rw [HN.out]; rfl)⟩, by rw [HI.out]; simp, HB⟩
          case measure => simp [intOf]; omega
        · rw [hc] at HC HI HN
          go_wp2_with fail
          refine HC.out.mono ?_
          rintro e w1 ⟨rfl, hb1⟩
          have HB := Lib.hid (hB.out.trans (hb1.below.mono hsz))
          clear hb1
          go_wp2_with fail
          go_roundw
          case rel => exact ⟨k + 1, by omega, by go_num, ⟨q, rfl, by omega, Lib.hid (by rw [HN.out]; rfl)⟩, by rw [HI.out]; simp, HB⟩
          case measure => simp [intOf]; omega
    · have hlt' : (P.length : Int) ≤ (k : Int) := by omega
      obtain rfl : k = P.length := by omega
      have HE := Lib.hid (List.take_length (l := P))
      rw [HE.out] at hq ⊢
      go_wp2_with fail
      go_ret2
      have e := hq.out
      subst e
      exact ⟨rfl, hB.out⟩
set_option maxHeartbeats 2000000 in
set_option maxRecDepth 100000 in
/-- Two rows that read alike are the same to the document. -/
theorem samerel_any (v1 v2 : Value) (P1 P2 : List (Value × List V3)) (w : World) (h1 : RowsIn w.heap.size w v1 P1) (h2 : RowsIn w.heap.size w v2 P2) (hE : P1.map (·.2) = P2.map (·.2)) :
    Calls Tryd.prog 9 #[v1, v2] w fun e w' => e = .returned (.bool true) ∧ Below w.heap.size w w' := by
  have mixed : Tryd.prog.follows .mixedOrders = true := by kernel_rfl
  have H1 := Lib.hid h1
  have H2 := Lib.hid h2
  have HE := Lib.hid hE
  have hl : P2.length = P1.length := by have := congrArg List.length hE; simpa using this.symm
  obtain ⟨a1, c1, rfl, hlen⟩ := h1.form
  obtain ⟨a2, c2, e2, -⟩ := h2.form
  rw [hl] at e2
  subst e2
  clear h1 h2 hE
  go_enter Tryd.func9, Tryd.ntmps9
  go_wp2_with fail
  go_loopw [5] (fun i wr => ∃ k : Nat, k ≤ P1.length ∧ i = .int .i64 k ∧ Hid (Grown w wr)) (fun i _ => P1.length - (intOf i).toNat)
  case atStart => exact ⟨0, Nat.zero_le _, rfl, Lib.hid (Grown.refl _)⟩
  case round =>
    obtain ⟨k, hk, rfl, hg⟩ := hrel
    have h0 : (0 : Int) ≤ (k : Int) := by omega
    by_cases hlt : k < P1.length
    · have hlt' : (k : Int) < (P1.length : Int) := by omega
      have hlt2 : k < P2.length := by omega
      have gb : ∀ n os, Grown w (Sort.grow (wr.drewN n) os) := fun n os => hg.out.trans ⟨n, os, rfl⟩
      obtain ⟨b1, o1, rfl, -, -⟩ := H1.out.elem hg.out.below hlt
      obtain ⟨b2, o2, rfl, -, -⟩ := H2.out.elem hg.out.below hlt2
      have x1 : ∀ n os, (Sort.grow (wr.drewN n) os).cell? ⟨b1, o1 + k, none⟩ = some P1[k].1 := fun n os => by
        obtain ⟨b, o, e, h, -⟩ := H1.out.elem (gb n os).below hlt
        injection e with e; injection e with e e'; subst e e'; exact h
      have x2 : ∀ n os, (Sort.grow (wr.drewN n) os).cell? ⟨b2, o2 + k, none⟩ = some P2[k].1 := fun n os => by
        obtain ⟨b, o, e, h, -⟩ := H2.out.elem (gb n os).below hlt2
        injection e with e; injection e with e e'; subst e e'; exact h
      have HT : P1[k].2 = P2[k].2 := by
        have := congrArg (fun z : List (List V3) => z[k]?) HE.out
        simpa [hlt, hlt2] using this
      have HC : Hid (∀ n os, Calls Tryd.prog 37 #[P1[k].1, P2[k].1] (Sort.grow (wr.drewN n) os) fun e w' => e = .returned (.bool true) ∧ ∃ q os', w' = Sort.grow ((Sort.grow (wr.drewN n) os).drewN q) os') := Lib.hid (fun n os => by
        obtain ⟨_, _, -, -, i1⟩ := H1.out.elem (gb n os).below hlt
        obtain ⟨_, _, -, -, i2⟩ := H2.out.elem (gb n os).below hlt2
        refine (same_any _ _ _ _ w.heap.size _ i1 i2 (gb n os).size).mono fun e w' ⟨he, hw⟩ => ⟨?_, hw⟩
        rw [he, HT, cmpT_self]
        rfl)
      clear HT gb
      generalize P1[k].1 = x at x1 HC
      generalize P2[k].1 = y at x2 HC
      go_wp2_with fail
      go_quiet_grown ((go_at_call 37; exact Calls.grown_of (HC.out _ _)))
      go_wp2
      go_roundw
      case rel => exact ⟨k + 1, by omega, by go_num, Lib.hid (hg.out.trans ⟨nq, osq, rfl⟩)⟩
      case measure => simp [intOf]; omega
    · have hlt' : (P1.length : Int) ≤ (k : Int) := by omega
      obtain rfl : k = P1.length := by omega
      go_wp2_with fail
      go_ret
      exact ⟨rfl, hg.out.below⟩
end Go.Proofs.YtaogfgohchpnoaaDoor
