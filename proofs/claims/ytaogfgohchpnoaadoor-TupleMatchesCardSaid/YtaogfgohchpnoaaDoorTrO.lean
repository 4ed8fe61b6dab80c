/-
  The document's Sorted; both CheckRel.
-/
import Derived.Test.YtaogfgohchpnoaaDoorTrT
import Derived.BigQuiet
namespace Go.Proofs.YtaogfgohchpnoaaDoor
open Go Go.RowKit

/-- What the document's Sorted leaves. -/
def RsEnd (w : World) (P : List (Value × List V3)) (e : Ending) (w' : World) : Prop :=
  ∃ (v' : Value) (P' : List (Value × List V3)), e = .returned v' ∧ RowsIn w'.heap.size w' v' P' ∧ P'.map (·.2) = srtL (P.map (·.2)) ∧ Below w.heap.size w w'
theorem fold_len (L : List (List V3)) : ∀ A : List (List V3), (L.foldl insT A).length ≤ A.length + L.length := by
  induction L with
  | nil => intro A; simp
  | cons a r ih =>
    intro A
    have h1 := ih (insT A a)
    have h2 := ins_len A a
    rw [List.foldl_cons, List.length_cons]
    omega
theorem RowsCap.step {w w' : World} {v : Value} {P : List (Value × List V3)} (h : RowsCap w.heap.size w v P) (hb : Below w.heap.size w w') : RowsCap w'.heap.size w' v P := ⟨h.1.step hb, h.2⟩
set_option maxHeartbeats 2000000 in
set_option maxRecDepth 100000 in
theorem rsorted_any (v : Value) (P : List (Value × List V3)) (w : World) (h : RowsIn w.heap.size w v P) (hlen : P.length ≤ 900) :
    Calls Tryd.prog 38 #[v] w (RsEnd w P) := by
  have HR := Lib.hid h
  obtain ⟨a, cap, rfl, -⟩ := h.form
  clear h
  go_enter Tryd.func38, Tryd.ntmps38
  go_wp2_with fail
  go_loopw [3, 4] (fun o i wr => ∃ k : Nat, k ≤ P.length ∧ i = .int .i64 k ∧ (∃ P' : List (Value × List V3), Hid (RowsCap wr.heap.size wr o P') ∧ Hid (P'.map (·.2) = srtL ((P.take k).map (·.2)))) ∧ Hid (Below w.heap.size w wr)) (fun _ i _ => P.length - (intOf i).toNat)
  case atStart => exact ⟨0, Nat.zero_le _, rfl, ⟨[], Lib.hid ⟨⟨none, 0, rfl, by simp, .inl rfl, fun x hx => by cases hx⟩, none, 0, rfl, Nat.le_refl _, by simp⟩, Lib.hid rfl⟩, Lib.hid (Below.refl _ _)⟩
  case round =>
    obtain ⟨k, hk, rfl, ⟨P', hP', hm⟩, hB⟩ := hrel
    have h0 : (0 : Int) ≤ (k : Int) := by omega
    by_cases hlt : k < P.length
    · have hlt' : (k : Int) < (P.length : Int) := by omega
      have hl' : P'.length ≤ 1000 := by
        have h1 := congrArg List.length hm.out
        have h2 := fold_len ((P.take k).map (·.2)) []
        unfold srtL at h1
        simp at h1 h2
        omega
      obtain ⟨b, off, rfl, hx0, hin⟩ := HR.out.elem hB.out hlt
      have hsz := hB.out.size
      have HC := Lib.hid (put_any _ _ P' _ wr hP'.out (hin.mono hsz) hl')
      have HM := Lib.hid (map_take hlt)
      obtain ⟨x, X, hx, hX⟩ : ∃ x X, x = P[k].1 ∧ X = P[k].2 := ⟨_, _, rfl, rfl⟩
      rw [← hx] at hx0 HC
      rw [← hX] at HC HM
      clear hx hX hin hP' hl'
      go_wp2_with fail
      refine HC.out.mono ?_
      rintro e w1 ⟨v1, P1, rfl, hp1, hm1, hb1⟩
      have HB := Lib.hid (hB.out.trans (hb1.mono hsz))
      have HP1 := Lib.hid hp1
      have HM1 := Lib.hid (show P1.map (·.2) = srtL ((P.take (k + 1)).map (·.2)) by rw [hm1, HM.out, srt_snoc, hm.out])
      clear hb1 hp1 hm1
      go_wp2_with fail
      go_roundw
      case rel => exact ⟨k + 1, by omega, by go_num, ⟨P1, HP1, HM1⟩, HB⟩
      case measure => simp [intOf]; omega
    · have hlt' : (P.length : Int) ≤ (k : Int) := by omega
      obtain rfl : k = P.length := by omega
      go_wp2_with fail
      go_ret
      exact ⟨_, P', rfl, hP'.out.1, by have := hm.out; rwa [List.take_length] at this, hB.out⟩

/-- Neighbours as they should be, up to a place: to the program, and to the document. -/
def AdjT (P : List (Value × List V3)) (k : Nat) : Prop := ∀ i (h : i + 1 < P.length), i + 1 < k → P[i].2.length = P[i + 1].2.length ∧ cmpT P[i].2 P[i + 1].2 < 0
def AdjR (P : List (Value × List V3)) (k : Nat) : Prop := ∀ i (h : i + 1 < P.length), i + 1 < k → P[i + 1].2.length = P[0].2.length ∧ cmpT P[i].2 P[i + 1].2 < 0
theorem adj_iff (P : List (Value × List V3)) : AdjR P P.length ↔ AdjT P P.length := by
  constructor
  · intro h i hi hk
    refine ⟨?_, (h i hi hk).2⟩
    cases i with
    | zero => exact (h 0 hi hk).1.symm
    | succ j => exact (h j (by omega) (by omega)).1.trans (h (j + 1) hi hk).1.symm
  · intro h i
    induction i with
    | zero => exact fun hi hk => ⟨(h 0 hi hk).1.symm, (h 0 hi hk).2⟩
    | succ j ih => exact fun hi hk => ⟨(h (j + 1) hi hk).1.symm.trans (ih (by omega) (by omega)).1, (h (j + 1) hi hk).2⟩
def OkRow (P : List (Value × List V3)) : Prop := ∀ x ∈ P, OkT x.2
/-- What a row is told: no error, no tuple, no relation. -/
def CkE (P : List (Value × List V3)) (z : Int) : Prop := (OkRow P ∧ AdjT P P.length ∧ z = 0) ∨ (OkRow P ∧ ¬ AdjT P P.length ∧ z = 21) ∨ (¬ OkRow P ∧ z = 20)
theorem ck_uniq {P : List (Value × List V3)} {z z' : Int} (h : CkE P z) (h' : CkE P z') : z = z' := by
  rcases h with ⟨a, b, rfl⟩ | ⟨a, b, rfl⟩ | ⟨a, rfl⟩ <;> rcases h' with ⟨a', b', rfl⟩ | ⟨a', b', rfl⟩ | ⟨a', rfl⟩ <;> first | rfl | exact (b b').elim | exact (b' b).elim | exact (a a').elim | exact (a' a).elim
def CkEnd (w : World) (P : List (Value × List V3)) (e : Ending) (w' : World) : Prop := ∃ z, e = .returned (.int .i64 z) ∧ CkE P z ∧ Below w.heap.size w w'
set_option maxHeartbeats 1000000 in
set_option maxRecDepth 100000 in
theorem tcheckrel_any (v : Value) (P : List (Value × List V3)) (w : World) (h : RowsIn w.heap.size w v P) (hlen : P.length ≤ 900) :
    Calls Tryd.prog 30 #[v] w (CkEnd w P) := by
  have mixed : Tryd.prog.follows .mixedOrders = true := by kernel_rfl
  have HR := Lib.hid h
  have HX := Lib.hid (show ∀ x ∈ P, TupIn w.heap.size w x.1 x.2 by obtain ⟨_, _, -, -, -, ha⟩ := h; exact ha)
  obtain ⟨a, cap, rfl, -⟩ := h.form
  have hlen' : (P.length : Int) ≤ 900 := by omega
  clear h
  go_enter Tryd.func30, Tryd.ntmps30
  go_wp2_with fail
  go_loopw [12] (fun i wr => ∃ k : Nat, k ≤ P.length ∧ i = .int .i64 k ∧ Hid (OkRow (P.take k)) ∧ Hid (Below w.heap.size w wr)) (fun i _ => P.length - (intOf i).toNat)
  case atStart => exact ⟨0, Nat.zero_le _, rfl, Lib.hid (fun x hx => by cases hx), Lib.hid (Below.refl _ _)⟩
  case round =>
    obtain ⟨k, hk, rfl, hok, hB⟩ := hrel
    have h0 : (0 : Int) ≤ (k : Int) := by omega
    by_cases hlt : k < P.length
    · have hlt' : (k : Int) < (P.length : Int) := by omega
      obtain ⟨b, off, rfl, hx0, hin⟩ := HR.out.elem hB.out hlt
      have hsz := hB.out.size
      have HC := Lib.hid (tcheck_any _ _ w.heap.size wr hin hsz)
      have HM := Lib.hid (show OkT P[k].2 → OkRow (P.take (k + 1)) from fun ho x hx => by
        rw [List.take_succ_eq_append_getElem hlt] at hx
        rcases List.mem_append.1 hx with hx | hx
        · exact hok.out x hx
        · obtain rfl := List.mem_singleton.1 hx; exact ho)
      have HN := Lib.hid (show ¬ OkT P[k].2 → ¬ OkRow P from fun hn ho => hn (ho _ (List.getElem_mem hlt)))
      obtain ⟨x, X, hx, hX⟩ : ∃ x X, x = P[k].1 ∧ X = P[k].2 := ⟨_, _, rfl, rfl⟩
      rw [← hx] at hx0 HC
      rw [← hX] at HC HM HN
      clear hx hX hin
      go_wp2_with fail
      refine HC.out.mono ?_
      rintro e w1 ⟨⟨ho, rfl⟩ | ⟨ho, rfl⟩, hb1⟩
      · have HB := Lib.hid (hB.out.trans (hb1.mono hsz))
        have HO := Lib.hid (HM.out ho)
        clear hb1 ho
        go_wp2_with fail
        go_roundw
        case rel => exact ⟨k + 1, by omega, by go_num, HO, HB⟩
        case measure => simp [intOf]; omega
      · have HB := Lib.hid (hB.out.trans (hb1.mono hsz))
        have HO := Lib.hid (HN.out ho)
        clear hb1 ho
        go_wp2_with fail
        go_ret
        exact ⟨20, rfl, .inr (.inr ⟨HO.out, rfl⟩), HB.out⟩
    · have hlt' : (P.length : Int) ≤ (k : Int) := by omega
      obtain rfl : k = P.length := by omega
      have HOK := Lib.hid (show OkRow P by have := hok.out; rwa [List.take_length] at this)
      clear hok
      go_wp2_with fail
      go_loopw [6] (fun i wz => ∃ k : Nat, 1 ≤ k ∧ k ≤ P.length + 1 ∧ (1 < k → k ≤ P.length) ∧ i = .int .i64 k ∧ Hid (AdjT P k) ∧ Hid (Grown wr wz)) (fun i _ => P.length + 1 - (intOf i).toNat)
      case atStart => exact ⟨1, Nat.le_refl _, by omega, by omega, rfl, Lib.hid (fun i hi hk => by omega), Lib.hid (Grown.refl _)⟩
      case round =>
        obtain ⟨k, hk1, hk2, hk3, rfl, had, hg⟩ := hrel
        have h1 : (1 : Int) ≤ (k : Int) := by omega
        by_cases hlt : k < P.length
        · have hlt' : (k : Int) < (P.length : Int) := by omega
          have hlt0 : k - 1 < P.length := by omega
          have h00 : 0 < P.length := by omega
          have gb : ∀ n os, Below w.heap.size w (Sort.grow (wr.drewN n) os) := fun n os => hB.out.trans ((hg.out.trans ⟨n, os, rfl⟩).below.mono hB.out.size)
          obtain ⟨b, off, rfl, -, -⟩ := HR.out.elem hB.out hlt
          have cAt : ∀ j (hj : j < P.length) n os, (Sort.grow (wr.drewN n) os).cell? ⟨b, off + j, none⟩ = some P[j].1 := fun j hj n os => by
            obtain ⟨b', o', e, h, -⟩ := HR.out.elem (gb n os) hj
            injection e with e; injection e with e e'; subst e e'; exact h
          have x1 := cAt (k - 1) hlt0
          have x2 := cAt k hlt
          have x3 := cAt 0 h00
          rw [Nat.add_zero] at x3
          have HC : Hid (∀ n os, Calls Tryd.prog 48 #[P[k - 1].1, P[k].1] (Sort.grow (wr.drewN n) os) fun e w' => e = .returned (.int .i64 (cmpT P[k - 1].2 P[k].2)) ∧ ∃ q os', w' = Sort.grow ((Sort.grow (wr.drewN n) os).drewN q) os') := Lib.hid (fun n os =>
            tcompare_any _ _ _ _ w.heap.size _ ((HX.out _ (List.getElem_mem hlt0)).below (gb n os)) ((HX.out _ (List.getElem_mem hlt)).below (gb n os)) (gb n os).size)
          have HAll := Lib.hid (show AdjT P (k + 1) ↔ (P[k - 1].2.length = P[k].2.length) ∧ cmpT P[k - 1].2 P[k].2 < 0 from by
            constructor
            · intro h
              have := h (k - 1) (by omega) (by omega)
              simpa [show k - 1 + 1 = k by omega] using this
            · intro h i hi hik
              by_cases e : i + 1 < k
              · exact had.out i hi e
              · obtain rfl : i = k - 1 := by omega
                simpa [show k - 1 + 1 = k by omega] using h)
          have HMono := Lib.hid (show AdjT P P.length → AdjT P (k + 1) from fun h i hi _ => h i hi hi)
          obtain ⟨q1, c1, e1, -⟩ := HX.out _ (List.getElem_mem hlt0)
          obtain ⟨q2, c2, e2, -⟩ := HX.out _ (List.getElem_mem hlt)
          obtain ⟨q3, c3, e3, -⟩ := HX.out _ (List.getElem_mem h00)
          rw [e1] at x1 HC
          rw [e2] at x2 HC
          rw [e3] at x3
          have i1 : IntKind.i64.wrap ((k : Int) - 1) = (k : Int) - 1 := IntWalk.i64_in _ (by omega)
          have i2 : ((k : Int) - 1).toNat = k - 1 := by omega
          have i3 : (0 : Int) ≤ (k : Int) - 1 := by omega
          have i4 : (k : Int) - 1 < (P.length : Int) := by omega
          have i5 : (0 : Int) < (P.length : Int) := by omega
          have i6 : (0 : Int) ≤ (k : Int) := by omega
          clear cAt gb e1 e2 e3
          generalize P[k - 1].2 = T1 at *
          generalize P[k].2 = T2 at *
          generalize P[0].2 = T3 at *
          go_wp2_with fail
          obtain ⟨z, hz⟩ : ∃ z, z = cmpT T1 T2 := ⟨_, rfl⟩
          rw [← hz] at HC HAll
          clear hz
          cases hne : ((T1.length : Int) != (T2.length : Int)) with
          | true =>
            have HL := Lib.hid (show ¬ (T1.length = T2.length) from fun e => by simp [e] at hne)
            refine wp_region_quiet_grown (by kernel_rfl) (by kernel_rfl) ?_
            iterate 25 go_big_quiet_step ((go_at_call 48; exact Calls.grown_of (HC.out _ _)))
            refine wpQuiet_nil ?_
            intro _ hw'
            obtain ⟨⟨nq, osq⟩, hw''⟩ := hw'
            subst hw''
            go_wp2
            go_ret
            exact ⟨21, rfl, .inr (.inl ⟨HOK.out, fun h => HL.out (HAll.out.1 (HMono.out h)).1, rfl⟩), hB.out.trans ((hg.out.trans ⟨nq, osq, rfl⟩).below.mono hB.out.size)⟩
          | false =>
            have HL := Lib.hid (show T1.length = T2.length from Int.ofNat.inj (by simpa using hne))
            by_cases hz : (0 : Int) ≤ z
            · refine wp_region_quiet_grown (by kernel_rfl) (by kernel_rfl) ?_
              iterate 25 go_big_quiet_step ((go_at_call 48; exact Calls.grown_of (HC.out _ _)))
              refine wpQuiet_nil ?_
              intro _ hw'
              obtain ⟨⟨nq, osq⟩, hw''⟩ := hw'
              subst hw''
              go_wp2
              go_ret
              exact ⟨21, rfl, .inr (.inl ⟨HOK.out, fun h => by have := (HAll.out.1 (HMono.out h)).2; omega, rfl⟩), hB.out.trans ((hg.out.trans ⟨nq, osq, rfl⟩).below.mono hB.out.size)⟩
            · have hz' : z < 0 := by omega
              clear hz
              have HA := Lib.hid (HAll.out.2 ⟨HL.out, hz'⟩)
              refine wp_region_quiet_grown (by kernel_rfl) (by kernel_rfl) ?_
              iterate 25 go_big_quiet_step ((go_at_call 48; exact Calls.grown_of (HC.out _ _)))
              refine wpQuiet_nil ?_
              intro _ hw'
              obtain ⟨⟨nq, osq⟩, hw''⟩ := hw'
              subst hw''
              go_wp2
              go_roundw
              case rel => exact ⟨k + 1, by omega, by omega, by omega, by go_num, HA, Lib.hid (hg.out.trans ⟨nq, osq, rfl⟩)⟩
              case measure => simp [intOf]; omega
        · have hlt' : (P.length : Int) ≤ (k : Int) := by omega
          go_wp2_with fail
          go_ret
          exact ⟨0, rfl, .inl ⟨HOK.out, (fun i hi hk => had.out i hi (by omega)), rfl⟩, hB.out.trans (hg.out.below.mono hB.out.size)⟩
set_option maxHeartbeats 1000000 in
set_option maxRecDepth 100000 in
theorem rcheckrel_any (v : Value) (P : List (Value × List V3)) (w : World) (h : RowsIn w.heap.size w v P) (hlen : P.length ≤ 900) :
    Calls Tryd.prog 29 #[v] w (CkEnd w P) := by
  have mixed : Tryd.prog.follows .mixedOrders = true := by kernel_rfl
  have HR := Lib.hid h
  have HX := Lib.hid (show ∀ x ∈ P, TupIn w.heap.size w x.1 x.2 by obtain ⟨_, _, -, -, -, ha⟩ := h; exact ha)
  obtain ⟨a, cap, rfl, -⟩ := h.form
  have hlen' : (P.length : Int) ≤ 900 := by omega
  clear h
  go_enter Tryd.func29, Tryd.ntmps29
  go_wp2_with fail
  go_loopw [3] (fun i wr => ∃ k : Nat, k ≤ P.length ∧ i = .int .i64 k ∧ Hid (OkRow (P.take k)) ∧ Hid (Below w.heap.size w wr)) (fun i _ => P.length - (intOf i).toNat)
  case atStart => exact ⟨0, Nat.zero_le _, rfl, Lib.hid (fun x hx => by cases hx), Lib.hid (Below.refl _ _)⟩
  case round =>
    obtain ⟨k, hk, rfl, hok, hB⟩ := hrel
    have h0 : (0 : Int) ≤ (k : Int) := by omega
    by_cases hlt : k < P.length
    · have hlt' : (k : Int) < (P.length : Int) := by omega
      obtain ⟨b, off, rfl, hx0, hin⟩ := HR.out.elem hB.out hlt
      have hsz := hB.out.size
      have HC := Lib.hid (rcheck_any _ _ w.heap.size wr hin hsz)
      have HM := Lib.hid (show OkT P[k].2 → OkRow (P.take (k + 1)) from fun ho x hx => by
        rw [List.take_succ_eq_append_getElem hlt] at hx
        rcases List.mem_append.1 hx with hx | hx
        · exact hok.out x hx
        · obtain rfl := List.mem_singleton.1 hx; exact ho)
      have HN := Lib.hid (show ¬ OkT P[k].2 → ¬ OkRow P from fun hn ho => hn (ho _ (List.getElem_mem hlt)))
      obtain ⟨x, X, hx, hX⟩ : ∃ x X, x = P[k].1 ∧ X = P[k].2 := ⟨_, _, rfl, rfl⟩
      rw [← hx] at hx0 HC
      rw [← hX] at HC HM HN
      clear hx hX hin
      go_wp2_with fail
      refine HC.out.mono ?_
      rintro e w1 ⟨⟨ho, rfl⟩ | ⟨ho, rfl⟩, hb1⟩
      · have HB := Lib.hid (hB.out.trans (hb1.mono hsz))
        have HO := Lib.hid (HM.out ho)
        clear hb1 ho
        go_wp2_with fail
        go_roundw
        case rel => exact ⟨k + 1, by omega, by go_num, HO, HB⟩
        case measure => simp [intOf]; omega
      · have HB := Lib.hid (hB.out.trans (hb1.mono hsz))
        have HO := Lib.hid (HN.out ho)
        clear hb1 ho
        go_wp2_with fail
        go_ret
        exact ⟨20, rfl, .inr (.inr ⟨HO.out, rfl⟩), HB.out⟩
    · have hlt' : (P.length : Int) ≤ (k : Int) := by omega
      obtain rfl : k = P.length := by omega
      have HOK := Lib.hid (show OkRow P by have := hok.out; rwa [List.take_length] at this)
      clear hok
      go_wp2_with fail
      go_loopw [4] (fun i wz => ∃ k : Nat, 1 ≤ k ∧ k ≤ P.length + 1 ∧ (1 < k → k ≤ P.length) ∧ i = .int .i64 k ∧ Hid (AdjR P k) ∧ Hid (Grown wr wz)) (fun i _ => P.length + 1 - (intOf i).toNat)
      case atStart => exact ⟨1, Nat.le_refl _, by omega, by omega, rfl, Lib.hid (fun i hi hk => by omega), Lib.hid (Grown.refl _)⟩
      case round =>
        obtain ⟨k, hk1, hk2, hk3, rfl, had, hg⟩ := hrel
        have h1 : (1 : Int) ≤ (k : Int) := by omega
        by_cases hlt : k < P.length
        · have hlt' : (k : Int) < (P.length : Int) := by omega
          have hlt0 : k - 1 < P.length := by omega
          have h00 : 0 < P.length := by omega
          have gb : ∀ n os, Below w.heap.size w (Sort.grow (wr.drewN n) os) := fun n os => hB.out.trans ((hg.out.trans ⟨n, os, rfl⟩).below.mono hB.out.size)
          obtain ⟨b, off, rfl, -, -⟩ := HR.out.elem hB.out hlt
          have cAt : ∀ j (hj : j < P.length) n os, (Sort.grow (wr.drewN n) os).cell? ⟨b, off + j, none⟩ = some P[j].1 := fun j hj n os => by
            obtain ⟨b', o', e, h, -⟩ := HR.out.elem (gb n os) hj
            injection e with e; injection e with e e'; subst e e'; exact h
          have x1 := cAt (k - 1) hlt0
          have x2 := cAt k hlt
          have x3 := cAt 0 h00
          rw [Nat.add_zero] at x3
          have HC : Hid (∀ n os, Calls Tryd.prog 47 #[P[k - 1].1, P[k].1] (Sort.grow (wr.drewN n) os) fun e w' => e = .returned (.int .i64 (cmpT P[k - 1].2 P[k].2)) ∧ ∃ q os', w' = Sort.grow ((Sort.grow (wr.drewN n) os).drewN q) os') := Lib.hid (fun n os =>
            rcompare_any _ _ _ _ w.heap.size _ ((HX.out _ (List.getElem_mem hlt0)).below (gb n os)) ((HX.out _ (List.getElem_mem hlt)).below (gb n os)) (gb n os).size)
          have HAll := Lib.hid (show AdjR P (k + 1) ↔ (P[k].2.length = P[0].2.length) ∧ cmpT P[k - 1].2 P[k].2 < 0 from by
            constructor
            · intro h
              have := h (k - 1) (by omega) (by omega)
              simpa [show k - 1 + 1 = k by omega] using this
            · intro h i hi hik
              by_cases e : i + 1 < k
              · exact had.out i hi e
              · obtain rfl : i = k - 1 := by omega
                simpa [show k - 1 + 1 = k by omega] using h)
          have HMono := Lib.hid (show AdjR P P.length → AdjR P (k + 1) from fun h i hi _ => h i hi hi)
          obtain ⟨q1, c1, e1, -⟩ := HX.out _ (List.getElem_mem hlt0)
          obtain ⟨q2, c2, e2, -⟩ := HX.out _ (List.getElem_mem hlt)
          obtain ⟨q3, c3, e3, -⟩ := HX.out _ (List.getElem_mem h00)
          rw [e1] at x1 HC
          rw [e2] at x2 HC
          rw [e3] at x3
          have i1 : IntKind.i64.wrap ((k : Int) - 1) = (k : Int) - 1 := IntWalk.i64_in _ (by omega)
          have i2 : ((k : Int) - 1).toNat = k - 1 := by omega
          have i3 : (0 : Int) ≤ (k : Int) - 1 := by omega
          have i4 : (k : Int) - 1 < (P.length : Int) := by omega
          have i5 : (0 : Int) < (P.length : Int) := by omega
          have i6 : (0 : Int) ≤ (k : Int) := by omega
          clear cAt gb e1 e2 e3
          generalize P[k - 1].2 = T1 at *
          generalize P[k].2 = T2 at *
          generalize P[0].2 = T3 at *
          go_wp2_with fail
          obtain ⟨z, hz⟩ : ∃ z, z = cmpT T1 T2 := ⟨_, rfl⟩
          rw [← hz] at HC HAll
          clear hz
          cases hne : ((T2.length : Int) != (T3.length : Int)) with
          | true =>
            have HL := Lib.hid (show ¬ (T2.length = T3.length) from fun e => by simp [e] at hne)
            refine wp_region_quiet_grown (by kernel_rfl) (by kernel_rfl) ?_
            iterate 23 go_big_quiet_step ((go_at_call 47; exact Calls.grown_of (HC.out _ _)))
            refine wpQuiet_nil ?_
            intro _ hw'
            obtain ⟨⟨nq, osq⟩, hw''⟩ := hw'
            subst hw''
            go_wp2
            go_ret
            exact ⟨21, rfl, .inr (.inl ⟨HOK.out, fun h => HL.out (HAll.out.1 (HMono.out ((adj_iff P).2 h))).1, rfl⟩), hB.out.trans ((hg.out.trans ⟨nq, osq, rfl⟩).below.mono hB.out.size)⟩
          | false =>
            have HL := Lib.hid (show T2.length = T3.length from Int.ofNat.inj (by simpa using hne))
            by_cases hz : (0 : Int) ≤ z
            · refine wp_region_quiet_grown (by kernel_rfl) (by kernel_rfl) ?_
              iterate 23 go_big_quiet_step ((go_at_call 47; exact Calls.grown_of (HC.out _ _)))
              refine wpQuiet_nil ?_
              intro _ hw'
              obtain ⟨⟨nq, osq⟩, hw''⟩ := hw'
              subst hw''
              go_wp2
              go_ret
              exact ⟨21, rfl, .inr (.inl ⟨HOK.out, fun h => by have := (HAll.out.1 (HMono.out ((adj_iff P).2 h))).2; omega, rfl⟩), hB.out.trans ((hg.out.trans ⟨nq, osq, rfl⟩).below.mono hB.out.size)⟩
            · have hz' : z < 0 := by omega
              clear hz
              have HA := Lib.hid (HAll.out.2 ⟨HL.out, hz'⟩)
              refine wp_region_quiet_grown (by kernel_rfl) (by kernel_rfl) ?_
              iterate 23 go_big_quiet_step ((go_at_call 47; exact Calls.grown_of (HC.out _ _)))
              refine wpQuiet_nil ?_
              intro _ hw'
              obtain ⟨⟨nq, osq⟩, hw''⟩ := hw'
              subst hw''
              go_wp2
              go_roundw
              case rel => exact ⟨k + 1, by omega, by omega, by omega, by go_num, HA, Lib.hid (hg.out.trans ⟨nq, osq, rfl⟩)⟩
              case measure => simp [intOf]; omega
        · have hlt' : (P.length : Int) ≤ (k : Int) := by omega
          go_wp2_with fail
          go_ret
          exact ⟨0, rfl, .inl ⟨HOK.out, ((adj_iff P).1 (fun i hi hk => had.out i hi (by omega))), rfl⟩, hB.out.trans (hg.out.below.mono hB.out.size)⟩
end Go.Proofs.YtaogfgohchpnoaaDoor
