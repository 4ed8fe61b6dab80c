/-
  Contracts of tuple.Typed and of the document's own Typed; an argument that is a row of types, opened.
-/
import Derived.Test.YtbpkkcljeelfcaaDoorTlF
import Derived.Test.YtbpkkcljeelfcaaDoorTyp
import Derived.Test.YtbpkkcljeelfcaaDoorTck
namespace Go.Proofs.YtbpkkcljeelfcaaDoor
open Go Go.ChangeShapes Go.WideShapes Go.ChangeAt Go.RowKit Go.Deep

set_option maxRecDepth 100000
theorem cellsTy : Tryd.prog.cellsOf 53 = 1 := by kernel_rfl
/-- A slice value reads as a row of types. -/
def TypIn (n₀ : Nat) (W : World) (v : Value) (Z : List Int) : Prop :=
  ∃ p cap, v = .slice p Z.length cap ∧ Z.length ≤ 9223372036854775807 ∧ (Z = [] ∨ ∃ b off, p = some ⟨b, off, none⟩ ∧ b < n₀ ∧ ∀ j (h : j < Z.length), W.cell? ⟨b, off + j, none⟩ = some (.int .i64 Z[j]))
theorem TypIn.below {n₀ : Nat} {W W' : World} {v : Value} {Z : List Int} (h : TypIn n₀ W v Z) (hb : Below n₀ W W') : TypIn n₀ W' v Z := by
  obtain ⟨p, cap, rfl, hl, h⟩ := h
  refine ⟨p, cap, rfl, hl, ?_⟩
  rcases h with h | ⟨b, off, rfl, hlt, hc⟩
  · exact .inl h
  · exact .inr ⟨b, off, rfl, hlt, fun j hj => (hb.cell (p := ⟨b, off + j, none⟩) hlt).trans (hc j hj)⟩
theorem open_typ {H : Type} {enc : TypeId × Value → H} {W : World} {base : Nat} {sp : Nat → Bool} {held : Bool} {r : Reach} {b0 : Nat} {v : Value} {d : DataW H} {p : List MemPlace}
    (hv : Value.okWide Tryd.prog W r b0 24 v) (h : DataW.Trod enc Tryd.prog W base sp held 24 v d p) : ∃ Z : List Int, TypIn W.heap.size W v Z := by
  obtain ⟨a, len, cap, rfl⟩ := okWide_slice Tryd.underlying24 hv
  obtain ⟨fuel, hf⟩ := h
  have hf' : DataW.trod enc Tryd.prog W base sp held fuel 24 [.slice a len cap] = some (d, p) := hf
  rcases open_slice Tryd.underlying24 hf' with ⟨e, -⟩ | ⟨a', len', cap', m, n, D, Pl, e, -, hle, hcap, hm, -, hi⟩
  · simp at e
    obtain ⟨rfl, rfl, rfl⟩ := e
    exact ⟨[], none, 0, rfl, by simp, .inl rfl⟩
  · simp at e
    obtain ⟨rfl, rfl, rfl⟩ := e
    have hlm : len ≤ m := by rw [hm]; split <;> omega
    have hx : ∀ i, i < len → ∃ z : Int, W.cell? (a'.add i) = some (.int .i64 z) := by
      intro i hil
      obtain ⟨cs', hc, ht⟩ := hi i (by omega)
      rw [cellsTy] at hc
      obtain ⟨_, hcl, hat⟩ := World.cells?_some hc
      match cs', hcl with
      | [c0], _ =>
        obtain ⟨k, hk, -, -⟩ := DataW.trod_int Tryd.underlying53 ht
        simp at hk
        subst hk
        have h0 := hat 0 (by omega)
        have e0 : (a'.add (i * 1)).add 0 = a'.add i := by unfold Addr.add; simp
        rw [e0] at h0
        exact ⟨k, h0⟩
    obtain ⟨Z, rfl, hZ⟩ := list_of _ hx
    refine ⟨Z, some a', cap, rfl, by unfold maxLen at hcap; omega, ?_⟩
    by_cases hz : Z = []
    · exact .inl hz
    · have h0 : 0 < Z.length := List.length_pos_iff.2 hz
      have hc0 := hZ 0 h0
      obtain ⟨b, off, spot⟩ := a'
      obtain rfl : spot = none := by
        have := World.cell?_spot hc0
        simpa [Addr.add] using this
      have hadd : ∀ i, (⟨b, off, none⟩ : Addr).add i = ⟨b, off + i, none⟩ := fun i => by unfold Addr.add; split <;> simp_all
      refine .inr ⟨b, off, rfl, ?_, fun j hj => ?_⟩
      · have hb := World.block_lt_of_cell? W _ hc0
        rw [hadd] at hb
        exact hb
      · have := hZ j hj
        rwa [hadd] at this

/-- A row of values has just these types. -/
def TypedP (T : List V3) (Z : List Int) : Prop := T.length = Z.length ∧ ∀ i (h : i < T.length) (g : i < Z.length), IsV T[i].k T[i].n T[i].s ∧ T[i].k = Z[i]
/-- The first k of them have. -/
def TypedTo (T : List V3) (Z : List Int) (k : Nat) : Prop := ∀ i (h : i < T.length) (g : i < Z.length), i < k → IsV T[i].k T[i].n T[i].s ∧ T[i].k = Z[i]
theorem TypedTo.step {T : List V3} {Z : List Int} {k : Nat} (h : TypedTo T Z k) (hk : k < T.length) (hz : k < Z.length) (h1 : IsV T[k].k T[k].n T[k].s) (h2 : T[k].k = Z[k]) : TypedTo T Z (k + 1) := fun i hi gi hik => by
  by_cases e : i = k
  · subst e; exact ⟨h1, h2⟩
  · exact h i hi gi (by omega)
theorem below_step {w wr w1 : World} {o : Obj} (h : Below w.heap.size w wr) (hb : Below (wr.alloc o).heap.size (wr.alloc o) w1) : Below w.heap.size w w1 := h.trans ((below_then hb).mono h.size)

set_option maxHeartbeats 1000000 in
set_option maxRecDepth 100000 in
theorem typed_any (v vz : Value) (T : List V3) (Z : List Int) (n₀ : Nat) (w : World) (h : TupIn n₀ w v T) (hz : TypIn n₀ w vz Z) (hn : n₀ ≤ w.heap.size) :
    Calls Tryd.prog 11 #[v, vz] w fun e w' => ((TypedP T Z ∧ e = .returned (.bool true)) ∨ (¬ TypedP T Z ∧ e = .returned (.bool false))) ∧ Below w.heap.size w w' := by
  have HT := Lib.hid h
  obtain ⟨p, cap, rfl, l1, q1⟩ := h
  obtain ⟨pz, cz, rfl, lz, qz⟩ := hz
  have HQ := Lib.hid qz
  have HLZ := Lib.hid lz
  clear q1 qz lz
  by_cases hl : T.length = Z.length
  case neg =>
    have HN : Hid (¬ TypedP T Z) := Lib.hid fun h => hl h.1
    have hne : ((T.length : Int) != (Z.length : Int)) = true := by simp; omega
    clear hl
    go_enter Tryd.func11, Tryd.ntmps11
    go_wp2_with fail
    go_ret
    exact ⟨.inr ⟨HN.out, rfl⟩, Below.refl _ _⟩
  have HL := Lib.hid hl
  have heq : ((T.length : Int) != (Z.length : Int)) = false := by rw [hl]; simp
  clear hl
  go_enter Tryd.func11, Tryd.ntmps11
  go_wp2_with fail
  clear heq
  go_loopw [5, 6, 7, 8, 16] (fun _ _ _ _ i wr => ∃ k : Nat, k ≤ T.length ∧ i = .int .i64 k ∧ Hid (TypedTo T Z k) ∧ Hid (Below w.heap.size w wr)) (fun _ _ _ _ i _ => T.length - (intOf i).toNat)
  case atStart => exact ⟨0, Nat.zero_le _, rfl, Lib.hid (fun i _ _ h => absurd h (by omega)), Lib.hid (Below.refl _ _)⟩
  case round =>
    obtain ⟨k, hk, rfl, hall, hB⟩ := hrel
    have h0 : (0 : Int) ≤ (k : Int) := by omega
    by_cases hlt : k < T.length
    · have hlt' : (k : Int) < (T.length : Int) := by omega
      have hltz : k < Z.length := by rw [← HL.out]; exact hlt
      have hltz' : (k : Int) < (Z.length : Int) := by omega
      obtain ⟨b, off, cap', hv, hb, hc⟩ := HT.out.some hlt
      injection hv with hp _ hcap
      subst hp hcap
      have hbw : b < w.heap.size := by omega
      have hbs := hB.out.size
      have hb' : b < wr.heap.size := by omega
      obtain ⟨x0, x1, x2⟩ := (hc.below hB.out hbw) k hlt
      clear hc
      rcases HQ.out with hZ | ⟨bz, oz, rfl, hbz, hcz⟩
      · exfalso; rw [hZ] at hltz; simp at hltz
      have hbzw : bz < w.heap.size := by omega
      have hbz' : bz < wr.heap.size := by omega
      have HY : Hid (∀ W, Below w.heap.size w W → W.cell? ⟨bz, oz + k, none⟩ = some (.int .i64 Z[k])) := Lib.hid fun W hW => (hW.cell (p := ⟨bz, oz + k, none⟩) hbzw).trans (hcz k hltz)
      clear hcz
      by_cases hx : IsV T[k].k T[k].n T[k].s
      · have HX := Lib.hid hx
        clear hx
        go_wp2_with fail
        refine (type_yes _ _ _ _ HX.out).mono ?_
        rintro e w1 ⟨rfl, hb1⟩
        have B1 := Lib.hid (below_step hB.out hb1)
        clear hb1
        have y0 := HY.out _ B1.out
        by_cases hkz : T[k].k = Z[k]
        · have HA := Lib.hid (hall.out.step hlt hltz HX.out hkz)
          have hne : (T[k].k != Z[k]) = false := by rw [hkz]; simp
          clear hkz
          go_wp2_with fail
          go_roundw
          case rel => exact ⟨k + 1, by omega, by go_num, HA, B1⟩
          case measure => simp [intOf]; omega
        · have HN : Hid (¬ TypedP T Z) := Lib.hid fun h => hkz (h.2 k hlt hltz).2
          have hne : (T[k].k != Z[k]) = true := by simpa using hkz
          clear hkz
          go_wp2_with fail
          go_ret
          exact ⟨.inr ⟨HN.out, rfl⟩, B1.out⟩
      · have HN : Hid (¬ TypedP T Z) := Lib.hid fun h => hx (h.2 k hlt hltz).1
        have HX := Lib.hid hx
        clear hx
        go_wp2_with fail
        refine (type_no _ _ _ _ HX.out).mono ?_
        rintro e w1 ⟨rfl, hb1⟩
        have B1 := Lib.hid (below_step hB.out hb1)
        clear hb1
        have y0 := HY.out _ B1.out
        go_wp2_with fail
        go_ret
        exact ⟨.inr ⟨HN.out, rfl⟩, B1.out⟩
    · have hlt' : (T.length : Int) ≤ (k : Int) := by omega
      obtain rfl : k = T.length := by omega
      have HO : Hid (TypedP T Z) := Lib.hid ⟨HL.out, fun i h g => hall.out i h g h⟩
      go_wp2_with fail
      go_ret
      exact ⟨.inl ⟨HO.out, rfl⟩, hB.out⟩

set_option maxHeartbeats 1000000 in
set_option maxRecDepth 100000 in
theorem rtyped_any (v vz : Value) (T : List V3) (Z : List Int) (n₀ : Nat) (w : World) (h : TupIn n₀ w v T) (hz : TypIn n₀ w vz Z) (hn : n₀ ≤ w.heap.size) :
    Calls Tryd.prog 12 #[v, vz] w fun e w' => ((TypedP T Z ∧ e = .returned (.bool true)) ∨ (¬ TypedP T Z ∧ e = .returned (.bool false))) ∧ Below w.heap.size w w' := by
  have HT := Lib.hid h
  obtain ⟨p, cap, rfl, l1, q1⟩ := h
  obtain ⟨pz, cz, rfl, lz, qz⟩ := hz
  have HQ := Lib.hid qz
  have HLZ := Lib.hid lz
  clear q1 qz lz
  by_cases hl : T.length = Z.length
  case neg =>
    have HN : Hid (¬ TypedP T Z) := Lib.hid fun h => hl h.1
    have hne : ((T.length : Int) != (Z.length : Int)) = true := by simp; omega
    clear hl
    go_enter Tryd.func12, Tryd.ntmps12
    go_wp2_with fail
    go_ret
    exact ⟨.inr ⟨HN.out, rfl⟩, Below.refl _ _⟩
  have HL := Lib.hid hl
  have heq : ((T.length : Int) != (Z.length : Int)) = false := by rw [hl]; simp
  clear hl
  go_enter Tryd.func12, Tryd.ntmps12
  go_wp2_with fail
  clear heq
  go_loopw [5, 6, 7] (fun i _ _ wr => ∃ k : Nat, k ≤ T.length ∧ i = .int .i64 k ∧ Hid (TypedTo T Z k) ∧ Hid (Below w.heap.size w wr)) (fun i _ _ _ => T.length - (intOf i).toNat)
  case atStart => exact ⟨0, Nat.zero_le _, rfl, Lib.hid (fun i _ _ h => absurd h (by omega)), Lib.hid (Below.refl _ _)⟩
  case round =>
    obtain ⟨k, hk, rfl, hall, hB⟩ := hrel
    have h0 : (0 : Int) ≤ (k : Int) := by omega
    by_cases hlt : k < T.length
    · have hlt' : (k : Int) < (T.length : Int) := by omega
      have hltz : k < Z.length := by rw [← HL.out]; exact hlt
      have hltz' : (k : Int) < (Z.length : Int) := by omega
      obtain ⟨b, off, cap', hv, hb, hc⟩ := HT.out.some hlt
      injection hv with hp _ hcap
      subst hp hcap
      have hbw : b < w.heap.size := by omega
      have hbs := hB.out.size
      have hb' : b < wr.heap.size := by omega
      obtain ⟨x0, x1, x2⟩ := (hc.below hB.out hbw) k hlt
      clear hc
      rcases HQ.out with hZ | ⟨bz, oz, rfl, hbz, hcz⟩
      · exfalso; rw [hZ] at hltz; simp at hltz
      have hbzw : bz < w.heap.size := by omega
      have hbz' : bz < wr.heap.size := by omega
      have HY : Hid (∀ W, Below w.heap.size w W → W.cell? ⟨bz, oz + k, none⟩ = some (.int .i64 Z[k])) := Lib.hid fun W hW => (hW.cell (p := ⟨bz, oz + k, none⟩) hbzw).trans (hcz k hltz)
      clear hcz
      by_cases hx : IsV T[k].k T[k].n T[k].s
      · have HX := Lib.hid hx
        clear hx
        go_wp2_with fail
        refine (rtype_yes _ _ _ _ HX.out).mono ?_
        rintro e w1 ⟨rfl, hb1⟩
        have B1 := Lib.hid (hB.out.trans (hb1.mono hbs))
        clear hb1
        have y0 := HY.out _ B1.out
        by_cases hkz : T[k].k = Z[k]
        · have HA := Lib.hid (hall.out.step hlt hltz HX.out hkz)
          have hne : (T[k].k != Z[k]) = false := by rw [hkz]; simp
          clear hkz
          go_wp2_with fail
          go_roundw
          case rel => exact ⟨k + 1, by omega, by go_num, HA, B1⟩
          case measure => simp [intOf]; omega
        · have HN : Hid (¬ TypedP T Z) := Lib.hid fun h => hkz (h.2 k hlt hltz).2
          have hne : (T[k].k != Z[k]) = true := by simpa using hkz
          clear hkz
          go_wp2_with fail
          go_ret
          exact ⟨.inr ⟨HN.out, rfl⟩, B1.out⟩
      · have HN : Hid (¬ TypedP T Z) := Lib.hid fun h => hx (h.2 k hlt hltz).1
        have HX := Lib.hid hx
        clear hx
        go_wp2_with fail
        refine (rtype_no _ _ _ _ HX.out).mono ?_
        rintro e w1 ⟨rfl, hb1⟩
        have B1 := Lib.hid (hB.out.trans (hb1.mono hbs))
        clear hb1
        have y0 := HY.out _ B1.out
        go_wp2_with fail
        go_ret
        exact ⟨.inr ⟨HN.out, rfl⟩, B1.out⟩
    · have hlt' : (T.length : Int) ≤ (k : Int) := by omega
      obtain rfl : k = T.length := by omega
      have HO : Hid (TypedP T Z) := Lib.hid ⟨HL.out, fun i h g => hall.out i h g h⟩
      go_wp2_with fail
      go_ret
      exact ⟨.inl ⟨HO.out, rfl⟩, hB.out⟩
end Go.Proofs.YtbpkkcljeelfcaaDoor
