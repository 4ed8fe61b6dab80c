/-
  The walk of MergeRows.
-/
import Derived.Test.YtemfglpjokmioaaMgZ
namespace Go.Proofs.Ytemfglpjokmioaa
open Go Go.RowKit Go.Shelf

theorem eqlSeq (r : Nat) (W : World) : (binOp .eql 34 (allV r) .nilFunc).run Try.prog W = .ok (.bool false) W := by kernel_rfl
theorem ThIn.swap {n : Nat} {W0 W : World} {v : Value} {L : List Th} (h : ThIn (fun b => b < n) W0 v L) (hs : n ≤ W.heap.size) (hb : ∀ k, k < n → W.heap[k]? = W0.heap[k]?) : ThIn (fun b => b < n) W v L := by
  obtain ⟨p, c, rfl, h1, h2, h⟩ := h
  refine ⟨p, c, rfl, h1, h2, ?_⟩
  rcases h with h | ⟨b, off, rfl, hb1, hl, h⟩
  · exact .inl h
  · have cc : ∀ o, W.cell? ⟨b, o, none⟩ = W0.cell? ⟨b, o, none⟩ := fun o => World.cell?_of_block (a := ⟨b, o, none⟩) (hb b hb1)
    exact .inr ⟨b, off, rfl, hb1, Nat.lt_of_lt_of_le hb1 hs, fun j hj => by rw [cc, cc]; exact h j hj⟩
theorem ThIn.drop1 {S : Nat → Prop} {w : World} {p : Option Addr} {c n : Nat} {L : List Th} (h : ThIn S w (.slice p L.length c) L) (hn : n ≤ L.length) : ThIn S w (.slice (Option.map (fun x => x.add (n * 2)) p) (L.length - n) (c - n)) (L.drop n) := by
  obtain ⟨p', c', e, h1, h2, h3⟩ := h
  injection e with e1 e2 e3
  subst e1 e3
  refine ⟨_, c - n, by rw [List.length_drop], by rw [List.length_drop]; omega, by omega, ?_⟩
  rcases h3 with h3 | ⟨b, off, rfl, g1, g2, g3⟩
  · exact .inl (by rw [h3, List.drop_nil])
  · refine .inr ⟨b, off + n * 2, by rw [Option.map_some, addr_add], g1, g2, fun j hj => ?_⟩
    rw [List.length_drop] at hj
    have g := g3 (n + j) (by omega)
    rw [show off + (n + j) * 2 = off + n * 2 + j * 2 by omega] at g
    rw [List.getElem_drop]
    exact g
theorem ThIn.drop2 {S : Nat → Prop} {w : World} {p : Option Addr} {n : Nat} {L : List Th} (hn : n = L.length) : ThIn S w (.slice p 0 0) (L.drop n) := by
  subst hn
  rw [List.drop_length]
  exact ⟨p, 0, rfl, Nat.le_refl _, Nat.zero_le _, .inl rfl⟩
theorem all_rows2 {W0 : World} {b r z y c : Nat} {p : Option Addr} {Y : Nat → Prop} {mo : Int} {L : List Th} {t : TypeId} (hm : MadeAt Tt b Y L W0) (hr : W0.heap[r]? = some (.cells #[nextV b] t (0, 0)))
    (hz0 : W0.heap[z]? = some (.cells #[.slice p L.length c] 22 (0, 0))) (hz1 : W0.heap[z + 1]? = some (.cells #[.int .i64 mo] 3 (0, 0)))
    (hy0 : W0.heap[y]? = some (.cells #[.int .i64 0] 3 (0, 0))) (hy1 : W0.heap[y + 1]? = some (.cells #[.bool true] 4 (0, 0))) (hv : ThIn (fun b => b < z) W0 (.slice p L.length c) L)
    (hry : z + 1 < r ∧ r < y) (hYz : ∀ k, Y k → z + 1 < k ∧ k < r) (hL : L.length ≤ 30) (hmo : 1 ≤ mo) :
    Calls Try.prog 48 #[.func (.func 18) #[] #[.pointer (some ⟨y + 1, 0, none⟩), .pointer (some ⟨y, 0, none⟩), .pointer (some ⟨z, 0, none⟩), .pointer (some ⟨z + 1, 0, none⟩)], .pointer (some ⟨r, 0, none⟩)] W0 fun e W =>
      e = .returned (.tuple #[]) ∧ ∃ n : Nat, n ≤ L.length ∧ (n : Int) ≤ mo ∧ (n = L.length ∨ (n : Int) = mo) ∧ (∃ Yr, MadeAt (Gh b W0 Y) r Yr (L.drop n) W) ∧ W.heap[y]? = some (.cells #[.int .i64 (n : Nat)] 3 (0, 0)) ∧ W.heap[y + 1]? = some (.cells #[.bool true] 4 (0, 0)) ∧ Upd (fun k _ => k = y ∨ k = y + 1 ∨ k = r ∨ Y k) W0 W := by
  have hnr : ¬ Y r := fun e => by have := (hYz r e).2; omega
  have h2 : ∀ k, Y k → z + 1 < k ∧ k ≠ y ∧ k ≠ y + 1 := fun k e => by have := hYz k e; omega
  obtain ⟨p', c', e, -, -, hrow⟩ := hv
  injection e with e1
  subst e1
  rcases hrow with h0 | ⟨bl, off, rfl, hb, -, hc⟩
  · exact all_rows (bl := 0) (off := 0) (cap := 0) hm ⟨_, hr⟩ hnr (.inr h0) hz1 hy0 hy1 (by omega) (.inl h0) (.inl h0) ⟨hry.1, by omega, by omega⟩ h2 hL hmo
  · exact all_rows hm ⟨_, hr⟩ hnr (.inl hz0) hz1 hy0 hy1 (by omega) (.inr hc) (.inr ⟨hb, fun e => by have := (hYz bl e).1; omega⟩) ⟨hry.1, by omega, by omega⟩ h2 hL hmo
set_option maxRecDepth 100000 in
set_option maxHeartbeats 8000000 in
theorem lrows (va : Value) (A0 : List Th) (most : Int) (w : World) (ha : ThIn (fun b => b < w.heap.size) w va A0) :
    Calls Try.prog 3 #[va, .int .i64 most] w fun e w' => e = .returned (.bool true) ∧ Below w.heap.size w w' := by
  have hmf : ∀ (fn : Fn) (first cap : Array Value) (w : World), (Instr.makeFunc fn first cap).run Try.prog w = .ok (.func fn first cap) w := fun _ _ _ _ => rfl
  obtain ⟨p0, c0, e0, -⟩ := id ha
  have hb0 : Below w.heap.size w ((w.alloc (.cells #[va] 22)).alloc (.cells #[.int .i64 most] 3)) := ((Below.refl _ _).alloc (Nat.le_refl _) _).alloc (by simp) _
  have HS := Lib.hid (short_any (ha.swap (W := ((w.alloc (.cells #[va] 22)).alloc (.cells #[.int .i64 most] 3))) hb0.size (fun k hk => hb0.block k hk)))
  have HB0 := Lib.hid hb0
  clear ha hb0
  subst e0
  go_enter Try.func3, Try.ntmps3
  go_wp2_with fail
  refine HS.out.mono ?_
  rintro e w1 ⟨v1, rfl, hv1, rfl⟩
  have HV := Lib.hid hv1
  obtain ⟨p1, c1, e1, -⟩ := hv1
  obtain ⟨A, hA⟩ : ∃ A, A = A0.take 30 := ⟨_, rfl⟩
  have hAl : A.length ≤ 30 := by rw [hA, List.length_take]; omega
  rw [← hA] at HV e1
  clear hA
  subst e1
  have HL := Lib.hid hAl
  have hvw : ThIn (fun b => b < w.heap.size) w (.slice p1 A.length c1) A := HV.out.swap (Nat.le_refl _) (fun k hk => (HB0.out.block k hk).symm)
  have HVw := Lib.hid hvw
  clear HV hvw hAl HB0 HS
  go_wp2_with fail
  obtain ⟨W1, hW1⟩ : ∃ W1, W1 = (w.alloc (.cells #[.slice p1 A.length c1] 22)).alloc (.cells #[.int .i64 most] 3) := ⟨_, rfl⟩
  have hz0 : W1.heap[w.heap.size]? = some (.cells #[.slice p1 A.length c1] 22 (0, 0)) := by rw [hW1]; exact (Below.heap_alloc _ _ _ (by simp)).trans (heap_alloc_new w _)
  have hz1 : W1.heap[w.heap.size + 1]? = some (.cells #[.int .i64 most] 3 (0, 0)) := by rw [hW1]; simpa using heap_alloc_new (w.alloc (.cells #[.slice p1 A.length c1] 22)) (.cells #[.int .i64 most] 3)
  have hB1 : Below w.heap.size w W1 := by rw [hW1]; exact ((Below.refl _ _).alloc (Nat.le_refl _) _).alloc (by simp) _
  have hs1 : W1.heap.size = w.heap.size + 2 := by rw [hW1]; simp
  rw [← hW1]
  have HZ := Lib.hid (And.intro hz0 (And.intro hz1 (And.intro hB1 hs1)))
  have HCl := Lib.hid (show ∀ W, Below W1.heap.size W1 W → W.cell? ⟨w.heap.size, 0, none⟩ = some (.slice p1 A.length c1) ∧ W.cell? ⟨w.heap.size + 1, 0, none⟩ = some (.int .i64 most) from fun W hb =>
    ⟨(hb.cell (p := ⟨_, 0, none⟩) (show w.heap.size < W1.heap.size by omega)).trans (cell_of_row _ _ 0 _ _ (0, 0) hz0), (hb.cell (p := ⟨_, 0, none⟩) (show w.heap.size + 1 < W1.heap.size by omega)).trans (cell_of_row _ _ 0 _ _ (0, 0) hz1)⟩)
  have HT := Lib.hid (show ∀ W, Below W1.heap.size W1 W → ThIn (fun b => b < w.heap.size) W (.slice p1 A.length c1) A from fun W hb => HVw.out.swap (Nat.le_trans hB1.size hb.size) (fun k hk => (hb.block k (by omega)).trans (hB1.block k hk)))
  clear hW1 hz0 hz1 hB1 hs1
  have B1 := Lib.hid (Below.refl W1.heap.size W1)
  refine (of_any (HT.out W1 B1.out) (by have := HL.out; omega)).mono ?_
  rintro e w2 ⟨b2, Y2, rfl, hm2, hy2, hb2⟩
  have B2 := Lib.hid (B1.out.trans (hb2.mono B1.out.size))
  have HM2 := Lib.hid (And.intro hm2 hy2)
  clear hm2 hy2 hb2
  go_wp2_with fail
  refine (rest_any HM2.out.1 (by have := HL.out; omega)).mono ?_
  rintro e w3 ⟨v3, rfl, ho3, hu3, -⟩
  have B3 := Lib.hid (B2.out.trans (hu3.below B2.out.size (fun x _ e => HM2.out.2 x e)))
  have HO3 := Lib.hid ho3
  obtain ⟨k30, k31⟩ := HCl.out w3 B3.out
  clear ho3 hu3 HM2
  go_wp2_with fail
  refine (of_any (HT.out w3 B3.out) (by have := HL.out; omega)).mono ?_
  rintro e w4 ⟨b4, Y4, rfl, hm4, hy4, hb4⟩
  have B4 := Lib.hid (B3.out.trans (hb4.mono B3.out.size))
  have HR4 := Lib.hid (restm_any (c := (some b4, A)) (F := Y4) hm4 (by have := HL.out; show A.length ≤ 1000; omega))
  have HY4 := Lib.hid hy4
  have HO4 := Lib.hid (HO3.out.below hb4)
  have HV3 := Lib.hid (fun k (e : v3.ownBlock = some k) => (HO3.out.lt k e).2)
  clear hm4 hy4 hb4 HO3 k30 k31
  go_wp2_with fail
  refine HR4.out.mono ?_
  rintro e w5 ⟨v5, rfl, ho5, hu5⟩
  have B5 := Lib.hid (B4.out.trans (hu5.below B4.out.size (fun x _ e => Nat.le_trans B3.out.size (HY4.out x e))))
  have HO5 := Lib.hid (HO4.out.off hu5 (fun k e e' => by have := HV3.out k e; have := HY4.out k e'; omega))
  have HP5 := Lib.hid ho5
  obtain ⟨k50, k51⟩ := HCl.out w5 B5.out
  have HT5 := Lib.hid (HT.out w5 B5.out)
  clear ho5 hu5 HO4 HR4 HY4 HV3
  go_wp2_with fail
  refine (same_any (HO5.out.in_ (fun _ => True) (fun _ _ => trivial)) HT5.out (by have := HL.out; omega) (by have := HL.out; omega)).mono ?_
  rintro e w6 ⟨rfl, hb6⟩
  rw [decide_eq_true rfl]
  have B6 := Lib.hid (B5.out.trans (hb6.mono B5.out.size))
  have HP6 := Lib.hid (HP5.out.below hb6)
  obtain ⟨k60, k61⟩ := HCl.out w6 B6.out
  have HT6 := Lib.hid (HT.out w6 B6.out)
  clear hb6 HO5 HP5 HT5 k50 k51
  go_wp2_with fail
  refine (same_any (HP6.out.in_ (fun _ => True) (fun _ _ => trivial)) HT6.out (by have := HL.out; omega) (by have := HL.out; omega)).mono ?_
  rintro e w7 ⟨rfl, hb7⟩
  rw [decide_eq_true rfl]
  have B7 := Lib.hid (B6.out.trans (hb7.mono B6.out.size))
  obtain ⟨k70, k71⟩ := HCl.out w7 B7.out
  have HT7 := Lib.hid (HT.out w7 B7.out)
  clear hb7 HP6 HT6 k60 k61
  go_wp2_with fail
  refine (of_any HT7.out (by have := HL.out; omega)).mono ?_
  rintro e w8 ⟨b8, Y8, rfl, hm8, hy8, hb8⟩
  have B8 := Lib.hid (B7.out.trans (hb8.mono B7.out.size))
  have HM8 := Lib.hid (And.intro hm8 (show ∀ k, Y8 k → W1.heap.size ≤ k from fun k e => Nat.le_trans B7.out.size (hy8 k e)))
  clear hm8 hy8 hb8 HT7 k70 k71
  have qs := eqlSeq (w8.heap.size + 1)
  have HAl := Lib.hid (all_o (some b8) w8)
  go_wp2_with fail
  refine HAl.out.mono ?_
  rintro e w9 ⟨rfl, hw9⟩
  have hr9 : w9.heap[w8.heap.size + 1]? = some (.cells #[nextV b8] 83 (0, 0)) := by
    rw [← hw9]
    have := heap_alloc_new (w8.alloc (.cells #[nextO (some b8)] 83)) (.cells #[nextO (some b8)] 83)
    rw [World.size_alloc] at this
    exact this
  have hb9 : Below w8.heap.size w8 w9 := by rw [← hw9]; exact madeW_below _ _
  have B9 := Lib.hid (B8.out.trans (hb9.mono B8.out.size))
  have HM9 := Lib.hid (And.intro (HM8.out.1.below hb9) (And.intro HM8.out.2 (And.intro hr9 (And.intro (fun k e => HM8.out.1.inside k e) B8.out.size))))
  obtain ⟨k90, k91⟩ := HCl.out w9 B9.out
  have hsz9 : w.heap.size + 1 < w9.heap.size := by have := HZ.out.2.2.2; have := B9.out.size; omega
  have f91 := frozen_of_row w9 _ 0 _ _ ((B9.out.block _ (by have := HZ.out.2.2.2; omega)).trans HZ.out.2.1)
  clear hr9 hb9 hw9 HM8 HAl
  have HG := Lib.hid (show ∀ (u : World) (mo : Int), u.heap.size = w9.heap.size → (∀ k, k ≠ w.heap.size + 1 → u.heap[k]? = w9.heap[k]?) → u.heap[w.heap.size + 1]? = some (.cells #[.int .i64 mo] 3 (0, 0)) → u.os = w9.os ∧ u.tape = w9.tape ∧ u.output = w9.output → ∀ W11, W11 = ((u.alloc (.cells #[.int .i64 0] 3)).alloc (.cells #[.bool true] 4)) → W11.heap[w.heap.size]? = some (.cells #[.slice p1 A.length c1] 22 (0, 0)) ∧ W11.heap[w.heap.size + 1]? = some (.cells #[.int .i64 mo] 3 (0, 0)) ∧ W11.heap[w9.heap.size]? = some (.cells #[.int .i64 0] 3 (0, 0)) ∧ W11.heap[w9.heap.size + 1]? = some (.cells #[.bool true] 4 (0, 0)) ∧ MadeAt Tt b8 Y8 A W11 ∧ W11.heap[w8.heap.size + 1]? = some (.cells #[nextV b8] 83 (0, 0)) ∧ Below w.heap.size w W11 ∧ W11.heap.size = w9.heap.size + 2 from fun u mo us ub um uo W11 hW => by
    have z2 := HZ.out.2.2.2
    have sz := B9.out.size
    have g : ∀ k, k < w9.heap.size → W11.heap[k]? = u.heap[k]? := fun k hk => by rw [hW]; exact (Below.heap_alloc _ _ _ (by rw [World.size_alloc]; omega)).trans (Below.heap_alloc _ _ _ (by omega))
    have hsz : W11.heap.size = w9.heap.size + 2 := by rw [hW]; simp [us]
    refine ⟨?_, ?_, ?_, ?_, ?_, ?_, ?_, hsz⟩
    · exact (g _ (by omega)).trans ((ub _ (by omega)).trans ((B9.out.block _ (by omega)).trans HZ.out.1))
    · exact (g _ (by omega)).trans um
    · rw [hW, ← us]; exact (Below.heap_alloc _ _ _ (by simp)).trans (heap_alloc_new u _)
    · rw [hW, ← us]
      have := heap_alloc_new (u.alloc (.cells #[.int .i64 0] 3)) (.cells #[.bool true] 4)
      rwa [World.size_alloc] at this
    · exact HM9.out.1.keep (by omega) (fun k e => (g k (HM9.out.1.inside k e)).trans (ub k (by have := HM9.out.2.1 k e; omega)))
    · have := HM9.out.2.2.2.2
      exact (g _ (Array.getElem?_eq_some_iff.1 HM9.out.2.2.1).1).trans ((ub _ (by omega)).trans HM9.out.2.2.1)
    · have hb : Below w.heap.size w w9 := HZ.out.2.2.1.trans (B9.out.mono HZ.out.2.2.1.size)
      have hu : Below w.heap.size w u := ⟨uo.1.trans hb.os, uo.2.1.trans hb.tape, uo.2.2.trans hb.output, by omega, fun k hk => (ub k (by omega)).trans (hb.block k hk)⟩
      rw [hW]
      exact (hu.alloc hu.size _).alloc (by rw [World.size_alloc]; have := hu.size; omega) _)
  have hz9 := (B9.out.block _ (by have := HZ.out.2.2.2; omega)).trans HZ.out.2.1
  have HZ9 := Lib.hid hz9
  clear hz9
  refine (show most < 1 ∨ (¬ most < 1 ∧ 30 < most) ∨ (¬ most < 1 ∧ ¬ 30 < most) by omega).elim (fun hm1 => ?c1) (fun h => h.elim (fun ⟨hm1, hm2⟩ => ?c2) (fun ⟨hm1, hm2⟩ => ?c3))
  case' c1 =>
    go_wp2_with fail
    obtain ⟨W11, hW11⟩ : ∃ W11, W11 = ((w9.setCell ⟨w.heap.size + 1, 0, none⟩ (.int .i64 31)).alloc (.cells #[.int .i64 0] 3)).alloc (.cells #[.bool true] 4) := ⟨_, rfl⟩
    rw [← hW11]
    obtain ⟨mo, HP⟩ : ∃ mo : Int, Hid (1 ≤ mo ∧ W11.heap[w.heap.size]? = some (.cells #[.slice p1 A.length c1] 22 (0, 0)) ∧ W11.heap[w.heap.size + 1]? = some (.cells #[.int .i64 mo] 3 (0, 0)) ∧ W11.heap[w9.heap.size]? = some (.cells #[.int .i64 0] 3 (0, 0)) ∧ W11.heap[w9.heap.size + 1]? = some (.cells #[.bool true] 4 (0, 0)) ∧ MadeAt Tt b8 Y8 A W11 ∧ W11.heap[w8.heap.size + 1]? = some (.cells #[nextV b8] 83 (0, 0)) ∧ Below w.heap.size w W11 ∧ W11.heap.size = w9.heap.size + 2) := ⟨31, Lib.hid ⟨by omega, (HG.out (w9.setCell ⟨w.heap.size + 1, 0, none⟩ (.int .i64 31)) 31 (by simp [World.setCell]) (fun k hk => Below.heap_setCell _ _ _ _ hk) (by rw [Go.heap_setCell_same _ _ _ _ _ _ HZ9.out]; rfl) ⟨rfl, rfl, rfl⟩ W11 hW11)⟩⟩
    clear hW11 HG HZ9
  case' c2 =>
    go_wp2_with fail
    obtain ⟨W11, hW11⟩ : ∃ W11, W11 = ((w9.setCell ⟨w.heap.size + 1, 0, none⟩ (.int .i64 31)).alloc (.cells #[.int .i64 0] 3)).alloc (.cells #[.bool true] 4) := ⟨_, rfl⟩
    rw [← hW11]
    obtain ⟨mo, HP⟩ : ∃ mo : Int, Hid (1 ≤ mo ∧ W11.heap[w.heap.size]? = some (.cells #[.slice p1 A.length c1] 22 (0, 0)) ∧ W11.heap[w.heap.size + 1]? = some (.cells #[.int .i64 mo] 3 (0, 0)) ∧ W11.heap[w9.heap.size]? = some (.cells #[.int .i64 0] 3 (0, 0)) ∧ W11.heap[w9.heap.size + 1]? = some (.cells #[.bool true] 4 (0, 0)) ∧ MadeAt Tt b8 Y8 A W11 ∧ W11.heap[w8.heap.size + 1]? = some (.cells #[nextV b8] 83 (0, 0)) ∧ Below w.heap.size w W11 ∧ W11.heap.size = w9.heap.size + 2) := ⟨31, Lib.hid ⟨by omega, (HG.out (w9.setCell ⟨w.heap.size + 1, 0, none⟩ (.int .i64 31)) 31 (by simp [World.setCell]) (fun k hk => Below.heap_setCell _ _ _ _ hk) (by rw [Go.heap_setCell_same _ _ _ _ _ _ HZ9.out]; rfl) ⟨rfl, rfl, rfl⟩ W11 hW11)⟩⟩
    clear hW11 HG HZ9
  case' c3 =>
    go_wp2_with fail
    obtain ⟨W11, hW11⟩ : ∃ W11, W11 = (w9.alloc (.cells #[.int .i64 0] 3)).alloc (.cells #[.bool true] 4) := ⟨_, rfl⟩
    rw [← hW11]
    obtain ⟨mo, HP⟩ : ∃ mo : Int, Hid (1 ≤ mo ∧ W11.heap[w.heap.size]? = some (.cells #[.slice p1 A.length c1] 22 (0, 0)) ∧ W11.heap[w.heap.size + 1]? = some (.cells #[.int .i64 mo] 3 (0, 0)) ∧ W11.heap[w9.heap.size]? = some (.cells #[.int .i64 0] 3 (0, 0)) ∧ W11.heap[w9.heap.size + 1]? = some (.cells #[.bool true] 4 (0, 0)) ∧ MadeAt Tt b8 Y8 A W11 ∧ W11.heap[w8.heap.size + 1]? = some (.cells #[nextV b8] 83 (0, 0)) ∧ Below w.heap.size w W11 ∧ W11.heap.size = w9.heap.size + 2) := ⟨most, Lib.hid ⟨by omega, (HG.out w9 most rfl (fun _ _ => rfl) HZ9.out ⟨rfl, rfl, rfl⟩ W11 hW11)⟩⟩
    clear hW11 HG HZ9
  all_goals
    clear HCl HT B9 k90 k91 f91
    have HA11 := Lib.hid (all_rows2 HP.out.2.2.2.2.2.1 HP.out.2.2.2.2.2.2.1 HP.out.2.1 HP.out.2.2.1 HP.out.2.2.2.1 HP.out.2.2.2.2.1 (HVw.out.swap HP.out.2.2.2.2.2.2.2.1.size (fun k hk => HP.out.2.2.2.2.2.2.2.1.block k hk)) ⟨by have := HZ.out.2.2.2; have := HM9.out.2.2.2.2; omega, (Array.getElem?_eq_some_iff.1 HM9.out.2.2.1).1⟩ (fun k e => ⟨by have := HZ.out.2.2.2; have := HM9.out.2.1 k e; omega, Nat.lt_succ_of_lt (HM9.out.2.2.2.1 k e)⟩) HL.out HP.out.1)
    refine HA11.out.mono ?_
    rintro e w12 ⟨rfl, n, hn, hnm, hor, ⟨Yr, hmr⟩, hy12, hy13, hu12⟩
    obtain ⟨Z, hmz, hZ⟩ := hmr.ghost
    have hsz12 := hu12.size
    have hY8 : ∀ k, Y8 k → w.heap.size + 1 < k ∧ k < w9.heap.size := fun k e => ⟨by have := HZ.out.2.2.2; have := HM9.out.2.1 k e; omega, by have := HM9.out.2.2.2.1 k e; have := (Array.getElem?_eq_some_iff.1 HM9.out.2.2.1).1; omega⟩
    have hz8 : w.heap.size + 2 ≤ w8.heap.size := by have := HZ.out.2.2.2; have := HM9.out.2.2.2.2; omega
    have hz9 : w8.heap.size + 1 < w9.heap.size := (Array.getElem?_eq_some_iff.1 HM9.out.2.2.1).1
    have hz11 : W11.heap.size = w9.heap.size + 2 := HP.out.2.2.2.2.2.2.2.2
    have keep12 : ∀ {k : Nat} {o : Obj}, k ≤ w.heap.size + 1 → W11.heap[k]? = some o → w12.heap[k]? = some o := fun {k o} hk e => (hu12.block k (by omega) (fun _ e' => by
      rcases e' with e' | e' | e' | e'
      · omega
      · omega
      · omega
      · have := hY8 k e'; omega)).trans e
    have c120 := keep12 (by omega) HP.out.2.1
    have c121 := keep12 (by omega) HP.out.2.2.1
    have HB12 := Lib.hid (show Below w.heap.size w w12 from HP.out.2.2.2.2.2.2.2.1.trans (hu12.below HP.out.2.2.2.2.2.2.2.1.size (fun k _ e' => by
      rcases e' with e' | e' | e' | e'
      · omega
      · omega
      · omega
      · have := hY8 k e'; omega)))
    have hZn : ∀ k, k < W11.heap.size → (k ≤ w.heap.size + 1 ∨ k = w9.heap.size) → ¬ Z k := fun k hk e => hZ k hk (fun e' => by have := hY8 k e'; omega)
    have HMz := Lib.hid hmz
    have HZn := Lib.hid (And.intro hZn (And.intro hsz12 (And.intro c120 (And.intro hy12 (And.intro hz11 (And.intro hz9 hz8))))))
    have k0 := cell_of_row w12 _ 0 _ _ (0, 0) c120
    have k1 := cell_of_row w12 _ 0 _ _ (0, 0) c121
    have k2 := cell_of_row w12 _ 0 _ _ (0, 0) hy12
    have k3 := cell_of_row w12 _ 0 _ _ (0, 0) hy13
    have hmin : min (A.length : Int) mo = (n : Int) := by omega
    have hnl : (n : Int) ≤ (A.length : Int) := by omega
    have HN := Lib.hid hn
    clear hn hnm hor hmr hy12 hy13 hu12 hmz hZ hsz12 hY8 hz8 hz9 hz11 keep12 c120 c121 hZn HA11 HP
    go_wp2_with fail
    all_goals
      refine (rest_any HMz.out (by rw [List.length_drop]; have := HL.out; omega)).mono ?_
      rintro e w13 ⟨v13, rfl, ho13, hu13, -⟩
      obtain ⟨hZn, hsz12, c120, hy12, hz11, hz9, hz8⟩ := HZn.out
      have keep13 : ∀ {k : Nat} {o : Obj}, k < W11.heap.size → (k ≤ w.heap.size + 1 ∨ k = w9.heap.size) → w12.heap[k]? = some o → w13.heap[k]? = some o := fun {k o} h1 h2 e => (hu13.block k (by omega) (fun _ e' => hZn k h1 h2 e')).trans e
      have c130 := keep13 (by omega) (.inl (by omega)) c120
      have c131 := keep13 (by omega) (.inr rfl) hy12
      have HB13 := Lib.hid (show Below w.heap.size w w13 from ⟨hu13.os.trans HB12.out.os, hu13.tape.trans HB12.out.tape, hu13.output.trans HB12.out.output, Nat.le_trans HB12.out.size hu13.size, fun k hk => (hu13.block k (by have := HB12.out.size; omega) (fun _ e' => hZn k (by omega) (.inl (by omega)) e')).trans (HB12.out.block k hk)⟩)
      have HO13 := Lib.hid ho13
      have HT13 := Lib.hid (HVw.out.swap (W := w13) HB13.out.size (fun k hk => HB13.out.block k hk))
      have k4 := cell_of_row w13 _ 0 _ _ (0, 0) c130
      have k5 := cell_of_row w13 _ 0 _ _ (0, 0) c131
      obtain ⟨p', c', e', hc1, hcm, -⟩ := id HT13.out
      injection e' with e1 e2 e3
      subst e1 e3
      unfold maxLen at hcm
      have hcn : (n : Int) ≤ (c1 : Int) := by omega
      have hlc : (A.length : Int) ≤ (c1 : Int) := by omega
      clear e2 ho13 hu13 hZn hsz12 c120 hy12 hz11 hz9 hz8 keep13 c130 c131 HMz HZn k0 k1 k2 k3 HB12
      by_cases hcn1 : c1 = n
      · have hnl0 : n = A.length := by omega
        go_wp2_with fail
        refine (same_any (S' := fun b => b < w.heap.size) (M := A.drop n) (HO13.out.in_ (fun _ => True) (fun _ _ => trivial)) ?hth (by rw [List.length_drop]; have := HL.out; omega) (by rw [List.length_drop]; have := HL.out; omega)).mono ?_
        case hth => first | exact ThIn.drop2 hnl0 | (rw [show A.length - n = 0 by omega]; exact ThIn.drop2 hnl0) | (rw [show c1 - n = 0 by omega, show A.length - n = 0 by omega]; exact ThIn.drop2 hnl0)
        rintro e w14 ⟨rfl, hb14⟩
        have HB14 := Lib.hid (HB13.out.trans (hb14.mono HB13.out.size))
        rw [decide_eq_true rfl]
        clear hb14
        go_wp2_with fail
        refine (alive_true w14).mono ?_
        rintro e w15 ⟨rfl, hb15⟩
        have HB15 := Lib.hid (HB14.out.trans (hb15.mono HB14.out.size))
        clear hb15
        go_wp2_with fail
        go_ret
        exact ⟨rfl, HB15.out⟩
      · have hcn2 : ¬ (c1 : Int) = (n : Int) := by omega
        go_wp2_with fail
        refine (same_any (S' := fun b => b < w.heap.size) (M := A.drop n) (HO13.out.in_ (fun _ => True) (fun _ _ => trivial)) ?hth (by rw [List.length_drop]; have := HL.out; omega) (by rw [List.length_drop]; have := HL.out; omega)).mono ?_
        case hth => exact ThIn.drop1 HT13.out HN.out
        rintro e w14 ⟨rfl, hb14⟩
        have HB14 := Lib.hid (HB13.out.trans (hb14.mono HB13.out.size))
        rw [decide_eq_true rfl]
        clear hb14
        go_wp2_with fail
        refine (alive_true w14).mono ?_
        rintro e w15 ⟨rfl, hb15⟩
        have HB15 := Lib.hid (HB14.out.trans (hb15.mono HB14.out.size))
        clear hb15
        go_wp2_with fail
        go_ret
        exact ⟨rfl, HB15.out⟩
end Go.Proofs.Ytemfglpjokmioaa
