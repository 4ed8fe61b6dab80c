/-
  awake of the cache's laws answers true.
-/
import Derived.Test.YtdjebcfpodfhhaaChZ
namespace Go.Proofs.Ytdjebcfpodfhhaa
open Go Go.RowKit Go.Maps Go.WideMaps

theorem okA (i : Int) (h1 : -1000 ≤ i) (h2 : i ≤ 1000) : KeyOk nmA i := by
  refine ⟨by decide, ?_⟩
  simp only [Lit.wf, Bool.and_eq_true, decide_eq_true_eq]
  have e1 : IntKind.i64.min = -9223372036854775808 := by rfl
  have e2 : IntKind.i64.max = 9223372036854775807 := by rfl
  rw [e1, e2]
  omega
abbrev pgA (i : Int) : Pg := (nmA, i, pgE i)
theorem aw1 : putL 2 nmA 1 (pgE 1) [] = [pgA 1] ∧ putG 2 nmA 1 0 [] = 0 := ⟨rfl, by simp [putG, restL]⟩
theorem aw2 : putL 2 nmA 2 (pgE 2) [pgA 1] = [pgA 2, pgA 1] ∧ putG 2 nmA 2 0 [pgA 1] = 0 := ⟨by simp [putL, restL, eqK], by simp [putG, restL, eqK]⟩
theorem aw3 : findL nmA 1 [pgA 2, pgA 1] = some (pgA 1) ∧ restL nmA 1 [pgA 2, pgA 1] = [pgA 2] := ⟨by simp [findL, eqK], by simp [restL, eqK]⟩
theorem aw4 : putL 2 nmA 3 (pgE 3) [pgA 1, pgA 2] = [pgA 3, pgA 1] ∧ putG 2 nmA 3 0 [pgA 1, pgA 2] = 1 := ⟨by simp [putL, restL, eqK], by simp [putG, restL, eqK]⟩
/-- The entries that were told, in blocks behind n1. -/
theorem EntS.up {S : Nat → Prop} {W W' : World} {v : Value} {E : List (List V3 × Int)} (h : EntS S W v E) (hb : Below W.heap.size W W') : EntS S W' v E :=
  h.inside.same (fun _ hk => hk.1) (fun b o hk => hb.cell (p := ⟨b, o, none⟩) hk.2)
theorem EntS.up' {W W' : World} {v : Value} {E : List (List V3 × Int)} (h : EntS (fun k => k < W.heap.size) W v E) (hb : Below W.heap.size W W') : EntS (fun k => k < W'.heap.size) W' v E :=
  (h.up hb).mono (fun _ hk => Nat.lt_of_lt_of_le hk hb.size)
def KRow (g : Nat) (X : World) : Prop := X.cell? ⟨g, 0, none⟩ = some (.string nmA) ∧ X.cell? ⟨g, 1, none⟩ = some (.int .i64 3) ∧ X.cell? ⟨g, 2, none⟩ = some (.string nmA) ∧ X.cell? ⟨g, 3, none⟩ = some (.int .i64 1)
theorem KRow.below {g : Nat} {X Y : World} (h : KRow g X) (hb : Below X.heap.size X Y) : KRow g Y := by
  have hl := lt_of_cell h.1
  obtain ⟨h0, h1, h2, h3⟩ := h
  exact ⟨(hb.cell (p := ⟨g, 0, none⟩) hl).trans h0, (hb.cell (p := ⟨g, 1, none⟩) hl).trans h1, (hb.cell (p := ⟨g, 2, none⟩) hl).trans h2, (hb.cell (p := ⟨g, 3, none⟩) hl).trans h3⟩
set_option maxRecDepth 100000 in
set_option maxHeartbeats 8000000 in
theorem awake_true (w : World) : Calls Try.prog 7 #[] w fun e w' => e = .returned (.bool true) ∧ Below w.heap.size w w' := by
  go_enter Try.func7, Try.ntmps7
  go_wp2_with fail
  refine (newX w 2 (by decide) (by decide)).mono ?_
  rintro e w1 ⟨rfl, hca, hb1⟩
  have HC1 := Lib.hid hca
  have HB1 := Lib.hid hb1
  generalize w.heap.size + 3 = c at *
  clear hca hb1
  go_wp2_with fail
  refine (key_any 1 _).mono ?_
  rintro e w2 ⟨rfl, hb2⟩
  have HC2 := Lib.hid (HC1.out.below hb2)
  have HB2 := Lib.hid (HB1.out.trans (hb2.mono HB1.out.size))
  have HS2 := Lib.hid hb2.size
  clear hb2 HC1 HB1
  go_wp2_with fail
  refine (page_any 1 _).mono ?_
  rintro e w3 ⟨v1, rfl, he1, hb3⟩
  have HC3 := Lib.hid (HC2.out.below hb3)
  have HB3 := Lib.hid (HB2.out.trans (hb3.mono HB2.out.size))
  have HE3 := Lib.hid (he1.inside.mono (S' := fun k => k < w3.heap.size ∧ ¬ (w.heap.size ≤ k ∧ k < w1.heap.size)) (fun k hk => ⟨hk.2, fun e => by have := HS2.out; have := hk.1; omega⟩))
  clear hb3 he1 HC2 HB2 HS2
  go_wp2_with fail
  refine (putX HC3.out nmA 1 (okA 1 (by decide) (by decide)) v1 (pgE 1) HE3.out (by decide) (by decide)).mono ?_
  rintro e w4 ⟨rfl, hu4, hc4⟩
  rw [aw1.1, aw1.2] at hc4
  have HC4 := Lib.hid hc4
  have HB4 := Lib.hid (HB3.out.trans (hu4.below HB3.out.size (fun _ _ e => e.1)))
  clear hu4 hc4 HC3 HB3 HE3
  go_wp2_with fail
  refine (key_any 2 _).mono ?_
  rintro e w5 ⟨rfl, hb5⟩
  have HC5 := Lib.hid (HC4.out.below hb5)
  have HB5 := Lib.hid (HB4.out.trans (hb5.mono HB4.out.size))
  have HS5 := Lib.hid hb5.size
  clear hb5 HC4 HB4
  go_wp2_with fail
  refine (page_any 2 _).mono ?_
  rintro e w6 ⟨v2, rfl, he2, hb6⟩
  have HC6 := Lib.hid (HC5.out.below hb6)
  have HB6 := Lib.hid (HB5.out.trans (hb6.mono HB5.out.size))
  have HE6 := Lib.hid (he2.inside.mono (S' := fun k => k < w6.heap.size ∧ ¬ (w.heap.size ≤ k ∧ k < w4.heap.size)) (fun k hk => ⟨hk.2, fun e => by have := HS5.out; have := hk.1; omega⟩))
  clear hb6 he2 HC5 HB5 HS5
  go_wp2_with fail
  refine (putX HC6.out nmA 2 (okA 2 (by decide) (by decide)) v2 (pgE 2) HE6.out (by decide) (by decide)).mono ?_
  rintro e w7 ⟨rfl, hu7, hc7⟩
  rw [aw2.1, aw2.2] at hc7
  have HC7 := Lib.hid hc7
  have HB7 := Lib.hid (HB6.out.trans (hu7.below HB6.out.size (fun _ _ e => e.1)))
  clear hu7 hc7 HC6 HB6 HE6
  go_wp2_with fail
  refine (key_any 1 _).mono ?_
  rintro e w8 ⟨rfl, hb8⟩
  have HC8 := Lib.hid (HC7.out.below hb8)
  have HB8 := Lib.hid (HB7.out.trans (hb8.mono HB7.out.size))
  have HS8 := Lib.hid hb8.size
  clear hb8 HC7 HB7
  go_wp2_with fail
  refine (getX HC8.out nmA 1 (okA 1 (by decide) (by decide)) (by decide) (by decide)).mono ?_
  rintro e w9 ⟨hu9, hget⟩
  obtain ⟨pv, hec, hc9, hpe⟩ : ∃ pv, e = .returned (.tuple #[pv, .bool true]) ∧ CaX w.heap.size w7.heap.size 2 w9 c 2 1 0 0 [pgA 1, pgA 2] ∧ EntS (fun k => w8.heap.size ≤ k) w9 pv (pgE 1) := by
    rcases hget with ⟨h, -⟩ | ⟨x, v, h, he, hc, hE, -⟩
    · rw [aw3.1] at h; cases h
    · rw [aw3.1] at h
      cases h
      rw [aw3.2] at hc
      exact ⟨v, he, hc, hE⟩
  subst hec
  have HC9 := Lib.hid hc9
  have HB9 := Lib.hid (HB8.out.trans (hu9.below HB8.out.size (fun _ _ e => e.1)))
  have HP9 := Lib.hid (hpe.mono (S' := fun k => w7.heap.size ≤ k) (fun k hk => by have := HS8.out; omega))
  clear hu9 hc9 hpe hget HC8 HB8 HS8
  go_wp2_with fail
  refine (key_any 3 _).mono ?_
  rintro e w10 ⟨rfl, hb10⟩
  have HC10 := Lib.hid (HC9.out.below hb10)
  have HB10 := Lib.hid (HB9.out.trans (hb10.mono HB9.out.size))
  have HP10 := Lib.hid (HP9.out.up hb10)
  have HS10 := Lib.hid hb10.size
  have HC9n := Lib.hid (show w7.heap.size ≤ w9.heap.size from by obtain ⟨_, _, _, _, _, _, _, _, _, _, _, _, h, _⟩ := HC9.out; exact h)
  clear hb10 HC9 HB9 HP9
  go_wp2_with fail
  refine (page_any 3 _).mono ?_
  rintro e w11 ⟨v3, rfl, he3, hb11⟩
  have HC11 := Lib.hid (HC10.out.below hb11)
  have HB11 := Lib.hid (HB10.out.trans (hb11.mono HB10.out.size))
  have HP11 := Lib.hid (HP10.out.up hb11)
  have HE11 := Lib.hid (he3.inside.mono (S' := fun k => k < w11.heap.size ∧ ¬ (w.heap.size ≤ k ∧ k < w7.heap.size)) (fun k hk => ⟨hk.2, fun e => by have := HS10.out; have := HC9n.out; have := hk.1; omega⟩))
  clear hb11 he3 HC10 HB10 HP10 HS10 HC9n
  go_wp2_with fail
  refine (putX HC11.out nmA 3 (okA 3 (by decide) (by decide)) v3 (pgE 3) HE11.out (by decide) (by decide)).mono ?_
  rintro e w12 ⟨rfl, hu12, hc12⟩
  rw [aw4.1, aw4.2] at hc12
  have HC12 := Lib.hid hc12
  have HB12 := Lib.hid (HB11.out.trans (hu12.below HB11.out.size (fun _ _ e => e.1)))
  have HP12 := Lib.hid (HP11.out.inside.same (S' := fun k => k < w12.heap.size) (fun k hk => Nat.lt_of_lt_of_le hk.2 hu12.size) (fun b o hk => hu12.cell b o hk.2 (fun e => by have := hk.1; have := e.2; omega)))
  clear hu12 hc12 HC11 HB11 HP11 HE11
  go_wp2_with fail
  refine (keysX HC12.out).mono ?_
  rintro e w13 ⟨kv, rfl, hr13, hb13⟩
  have HC13 := Lib.hid (HC12.out.below hb13)
  have HB13 := Lib.hid (HB12.out.trans (hb13.mono HB12.out.size))
  have HP13 := Lib.hid ((HP12.out.up hb13).mono (S' := fun k => k < w13.heap.size) (fun k hk => Nat.lt_of_lt_of_le hk hb13.size))
  obtain ⟨g, cap, rfl, -, -⟩ := World.ownsRow.form hr13 (by decide)
  have k0 := World.ownsRow.cells hr13 (g := g) rfl 0 (.string nmA) rfl
  have k1 := World.ownsRow.cells hr13 (g := g) rfl 1 (.int .i64 3) rfl
  have k2 := World.ownsRow.cells hr13 (g := g) rfl 2 (.string nmA) rfl
  have k3 := World.ownsRow.cells hr13 (g := g) rfl 3 (.int .i64 1) rfl
  rw [addr_add] at k0 k1 k2 k3
  clear hr13 hb13 HC12 HB12 HP12
  go_wp2_with fail
  have HD0 := Lib.hid (And.intro (show CaX w.heap.size w12.heap.size 3 w13.drew c 2 1 0 1 [pgA 3, pgA 1] from HC13.out.below ((Below.refl _ _).drew)) (show Below w.heap.size w w13.drew from HB13.out.drew))
  have HP0 := Lib.hid (show EntS (fun k => k < w13.drew.heap.size) w13.drew pv (pgE 1) from HP13.out.up ((Below.refl _ _).drew))
  have HK0 := Lib.hid (show KRow g w13.drew from ⟨k0, k1, k2, k3⟩)
  have q3 : ∀ W : World, (binOp .eql 33 (.agg #[.string nmA, .int .i64 3]) (.agg #[.string nmA, .int .i64 3])).run Try.prog W = .ok (.bool true) W := fun _ => by kernel_rfl
  have q1 : ∀ W : World, (binOp .eql 33 (.agg #[.string nmA, .int .i64 1]) (.agg #[.string nmA, .int .i64 1])).run Try.prog W = .ok (.bool true) W := fun _ => by kernel_rfl
  have qs : ∀ W : World, (binOp .eql 42 (.agg #[.int .i64 1, .int .i64 0, .int .i64 1]) (.agg #[.int .i64 1, .int .i64 0, .int .i64 1])).run Try.prog W = .ok (.bool true) W := fun _ => by kernel_rfl
  clear HC13 HB13 HP13 k0 k1 k2 k3
  go_region_held3 (fun X => X.cell? ⟨g, 0, none⟩ = some (.string nmA) ∧ X.cell? ⟨g, 1, none⟩ = some (.int .i64 3) ∧ X.cell? ⟨g, 2, none⟩ = some (.string nmA) ∧ X.cell? ⟨g, 3, none⟩ = some (.int .i64 1))
    (first | exact HK0.out | exact HK1.out | exact HK2.out | exact HK3.out | exact HK4.out | exact HK5.out | exact HK6.out)
    ((first
      | (go_at_call 23; with_reducible refine (page_any 1 w13.drew).mono ?_; rintro e w14 ⟨v4, rfl, he4, hb14⟩; have HK1 := Lib.hid (HK0.out.below hb14); have HD1 := Lib.hid (And.intro (HD0.out.1.below hb14) (HD0.out.2.trans (hb14.mono HD0.out.2.size))); have HP1 := Lib.hid (And.intro (HP0.out.up' hb14) (he4.inside.mono (S' := fun k => k < w14.heap.size) (fun k hk => hk.2))); clear hb14 he4)
      | (go_at_call 24; with_reducible refine (rsame_same pv v4 (pgE 1) w14 HP1.out.1 HP1.out.2).mono ?_; rintro e w15 ⟨rfl, hg15⟩; have HK2 := Lib.hid (HK1.out.below hg15.below); have HD2 := Lib.hid (And.intro (HD1.out.1.below hg15.below) (HD1.out.2.trans (hg15.below.mono HD1.out.2.size))); clear hg15)
      | (go_at_call 22; with_reducible refine (key_any 3 w15).mono ?_; rintro e w16 ⟨rfl, hb16⟩; have HK3 := Lib.hid (HK2.out.below hb16); have HD3 := Lib.hid (And.intro (HD2.out.1.below hb16) (HD2.out.2.trans (hb16.mono HD2.out.2.size))); clear hb16)
      | (go_at_call 22; with_reducible refine (key_any 1 w16).mono ?_; rintro e w17 ⟨rfl, hb17⟩; have HK4 := Lib.hid (HK3.out.below hb17); have HD4 := Lib.hid (And.intro (HD3.out.1.below hb17) (HD3.out.2.trans (hb17.mono HD3.out.2.size))); clear hb17)
      | (go_at_call 15; with_reducible refine (statsX HD4.out.1).mono ?_; rintro e w18 ⟨rfl, hb18⟩; have HK5 := Lib.hid (HK4.out.below hb18); have HD5 := Lib.hid (And.intro (HD4.out.1.below hb18) (HD4.out.2.trans (hb18.mono HD4.out.2.size))); clear hb18)
      | (go_at_call 16; with_reducible refine (roomX HD5.out.1).mono ?_; rintro e w19 ⟨rfl, rfl⟩)))
  go_wp2_with fail
  go_ret
  exact ⟨rfl, HD5.out.2⟩
end Go.Proofs.Ytdjebcfpodfhhaa
