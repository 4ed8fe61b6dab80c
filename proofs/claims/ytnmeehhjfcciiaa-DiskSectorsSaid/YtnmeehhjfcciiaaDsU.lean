/-
  Disk.Lose of one file, its directory fixed: each sector is as it is, or as it was.
-/
import Derived.Test.YtnmeehhjfcciiaaDsT
namespace Go.Proofs.Ytnmeehhjfcciiaa
open Go Go.RowKit Go.Maps Go.WideMaps

theorem row_shape {w : World} {B : Nat} {e : TypeId} {sz n : Nat} {v : Value} {xs : List Value} (h : w.ownsRow B e sz v n xs) : ∃ p c, v = .slice p n c := by
  rcases h.2 with ⟨rfl, h0⟩ | ⟨g, cap, cur, rfl, -⟩
  · exact ⟨none, 0, by rw [h0]⟩
  · exact ⟨_, cap, rfl⟩
theorem spc_at : ∀ (P : List Nat) (k : Nat) (h : k < P.length), (spc P)[k * 2]? = some (.int .i64 0) ∧ (spc P)[k * 2 + 1]? = some (.int .i64 ((P[k] : Nat) : Int))
  | a :: P, 0, _ => ⟨rfl, rfl⟩
  | a :: P, k + 1, h => by
    have := spc_at P k (by simpa using h)
    rw [show (k + 1) * 2 = k * 2 + 1 + 1 by omega]
    exact this
theorem spot_at {w : World} {hi rc : Nat} {rp : Option Addr} {P : List Nat} (h : w.ownsRow hi 92 2 (.slice rp P.length rc) P.length (spc P)) (k : Nat) (hk : k < P.length) :
    ∃ gS, rp = some ⟨gS, 0, none⟩ ∧ gS < w.heap.size ∧ hi ≤ gS ∧ (P.length ≤ rc ∧ rc ≤ maxLen) ∧ w.cell? ⟨gS, k * 2, none⟩ = some (.int .i64 0) ∧ w.cell? ⟨gS, k * 2 + 1, none⟩ = some (.int .i64 ((P[k] : Nat) : Int)) := by
  have h' := h
  rcases h.2 with ⟨-, h0⟩ | ⟨g, cap, cur, e, hb, hg, h2, h3, -⟩
  · omega
  injection e with e1 _ e2
  subst e1 e2
  have add_is : ∀ j : Nat, (⟨g, 0, none⟩ : Addr).add j = ⟨g, j, none⟩ := fun j => by unfold Addr.add; split <;> simp_all
  obtain ⟨p0, p1⟩ := spc_at P k hk
  have c0 := World.ownsRow.cells h' (g := g) (by simp [Value.ownBlock]) (k * 2) _ p0
  have c1 := World.ownsRow.cells h' (g := g) (by simp [Value.ownBlock]) (k * 2 + 1) _ p1
  rw [add_is] at c0 c1
  exact ⟨g, rfl, (Array.getElem?_eq_some_iff.1 hg).1, hb, ⟨h2, h3⟩, c0, c1⟩
/-- Behind restore. -/
theorem losez_put {w W w8 : World} {x : Nat} {room next z : Int} {c r sz nx it hi len g2 sN : Nat} {s now was l l' : List UInt8} {vk vs rv v : Value} {P : List Nat} (hM : LzM w W x room next c r sz nx s vk vs z it hi rv P len now was)
    (hm : MapAt W Try.prog 3 x 1 (oneM (.int .i64 0) (.pointer (some ⟨g2, 0, none⟩)))) (hf : FileAt W g2 v z (.slice none 0 0)) (hl : l.length = len) (hx : Mix now was l) (hn : it < g2 ∧ g2 < hi) (hb : ∀ b, v.ownBlock = some b → it < b ∧ b < hi ∧ b ≠ g2)
    (hmd : Mend l' l (sec was sN) (sN * 64) (min 64 (l.length - sN * 64))) (ho : OwnF it w8 v l') (hg : Grow (fun y => v.ownBlock = some y) W w8) : LzM w w8 x room next c r sz nx s vk vs z it hi rv P len now was := by
  have o := hM.ord
  have ob := hM.base.ord
  refine ⟨hM.base.step hg (fun k e => .inr (by have := hb k e; omega)), own_grow hM.row hg (fun k hk e => by have := hb k e; have := (hM.row.lt k hk).1; omega), ⟨l', ⟨g2, v, hm.grow hg (fun e => by have := hb x e; omega), hf.grow hg (fun e => (hb g2 e).2.2 rfl), ho, hn.1, hn.2, hb⟩, (mend_len hmd).trans hl, mix_mend hx hmd⟩, hM.ord⟩
theorem losez_arm {w w1 w2 : World} {x : Nat} {room next z zz : Int} {c r sz nx it : Nat} {s : List UInt8} {vk vs v : Value} {l : List UInt8} (hzz : zz = z) (hB : LzB w w1 x room next c r sz nx s vk vs z) (hF : MapAt w1 Try.prog 3 x 0 (.map [])) (how : OwnF w1.drew.heap.size w2 v l) (hg : Grow (fun _ => False) w1.drew w2) (hit : it < w1.heap.size) :
    ∃ p5 N5 c5 w3, v = .slice p5 N5 c5 ∧ (Instr.mapUpdate 59 (.map (some x)) (.int .i64 0) (.pointer (some ⟨w2.heap.size, 0, none⟩))).run Try.prog (w2.alloc (.cells #[.slice p5 N5 c5, .int .i64 zz, .slice none 0 0] 69)) = .ok () w3 ∧
      LzB w w3 x room next c r sz nx s vk vs z ∧ NewG w3 x it w3.heap.size z l ∧ Grow (fun k => k = x) w1 w3 ∧ x + 4 < w2.heap.size ∧ w2.cell? ⟨x + 4, 3, none⟩ = some (.map (some x)) ∧ (w2.alloc (.cells #[.slice p5 N5 c5, .int .i64 zz, .slice none 0 0] 69)).cell? ⟨x + 4, 3, none⟩ = some (.map (some x)) ∧ w3.cell? ⟨x + 4, 3, none⟩ = some (.map (some x)) ∧
      (Instr.lookup 84 (.map (some sz)) (.int .i64 0) false).run Try.prog w2 = .ok (.int .i64 zz) w2 ∧ (Instr.lookup 84 (.map (some sz)) (.int .i64 0) false).run Try.prog (w2.alloc (.cells #[.slice p5 N5 c5, .int .i64 zz, .slice none 0 0] 69)) = .ok (.int .i64 zz) (w2.alloc (.cells #[.slice p5 N5 c5, .int .i64 zz, .slice none 0 0] 69)) ∧ (Instr.lookup 84 (.map (some sz)) (.int .i64 0) false).run Try.prog w3 = .ok (.int .i64 zz) w3 := by
  subst hzz
  obtain ⟨p5, N5, c5, rfl⟩ : ∃ p N c, v = .slice p N c := by
    obtain ⟨p, c, e⟩ := how.shp
    exact ⟨p, _, c, e⟩
  obtain ⟨w3, hrun3, hB3, hN3, hg3⟩ := losez_upd hB hF how hg hit
  have hB2 := hB.same ((Grow.refl _ w1).drew.trans hg)
  have hB2' := hB2.same ((Grow.refl _ w2).alloc (.cells #[.slice p5 N5 c5, .int .i64 zz, .slice none 0 0] 69))
  obtain ⟨ks2, -, hz2⟩ := hB2.sizes
  obtain ⟨ks3, -, hz3⟩ := hB2'.sizes
  obtain ⟨ks4, -, hz4⟩ := hB3.sizes
  exact ⟨p5, N5, c5, w3, rfl, hrun3, hB3, hN3, hg3, hB2.on.lt, hB2.on.cells.2.2.2.1, hB2'.on.cells.2.2.2.1, hB3.on.cells.2.2.2.1, look_z hz2, look_z hz3, look_z hz4⟩
set_option maxRecDepth 100000 in
set_option maxHeartbeats 4000000 in
theorem lose_gen {n0 n1 nF : Nat} {w : World} {d F O D X g : Nat} {room next : Int} {nf no nd nx fixed i0 j0 : Nat} {fv wrn vk vs : Value} {oo dd : DataW Value} {s now was : List UInt8} {xs : List Value}
    (h : DkS n0 w d F O D X room next nf no nd nx 0 (oneM (.int .i64 0) (.pointer (some ⟨g, 0, none⟩))) oo dd (oneM (.string s) (.int .i64 0)) (.slice none 0 0) xs) (hO : Olds w n1 oo (keptF was i0 j0)) (hno : no ≤ 1000000)
    (hg : FileAt w g fv (fixed : Int) wrn) (hf : OwnF nF w fv now) (hfx : fixed ≤ now.length) (hl : now.length ≤ 1000000) (hk : RdT w vk) (hs : RdT w vs) :
    Calls Try.prog 15 #[.pointer (some ⟨d, 0, none⟩), .agg #[.int .i64 0, vk, vs]] w (LoseG w room s now was fixed) := by
  have HY := Lib.hid hf
  have HO := Lib.hid hO
  have HNo := Lib.hid hno
  have HLn := Lib.hid (And.intro hl hfx)
  have HVk := Lib.hid hk
  have HVs := Lib.hid hs
  obtain ⟨fp, fc, rfl⟩ := hf.shp
  have HS := Lib.hid h
  have HFi := Lib.hid hg
  clear h hO hno hg hf hfx hl hk hs
  go_enter Try.func15, Try.ntmps15
  go_wp2_with fail
  have hB0 := heap_alloc_new w (.cells #[.int .i64 0, vk, vs] 26)
  have HG0 := Lib.hid ((Grow.refl (fun _ => False) w).alloc (.cells #[.int .i64 0, vk, vs] 26))
  generalize w.alloc (.cells #[.int .i64 0, vk, vs] 26) = w0 at *
  have HB0 := Lib.hid hB0
  clear hB0
  refine (made_yes (HS.out.same HG0.out).on).mono ?_
  rintro e w1 ⟨rfl, rfl⟩
  go_wp2_with fail
  have hl := (HS.out.same HG0.out).on.lt
  obtain ⟨-, -, -, -, -, -, -, c7, -, -⟩ := (HS.out.same HG0.out).on.cells
  have l0 := cell_of_row w0 w.heap.size 0 _ _ (0, 0) HB0.out
  have hL := (Array.getElem?_eq_some_iff.1 HB0.out).1
  go_quiet (fail)
  have HG1 := Lib.hid (show Grow (fun _ => False) w (w0.drewN nq) from HG0.out.trans ⟨rfl, rfl, rfl, Nat.le_refl _, fun _ _ _ => rfl⟩)
  have HB1 := Lib.hid (show (w0.drewN nq).heap[w.heap.size]? = some (.cells #[.int .i64 0, vk, vs] 26 (0, 0)) from HB0.out)
  clear hl c7 l0 hL
  generalize w0.drewN nq = w1 at *
  clear HB0 HG0
  obtain ⟨-, c1, -, -, -, -, -, -, -, -⟩ := (HS.out.same HG1.out).on.cells
  go_wp2_with fail
  refine (empty_any w1 room).mono ?_
  rintro e w2 ⟨rfl, hN⟩
  have HX := Lib.hid (LzN.of_new HG1.out hN)
  have HB2 := Lib.hid ((hN.below.block _ (Array.getElem?_eq_some_iff.1 HB1.out).1).trans HB1.out)
  obtain ⟨x, HXe⟩ : ∃ x, Hid (x = w1.heap.size) := ⟨_, Lib.hid rfl⟩
  rw [← HXe.out] at HX ⊢
  have HXw := Lib.hid (show w.heap.size < x by rw [HXe.out]; exact (Array.getElem?_eq_some_iff.1 HB1.out).1)
  clear hN c1 HB1 HG1 HXe
  obtain ⟨-, -, c2, -, -, -, -, -, -, -⟩ := (HS.out.same HX.out.old).on.cells
  obtain ⟨-, -, d2, -, -, -, -, -, -, -⟩ := HX.out.on.cells
  have f2 := HX.out.on.loose 2
  have l0 := cell_of_row w2 w.heap.size 0 _ _ (0, 0) HB2.out
  have hL := (Array.getElem?_eq_some_iff.1 HB2.out).1
  have hxw : ¬ w.heap.size = x + 4 := by have := HX.out.new; omega
  go_wp2_with fail
  have HX3 := Lib.hid (HX.out.setC 2 (.int .i64 next) (HX.out.on.setNext next))
  have HB3 := Lib.hid ((Below.heap_setCell w2 ⟨x + 4, 2, none⟩ (.int .i64 next) w.heap.size hxw).trans HB2.out)
  clear HX HB2 c2 d2 f2 l0 hL
  generalize w2.setCell ⟨x + 4, 2, none⟩ (.int .i64 next) = w3 at *
  refine (dirAfter_none (HS.out.same HX3.out.old)).mono ?_
  rintro e w4 ⟨r, rfl, hr, hmr, hg4⟩
  have HX4 := Lib.hid (HX3.out.grow hg4)
  have HB4 := Lib.hid ((hg4.block _ (Array.getElem?_eq_some_iff.1 HB3.out).1 (fun e => e)).trans HB3.out)
  have HR4 := Lib.hid (show x + 4 < r by have := HX3.out.low; omega)
  have HMr := Lib.hid hmr
  clear hr hmr hg4 HX3 HB3
  obtain ⟨-, -, -, -, -, -, d6, -, -, -⟩ := HX4.out.on.cells
  have f6 := HX4.out.on.loose 6
  go_wp2_with fail
  have HX5 := Lib.hid (HX4.out.setC 6 (.map (some r)) (HX4.out.on.setFix r))
  have HB5 := Lib.hid ((Below.heap_setCell w4 ⟨x + 4, 6, none⟩ (.map (some r)) w.heap.size hxw).trans HB4.out)
  have HMr5 := Lib.hid (HMr.out.setCell (a := ⟨x + 4, 6, none⟩) (by have := HR4.out; show r ≠ x + 4; omega) (.map (some r)))
  clear HX4 HB4 HMr d6 f6
  generalize w4.setCell ⟨x + 4, 6, none⟩ (.map (some r)) = w5 at *
  refine (cloneD_any w5 r _ _ HMr5.out).mono ?_
  rintro e w6 ⟨rfl, hmc, hg6, -⟩
  obtain ⟨c, HC⟩ : ∃ c, Hid (c = w5.heap.size) := ⟨_, Lib.hid rfl⟩
  have HX6 := Lib.hid (HX5.out.grow hg6)
  have HB6 := Lib.hid ((hg6.block _ (Array.getElem?_eq_some_iff.1 HB5.out).1 (fun e => e)).trans HB5.out)
  have HMr6 := Lib.hid (HMr5.out.grow hg6 (fun e => e))
  have HRc := Lib.hid (show r < c by rw [HC.out]; exact HMr5.out.lt)
  rw [← HC.out] at hmc ⊢
  have HMc6 := Lib.hid hmc
  clear hmc hg6 HC HX5 HB5 HMr5
  obtain ⟨-, -, -, -, -, d5, -, -, -, -⟩ := HX6.out.on.cells
  have f5 := HX6.out.on.loose 5
  have l2 := cell_of_row w6 w.heap.size 2 _ _ (0, 0) HB6.out
  have hL := (Array.getElem?_eq_some_iff.1 HB6.out).1
  go_wp2_with fail
  have HX7 := Lib.hid (HX6.out.setC 5 (.map (some c)) (HX6.out.on.setDir c))
  have HB7 := Lib.hid ((Below.heap_setCell w6 ⟨x + 4, 5, none⟩ (.map (some c)) w.heap.size hxw).trans HB6.out)
  have HMr7 := Lib.hid (HMr6.out.setCell (a := ⟨x + 4, 5, none⟩) (by have := HR4.out; show r ≠ x + 4; omega) (.map (some c)))
  have HMc7 := Lib.hid (HMc6.out.setCell (a := ⟨x + 4, 5, none⟩) (by have := HR4.out; have := HRc.out; show c ≠ x + 4; omega) (.map (some c)))
  clear HX6 HB6 HMr6 HMc6 d5 f5 l2 hL
  generalize w6.setCell ⟨x + 4, 5, none⟩ (.map (some c)) = w7 at *
  refine (sizes_any (HS.out.same HX7.out.old) (HFi.out.grow HX7.out.old (fun e => e)) HLn.out.1 (HVs.out.same HX7.out.old)).mono ?_
  rintro e w8 ⟨rfl, hms, hg8⟩
  obtain ⟨sz, HSz⟩ : ∃ sz, Hid (sz = w7.heap.size) := ⟨_, Lib.hid rfl⟩
  have HX8 := Lib.hid (HX7.out.grow hg8)
  have HB8 := Lib.hid ((hg8.block _ (Array.getElem?_eq_some_iff.1 HB7.out).1 (fun e => e)).trans HB7.out)
  have HMr8 := Lib.hid (HMr7.out.grow hg8 (fun e => e))
  have HMc8 := Lib.hid (HMc7.out.grow hg8 (fun e => e))
  have HCs := Lib.hid (show c < sz by rw [HSz.out]; exact HMc7.out.lt)
  rw [← HSz.out] at hms ⊢
  obtain ⟨k2, z', hk2, hz', hms⟩ := hms
  obtain ⟨z, hz, rfl⟩ : ∃ z : Nat, (z ≤ now.length ∧ (z = fixed ∨ z = now.length)) ∧ z' = (z : Int) := by
    rcases hz' with rfl | rfl
    · exact ⟨fixed, ⟨HLn.out.2, .inl rfl⟩, rfl⟩
    · exact ⟨now.length, ⟨Nat.le_refl _, .inr rfl⟩, rfl⟩
  have HMs8 := Lib.hid hms
  have HZ := Lib.hid hz
  have HK2 := Lib.hid hk2
  clear hz hz' hk2
  clear hms hg8 HSz HX7 HB7 HMr7 HMc7
  obtain ⟨-, -, -, -, -, d5, -, -, -, -⟩ := HX8.out.on.cells
  go_wp2_with fail
  refine (files_one HMc8.out).mono ?_
  rintro e w9 ⟨rfl, hmn, hg9⟩
  obtain ⟨fn, HFn⟩ : ∃ fn, Hid (fn = w8.heap.size) := ⟨_, Lib.hid rfl⟩
  have HX9 := Lib.hid (HX8.out.grow hg9)
  have HB9 := Lib.hid ((hg9.block _ (Array.getElem?_eq_some_iff.1 HB8.out).1 (fun e => e)).trans HB8.out)
  have HMr9 := Lib.hid (HMr8.out.grow hg9 (fun e => e))
  have HMc9 := Lib.hid (HMc8.out.grow hg9 (fun e => e))
  have HMs9 := Lib.hid (HMs8.out.grow hg9 (fun e => e))
  have HSf := Lib.hid (show sz < fn by rw [HFn.out]; exact HMs8.out.lt)
  rw [← HFn.out] at hmn ⊢
  have HMn9 := Lib.hid hmn
  clear hmn hg9 HFn HX8 HB8 HMr8 HMc8 HMs8 d5
  go_wp2_with (at_range; refine wpList_range_own _ rfl _ 86 rfl 3 103 keyI Try.underlying86 heldE fn 1 _ rfl HMn9.out ?_; intro w10 hrg0 hg0 hs0)
  have hg10 : Grow (fun _ => False) w9 w10 := Grow.of_grown hg0 (fun k e _ => by cases e)
  have HB := Lib.hid (show LzB w w10 x room next c r sz nx s vk vs (z : Int) from
    ⟨HX9.out.old.trans hg10, HX9.out.on.grow hg10 (fun e => e), HX9.out.olds.grow hg10 (fun e => e), (hg10.block _ (Array.getElem?_eq_some_iff.1 HB9.out).1 (fun e => e)).trans HB9.out, HMr9.out.grow hg10 (fun e => e), HMc9.out.grow hg10 (fun e => e), ⟨k2, HK2.out, HMs9.out.grow hg10 (fun e => e)⟩, HXw.out, HR4.out, HRc.out, HCs.out⟩)
  have HFm0 := Lib.hid (HX9.out.files.grow hg10 (fun e => e))
  have HIt := Lib.hid (show fn < w9.heap.size from HMn9.out.lt)
  have HRg := Lib.hid hrg0
  clear hrg0 hg0 hs0 hg10 HX9 HB9 HMr9 HMc9 HMs9 HMn9
  go_frame
  generalize w9.heap.size = it at *
  have ki0 := Lib.hid (keyOf_int_mk (P := Try.prog) Try.underlying3 (q := .i64) (a := 0) (by decide))
  go_loopw [68] (fun _ wr => ∃ (left : Lit → Bool) (cnt k : Nat), Hid (LzL w wr x room next c r sz nx s vk vs (z : Int) (now.take z) fn it k left cnt)) (fun _ wr => wr.rangeLeft fn it)
  case atStart => exact ⟨_, _, 0, Lib.hid ⟨HB.out, HRg.out, .inl ⟨rfl, rfl⟩, .inl ⟨rfl, HFm0.out⟩, HSf.out, HIt.out⟩⟩
  case round =>
    obtain ⟨left, cnt, k, hJ⟩ := hrel
    have hrg := Lib.hid hJ.out.rg
    go_wp2_with (at_next; refine wpList_next_ranges _ rfl _ rfl 3 keyI heldE (Value.int .i64) (fun v : Value => v) (fun key kl hk => by obtain ⟨y, e1, -⟩ := Maps.keyOf_int_inv Try.underlying3 hk; exact ⟨y, e1⟩) (fun v y _ => ⟨v, rfl⟩) fn it 1 _ _ _ rfl hrg.out ?_ ?_)
    · intro _ hl0
      have hx := oneR_end hJ.out.one (sym_int .i64 0) hl0
      subst hx
      have HB1 := Lib.hid hJ.out.base
      have HF1 := Lib.hid (show NewG wr x it wr.heap.size (z : Int) (now.take z) from by
        rcases hJ.out.st with ⟨h0, -⟩ | ⟨-, h1⟩
        · omega
        · exact h1)
      have HItl := Lib.hid (show sz < it ∧ it < wr.heap.size from ⟨by have := hJ.out.ord; omega, hJ.out.rg.lt⟩)
      clear hl0 hrg hJ
      have HLo := Lib.hid (loose_gen (w := wr) (d := d) (O := O) (nn := no) HNo.out ((HS.out.same HB1.out.old).on.cells.2.2.2.2.1) (HO.out.same HB1.out.old) (HS.out.same HB1.out.old).olds)
      go_wp2_with fail
      refine HLo.out.mono ?_
      rintro e w2 ⟨rv, P, hP, hPl, rfl, hA, hg2⟩
      have HM := Lib.hid (show LzM w w2 x room next c r sz nx s vk vs (z : Int) it wr.heap.size rv P (now.take z).length now was from ⟨HB1.out.same hg2, hA, ⟨_, HF1.out.grow hg2, rfl, mix_take _ _ _⟩, HItl.out⟩)
      have HP := Lib.hid (And.intro hP (show P.length ≤ 1000000 by have := HNo.out; omega))
      have HHi := Lib.hid (show w.heap.size ≤ wr.heap.size from HB1.out.old.size)
      have HZl := Lib.hid (show (now.take z).length = z by rw [List.length_take]; have := HZ.out.1; omega)
      obtain ⟨rp, rc, rfl⟩ := row_shape hA
      generalize (now.take z).length = len at *
      generalize wr.heap.size = hi at *
      clear hA hg2 HB1 HF1 HLo hP hPl HItl
      have hPb : (P.length : Int) ≤ 1000000 := by have := HP.out.2; omega
      go_wp2_with fail
      go_loopw [100] (fun i wr => ∃ k : Nat, k ≤ P.length ∧ i = .int .i64 (k : Int) ∧ Hid (LzM w wr x room next c r sz nx s vk vs (z : Int) it hi (.slice rp P.length rc) P len now was)) (fun i _ => P.length - (intOf i).toNat)
      case atStart => exact ⟨0, Nat.zero_le _, rfl, HM⟩
      case round =>
        obtain ⟨k, hk, rfl, hJ⟩ := hrel
        by_cases hlt : k < P.length
        case neg =>
          obtain rfl : k = P.length := by omega
          obtain ⟨l, hN, hll, hmx⟩ := hJ.out.file
          have HE := Lib.hid (losez_end (fixed := fixed) hJ.out.base hN (by have := hJ.out.ord; have := hJ.out.base.ord; omega) (by rw [hll, HZl.out]; exact HZ.out.2) hmx)
          clear hN hmx hll
          go_wp2_with fail
          go_ret2
          exact HE.out
        obtain ⟨gS, rfl, hgl, hgS, hrc, r0, r1⟩ := spot_at hJ.out.row k hlt
        have HPk := Lib.hid (HP.out.1 P[k] (List.getElem_mem hlt))
        generalize P[k] = sN at *
        have hlt' : (k : Int) < (P.length : Int) := by omega
        have h0 : (0 : Int) ≤ (k : Int) := by omega
        have hrc1 : (P.length : Int) ≤ (rc : Int) := by omega
        go_wp2_with fail
        have HM3 := Lib.hid (hJ.out.grow ((Grow.refl _ wr).alloc (.cells #[.int .i64 0, .int .i64 (sN : Int)] 92)))
        have hA0 := heap_alloc_new wr (.cells #[.int .i64 0, .int .i64 (sN : Int)] 92)
        clear r0 r1 hgl hJ
        generalize wr.alloc (.cells #[.int .i64 0, .int .i64 (sN : Int)] 92) = w3 at *
        generalize wr.heap.size = at_ at *
        have a0 : w3.cell? ⟨at_, 0, none⟩ = some (.int .i64 0) := (cell_of_row w3 at_ 0 _ _ (0, 0) hA0).trans rfl
        have d3 := HM3.out.base.on.cells.2.2.2.1
        have hx4 : x + 4 < w3.heap.size := HM3.out.base.on.lt
        have hal : at_ < w3.heap.size := (Array.getElem?_eq_some_iff.1 hA0).1
        obtain ⟨l, ⟨g2, fv2, hfm, hfa, hfo, hg2l, hg2h, hgb⟩, hll, hmx⟩ := HM3.out.file
        have HFm2 := Lib.hid hfm
        have HFa2 := Lib.hid hfa
        have HFo2 := Lib.hid hfo
        have HFn := Lib.hid (And.intro (And.intro hg2l hg2h) (And.intro hgb (And.intro hll hmx)))
        clear hfm hfa hfo hg2l hg2h hgb hll hmx
        have lk := fun n => run_lookup_any (P := Try.prog) (w3.drewN n) (t := 59) keyI Try.underlying59 (.pointer none) (.pointer (some ⟨g2, 0, none⟩)) (zeroF _) (show MapAt (w3.drewN n) Try.prog 3 x 1 _ from HFm2.out) ki0.out rfl
        go_quiet (fail)
        have HM4 := Lib.hid (HM3.out.grow (show Grow (fun _ => False) w3 (w3.drewN nq) from ⟨rfl, rfl, rfl, Nat.le_refl _, fun _ _ _ => rfl⟩))
        have HFm4 := Lib.hid (show MapAt (w3.drewN nq) Try.prog 3 x 1 _ from HFm2.out)
        have HFa4 := Lib.hid (show FileAt (w3.drewN nq) g2 _ _ _ from HFa2.out)
        have HFo4 := Lib.hid (show OwnF it (w3.drewN nq) _ _ from HFo2.out)
        have HA4 := Lib.hid (show (w3.drewN nq).heap[at_]? = _ from hA0)
        clear a0 d3 hx4 hal lk HM3 HFm2 HFa2 HFo2 hA0
        generalize w3.drewN nq = w4 at *
        have l1 : w4.cell? ⟨w.heap.size, 1, none⟩ = some vk := (cell_of_row w4 w.heap.size 1 _ _ (0, 0) HM4.out.base.loss).trans rfl
        have hL := (Array.getElem?_eq_some_iff.1 HM4.out.base.loss).1
        obtain ⟨t, ht⟩ := chosen_any (i := k) (HVk.out.same HM4.out.base.old) (by have := HP.out.2; omega)
        have HCh := Lib.hid ht
        clear ht
        go_wp2_with fail
        refine HCh.out.mono ?_
        rintro e w5 ⟨rfl, rfl⟩
        clear l1 hL HCh
        cases t with
        | true =>
          go_wp2_with fail
          refine ⟨⟨k + 1, by omega, by go_num, HM4⟩, ?_⟩
          simp only [intOf]
          omega
        | false =>
          go_wp2_with fail
          refine wp_region_still_tail 13 (by kernel_rfl) (by kernel_rfl) ?_
          simp only [List.take_succ_cons, List.take_zero, List.drop_succ_cons, List.drop_zero]
          change wpStill _ _ w4.drew (fun a' => wpList _ _ _ _ a' w4.drew) _ _
          have HM7 := Lib.hid (HM4.out.grow (Grow.refl _ w4).drew)
          have HFm7 := Lib.hid (show MapAt w4.drew Try.prog 3 x 1 _ from HFm4.out)
          have HFa7 := Lib.hid (show FileAt w4.drew g2 _ _ _ from HFa4.out)
          have HFo7 := Lib.hid (show OwnF it w4.drew _ _ from HFo4.out)
          have HA7 := Lib.hid (show w4.drew.heap[at_]? = _ from HA4.out)
          clear HM4 HFm4 HFa4 HFo4 HA4
          generalize w4.drew = W7 at *
          have a0 : W7.cell? ⟨at_, 0, none⟩ = some (.int .i64 0) := (cell_of_row W7 at_ 0 _ _ (0, 0) HA7.out).trans rfl
          have a1 : W7.cell? ⟨at_, 1, none⟩ = some (.int .i64 (sN : Int)) := (cell_of_row W7 at_ 1 _ _ (0, 0) HA7.out).trans rfl
          obtain ⟨f0, -, -⟩ := HFa7.out.cells
          have hg2l : g2 < W7.heap.size := (Array.getElem?_eq_some_iff.1 HFa7.out).1
          have hal : at_ < W7.heap.size := (Array.getElem?_eq_some_iff.1 HA7.out).1
          have hdl : d < W7.heap.size := (HS.out.same HM7.out.base.old).on.lt
          have c4 := (HS.out.same HM7.out.base.old).on.cells.2.2.2.2.1
          obtain ⟨lo, hlo⟩ := Option.isSome_iff_exists.1 HPk.out
          obtain ⟨hsb, bv, -, hat, hob⟩ := HO.out.yes sN lo hlo
          have hob7 : OwnF n1 W7 bv lo := hob.grow HM7.out.base.old (fun _ _ e => e)
          have hlo' : lo = sec was sN := by
            unfold keptF at hlo
            split at hlo
            · injection hlo with hlo; exact hlo.symm
            · cases hlo
          subst hlo'
          have lk : (Instr.lookup 60 (.map (some O)) (.agg #[.int .i64 0, .int .i64 (sN : Int)]) false).run Try.prog W7 = .ok bv W7 := run_lookup_any W7 keySp Try.underlying60 (.slice none 0 0) bv (zeroB W7) (HS.out.same HM7.out.base.old).olds (keyOf_sp hsb) hat
          obtain ⟨cv, hcut, hre⟩ := restore_any HFo7.out (by have := HFn.out.2.2.1; have := HLn.out.1; have := HZl.out; have := HZ.out.1; omega) sN hsb
          have HCut := Lib.hid hcut
          have HRe := Lib.hid (hre W7 HFo7.out w.heap.size bv (sec was sN) (hob.read.same HM7.out.base.old (Nat.le_refl _)) (fun b off n c e he => by
            have h1 := (HFn.out.2.1 b he).1
            have h2 : b < w.heap.size := (hob.lt b (by rw [e]; rfl)).2
            have := HM7.out.ord
            have := HM7.out.base.ord
            omega))
          clear hob hob7 hlo hat hsb hcut hre
          iterate 6 still_step
          still_call ((HCut.out _).mono (fun _ _ h => ⟨h.1, h.2.symm⟩))
          iterate 6 still_step
          refine wpStill_nil ?_
          clear a0 a1 f0 hg2l hal hdl c4 lk HCut
          go_wp2_with fail
          refine HRe.out.mono ?_
          rintro e w8 ⟨rfl, l', hmd, ho8, hg8⟩
          have HEnd := Lib.hid (losez_put HM7.out HFm7.out HFa7.out HFn.out.2.2.1 HFn.out.2.2.2 HFn.out.1 HFn.out.2.1 hmd ho8 hg8)
          clear hmd ho8 hg8 HRe
          go_wp2_with fail
          refine ⟨⟨k + 1, by omega, by go_num, HEnd⟩, ?_⟩
          simp only [intOf]
          omega
    · intro kx cv kl yd yp w1 cnt1 hkey hlk hv hat hrg1 hlt hg1 hs1 hen
      have hkk := oneR_key hJ.out.one hlk
      obtain rfl := int_key Try.underlying3 hkey hkk
      obtain ⟨rfl, rfl, hO⟩ := oneR_step hJ.out.one hlk hv hat (sym_int2 .i64 _ kl)
      have HO1 := Lib.hid hO
      have HRg1 := Lib.hid hrg1
      have hgr1 : Grow (fun k => k = it) wr w1 := Grow.of_grown hg1 (fun k e _ => (Option.some.inj e).symm)
      have HB1 := Lib.hid (hJ.out.base.step hgr1 (fun k e => by have := hJ.out.ord; omega))
      have HF1 := Lib.hid (show MapAt w1 Try.prog 3 x 0 (.map []) from by
        rcases hJ.out.st with ⟨-, h1⟩ | ⟨h0, -⟩
        · exact h1.grow hgr1 (fun e => by have := hJ.out.ord; have := hJ.out.base.ord; omega)
        · omega)
      have HLt := Lib.hid hlt
      have HOrd := Lib.hid hJ.out.ord
      have HItl := Lib.hid (show it < w1.heap.size from hrg1.lt)
      clear hkey hlk hv hat hrg1 hlt hg1 hs1 hO hkk hgr1
      obtain ⟨-, -, -, c3, -, -, -, -, -, -⟩ := (HS.out.same HB1.out.old).on.cells
      obtain ⟨b0, -, -⟩ := (HFi.out.grow HB1.out.old (fun e => e)).cells
      have hl : d < w1.heap.size := (HS.out.same HB1.out.old).on.lt
      have hlg : g < w1.heap.size := (Array.getElem?_eq_some_iff.1 (HFi.out.grow HB1.out.old (fun e => e))).1
      have HFm := Lib.hid (HS.out.same HB1.out.old).files
      have hYf := (HY.out.grow HB1.out.old (fun _ _ e => e)).form
      rcases hYf with ⟨hn0, hv0⟩ | ⟨gg, cap, hv0, -, hgl, hlc, hcm, hcells⟩
      · injection hv0 with e1 e2 e3
        subst e1 e3
        rw [e2] at b0
        have hz0 : z = 0 := by have := HZ.out.1; omega
        have HCl := Lib.hid (cloneB_any w1.drew (.slice none 0 0) (now.take z) (.inl ⟨by rw [hn0]; simp, .inl rfl⟩) (by rw [hn0]; simp))
        subst hz0
        clear e2 hn0
        go_wp2_with (at_lookup; refine wpList_lookup_any _ rfl _ _ 59 rfl 3 66 keyI Try.underlying59 (.pointer none) (.pointer (some ⟨g, 0, none⟩)) (zeroF _) F nf _ rfl HFm.out _ _ rfl ki0.out rfl ?_)
        clear c3 b0 hl hlg
        obtain ⟨-, -, -, d3, -, -, -, -, -, -⟩ := HB1.out.on.cells
        have hx4 : x + 4 < w1.heap.size := HB1.out.on.lt
        have d3' : w1.drew.cell? ⟨x + 4, 3, none⟩ = some (.map (some x)) := d3
        obtain ⟨ks1, -, hsz1⟩ := HB1.out.sizes
        have lk1 : (Instr.lookup 84 (.map (some sz)) (.int .i64 0) false).run Try.prog w1.drew = .ok (.int .i64 0) w1.drew := look_z (W := w1.drew) (k := ks1) hsz1
        clear hsz1
        go_region_held3 (fun W => W.cell? ⟨x + 4, 3, none⟩ = some (.map (some x)) ∧ (Instr.lookup 84 (.map (some sz)) (.int .i64 0) false).run Try.prog W = .ok (.int .i64 0) W) (first | exact ⟨d3', lk1⟩ | exact ⟨d32, lk2⟩ | exact ⟨d33, lk3⟩ | exact ⟨d34, lk4⟩) ((go_at_call 38; refine HCl.out.mono ?_; rintro e w2 ⟨v5, rfl, how, hg2⟩; obtain ⟨p5, N5, c5, w3, rfl, hrun3, hB3, hN3, hg3, hx2, d32, d33, d34, lk2, lk3, lk4⟩ := losez_arm (zz := 0) rfl HB1.out HF1.out how hg2 HItl.out; have HB3 := Lib.hid hB3; have HN3 := Lib.hid hN3; have HG3 := Lib.hid hg3; clear hB3 hN3 hg3 how hg2))
        · have HRg3 := Lib.hid (ranges_same (w' := w3) HRg1.out (fun o ho => (HG3.out.block fn (Array.getElem?_eq_some_iff.1 ho).1 (fun e => by have := HOrd.out; have := HB3.out.ord; omega)).trans ho) (fun o ho _ => (HG3.out.block it (Array.getElem?_eq_some_iff.1 ho).1 (fun e => by have := HOrd.out; have := HB3.out.ord; omega)).trans ho))
          clear d3' lk1 d32 d33 d34 lk2 lk3 lk4 hrun3
          go_wp2
          go_roundw
          case rel => exact ⟨_, cnt1, 1, Lib.hid ⟨HB3.out, HRg3.out, HO1.out, .inr ⟨rfl, HN3.out⟩, HOrd.out⟩⟩
          case measure => rw [HRg3.out.left_eq, hrg.out.left_eq]; exact HLt.out
        · have HRg3 := Lib.hid (ranges_same (w' := w3) HRg1.out (fun o ho => (HG3.out.block fn (Array.getElem?_eq_some_iff.1 ho).1 (fun e => by have := HOrd.out; have := HB3.out.ord; omega)).trans ho) (fun o ho _ => (HG3.out.block it (Array.getElem?_eq_some_iff.1 ho).1 (fun e => by have := HOrd.out; have := HB3.out.ord; omega)).trans ho))
          clear d3' lk1 d32 d33 d34 lk2 lk3 lk4 hrun3
          go_wp2
          go_roundw
          case rel => exact ⟨_, cnt1, 1, Lib.hid ⟨HB3.out, HRg3.out, HO1.out, .inr ⟨rfl, HN3.out⟩, HOrd.out⟩⟩
          case measure => rw [HRg3.out.left_eq, hrg.out.left_eq]; exact HLt.out
        · have HRg3 := Lib.hid (ranges_same (w' := w3) HRg1.out (fun o ho => (HG3.out.block fn (Array.getElem?_eq_some_iff.1 ho).1 (fun e => by have := HOrd.out; have := HB3.out.ord; omega)).trans ho) (fun o ho _ => (HG3.out.block it (Array.getElem?_eq_some_iff.1 ho).1 (fun e => by have := HOrd.out; have := HB3.out.ord; omega)).trans ho))
          clear d3' lk1 d32 d33 d34 lk2 lk3 lk4 hrun3
          go_wp2
          go_roundw
          case rel => exact ⟨_, cnt1, 1, Lib.hid ⟨HB3.out, HRg3.out, HO1.out, .inr ⟨rfl, HN3.out⟩, HOrd.out⟩⟩
          case measure => rw [HRg3.out.left_eq, hrg.out.left_eq]; exact HLt.out
      · injection hv0 with e1 e2 e3
        subst e1 e3
        have hzl : (now.take z).length = z := by rw [List.length_take]; have := HZ.out.1; omega
        have hzn := HZ.out.1
        have hln := HLn.out.1
        have HCl := Lib.hid (cloneB_any w1.drew (.slice (some ⟨gg, 0, none⟩) z fc) (now.take z) (.inr ⟨gg, 0, fc, by rw [hzl], hgl, fun j hj => by
          rw [hzl] at hj
          have := hcells j (by omega)
          rw [List.getElem_take]
          exact this⟩) (by rw [hzl]; omega))
        unfold maxLen at hcm
        have z1 : (z : Int) ≤ (fc : Int) := by omega
        have z2 : (fc : Int) ≤ 9223372036854775807 := by omega
        have z3 : (0 : Int) ≤ (z : Int) := by omega
        have z4 : (z : Int) ≤ (now.length : Int) := by omega
        clear e2 hcells hzl
        go_wp2_with (at_lookup; refine wpList_lookup_any _ rfl _ _ 59 rfl 3 66 keyI Try.underlying59 (.pointer none) (.pointer (some ⟨g, 0, none⟩)) (zeroF _) F nf _ rfl HFm.out _ _ rfl ki0.out rfl ?_)
        clear c3 b0 hl hlg
        obtain ⟨-, -, -, d3, -, -, -, -, -, -⟩ := HB1.out.on.cells
        have hx4 : x + 4 < w1.heap.size := HB1.out.on.lt
        have d3' : w1.drew.cell? ⟨x + 4, 3, none⟩ = some (.map (some x)) := d3
        obtain ⟨ks1, -, hsz1⟩ := HB1.out.sizes
        have lk1 : (Instr.lookup 84 (.map (some sz)) (.int .i64 0) false).run Try.prog w1.drew = .ok (.int .i64 (z : Int)) w1.drew := look_z (W := w1.drew) (k := ks1) hsz1
        clear hsz1
        go_region_held3 (fun W => W.cell? ⟨x + 4, 3, none⟩ = some (.map (some x)) ∧ (Instr.lookup 84 (.map (some sz)) (.int .i64 0) false).run Try.prog W = .ok (.int .i64 (z : Int)) W) (first | exact ⟨d3', lk1⟩ | exact ⟨d32, lk2⟩ | exact ⟨d33, lk3⟩ | exact ⟨d34, lk4⟩) ((go_at_call 38; refine HCl.out.mono ?_; rintro e w2 ⟨v5, rfl, how, hg2⟩; obtain ⟨p5, N5, c5, w3, rfl, hrun3, hB3, hN3, hg3, hx2, d32, d33, d34, lk2, lk3, lk4⟩ := losez_arm (zz := (z : Int)) rfl HB1.out HF1.out how hg2 HItl.out; have HB3 := Lib.hid hB3; have HN3 := Lib.hid hN3; have HG3 := Lib.hid hg3; clear hB3 hN3 hg3 how hg2))
        · have HRg3 := Lib.hid (ranges_same (w' := w3) HRg1.out (fun o ho => (HG3.out.block fn (Array.getElem?_eq_some_iff.1 ho).1 (fun e => by have := HOrd.out; have := HB3.out.ord; omega)).trans ho) (fun o ho _ => (HG3.out.block it (Array.getElem?_eq_some_iff.1 ho).1 (fun e => by have := HOrd.out; have := HB3.out.ord; omega)).trans ho))
          clear d3' lk1 d32 d33 d34 lk2 lk3 lk4 hrun3
          go_wp2
          go_roundw
          case rel => exact ⟨_, cnt1, 1, Lib.hid ⟨HB3.out, HRg3.out, HO1.out, .inr ⟨rfl, HN3.out⟩, HOrd.out⟩⟩
          case measure => rw [HRg3.out.left_eq, hrg.out.left_eq]; exact HLt.out
        · have HRg3 := Lib.hid (ranges_same (w' := w3) HRg1.out (fun o ho => (HG3.out.block fn (Array.getElem?_eq_some_iff.1 ho).1 (fun e => by have := HOrd.out; have := HB3.out.ord; omega)).trans ho) (fun o ho _ => (HG3.out.block it (Array.getElem?_eq_some_iff.1 ho).1 (fun e => by have := HOrd.out; have := HB3.out.ord; omega)).trans ho))
          clear d3' lk1 d32 d33 d34 lk2 lk3 lk4 hrun3
          go_wp2
          go_roundw
          case rel => exact ⟨_, cnt1, 1, Lib.hid ⟨HB3.out, HRg3.out, HO1.out, .inr ⟨rfl, HN3.out⟩, HOrd.out⟩⟩
          case measure => rw [HRg3.out.left_eq, hrg.out.left_eq]; exact HLt.out
        · have HRg3 := Lib.hid (ranges_same (w' := w3) HRg1.out (fun o ho => (HG3.out.block fn (Array.getElem?_eq_some_iff.1 ho).1 (fun e => by have := HOrd.out; have := HB3.out.ord; omega)).trans ho) (fun o ho _ => (HG3.out.block it (Array.getElem?_eq_some_iff.1 ho).1 (fun e => by have := HOrd.out; have := HB3.out.ord; omega)).trans ho))
          clear d3' lk1 d32 d33 d34 lk2 lk3 lk4 hrun3
          go_wp2
          go_roundw
          case rel => exact ⟨_, cnt1, 1, Lib.hid ⟨HB3.out, HRg3.out, HO1.out, .inr ⟨rfl, HN3.out⟩, HOrd.out⟩⟩
          case measure => rw [HRg3.out.left_eq, hrg.out.left_eq]; exact HLt.out
end Go.Proofs.Ytnmeehhjfcciiaa
