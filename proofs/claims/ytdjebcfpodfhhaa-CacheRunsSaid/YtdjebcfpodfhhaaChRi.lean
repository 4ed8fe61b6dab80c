/-
  The document's cache: Get.
-/
import Derived.Test.YtdjebcfpodfhhaaChRh
namespace Go.Proofs.Ytdjebcfpodfhhaa
open Go Go.RowKit Go.Maps Go.WideMaps

section
variable {Y : Nat → Prop} {w : World} {b : Nat} {room h m g : Int} {L : List Pg}
theorem RfA.setN {j : Nat} {v h' m' g' : Int} (H : RfA Y w b room h m g L) (hj : (j = 2 ∧ h' = v ∧ m' = m ∧ g' = g) ∨ (j = 3 ∧ h' = h ∧ m' = v ∧ g' = g) ∨ (j = 4 ∧ h' = h ∧ m' = m ∧ g' = v)) :
    RfA Y (w.setCell ⟨b, j, none⟩ (.int .i64 v)) b room h' m' g' L ∧ Upd (fun k _ => k = b) w (w.setCell ⟨b, j, none⟩ (.int .i64 v)) := by
  have hu : Upd (fun k _ => k = b) w (w.setCell ⟨b, j, none⟩ (.int .i64 v)) := (Upd.refl _ w).setCell b j _ (fun _ => rfl)
  have oth : ∀ i, i ≠ j → (w.setCell ⟨b, j, none⟩ (.int .i64 v)).cell? ⟨b, i, none⟩ = w.cell? ⟨b, i, none⟩ := fun i hi => World.cell?_setCell_other _ _ _ _ (fun e => by injection e with _ e; exact hi e.symm)
  have own : j < 5 → (w.setCell ⟨b, j, none⟩ (.int .i64 v)).cell? ⟨b, j, none⟩ = some (.int .i64 v) := fun hj => World.cell?_setCell_same' _ _ _ (H.kind.there hj)
  obtain ⟨lv, e, hv⟩ := H.c1
  have hv' : HeB (fun k => Y k ∧ k ≠ b) (w.setCell ⟨b, j, none⟩ (.int .i64 v)) lv L := hv.same hu.size (fun _ h => h) (fun x o hx => hu.cell x o (H.lt x hx.1) hx.2)
  have hl : ∀ k, Y k → k < (w.setCell ⟨b, j, none⟩ (.int .i64 v)).heap.size := fun k hk => Nat.lt_of_lt_of_le (H.lt k hk) hu.size
  refine ⟨?_, hu⟩
  rcases hj with ⟨rfl, rfl, rfl, rfl⟩ | ⟨rfl, rfl, rfl, rfl⟩ | ⟨rfl, rfl, rfl, rfl⟩
  · exact ⟨(oth 0 (by decide)).trans H.c0, ⟨lv, (oth 1 (by decide)).trans e, hv'⟩, own (by decide), (oth 3 (by decide)).trans H.c3, (oth 4 (by decide)).trans H.c4, hu.kind _ _ _ H.kind, H.inb, hl⟩
  · exact ⟨(oth 0 (by decide)).trans H.c0, ⟨lv, (oth 1 (by decide)).trans e, hv'⟩, (oth 2 (by decide)).trans H.c2, own (by decide), (oth 4 (by decide)).trans H.c4, hu.kind _ _ _ H.kind, H.inb, hl⟩
  · exact ⟨(oth 0 (by decide)).trans H.c0, ⟨lv, (oth 1 (by decide)).trans e, hv'⟩, (oth 2 (by decide)).trans H.c2, (oth 3 (by decide)).trans H.c3, own (by decide), hu.kind _ _ _ H.kind, H.inb, hl⟩
/-- What the document's Get answers. -/
def RGet (Y : Nat → Prop) (w : World) (b : Nat) (room h m g : Int) (L : List Pg) (r : ByteArray) (i : Int) (e : Ending) (w' : World) : Prop :=
  ∃ Y', (∀ k, Y' k → Y k ∨ w.heap.size ≤ k) ∧ Upd (fun k _ => k = b) w w' ∧ ((findL r i L = none ∧ e = .returned (.tuple #[.slice none 0 0, .bool false]) ∧ RfA Y' w' b room h (m + 1) g L) ∨
    ∃ x v, findL r i L = some x ∧ e = .returned (.tuple #[v, .bool true]) ∧ RfA Y' w' b room (h + 1) m g (x :: restL r i L) ∧ EntS (fun k => w.heap.size ≤ k) w' v x.2.2)
/-- The page at an index, as the state has it. -/
theorem RfA.at_ (H : RfA Y w b room h m g L) {j : Nat} {x : Pg} (hj : L[j]? = some x) : ∃ bb off len cap lp ll lc, w.cell? ⟨b, 1, none⟩ = some (.slice (some ⟨bb, off, none⟩) len cap) ∧ j < len ∧ len = L.length ∧ w.cell? ⟨bb, off + j * 3, none⟩ = some (.string x.1) ∧ w.cell? ⟨bb, off + j * 3 + 1, none⟩ = some (.int .i64 x.2.1) ∧ w.cell? ⟨bb, off + j * 3 + 2, none⟩ = some (.slice lp ll lc) ∧ EntS (fun k => Y k ∧ k ≠ b) w (.slice lp ll lc) x.2.2 := by
  obtain ⟨p, cap, Q, hQ, -, hc1, hQe, hcs⟩ := H.open_
  rw [← hQ, List.getElem?_map] at hj
  obtain ⟨q, hq, rfl⟩ := Option.map_eq_some_iff.1 hj
  obtain ⟨hlt, -⟩ := List.getElem?_eq_some_iff.1 hq
  have he := hQe q (List.mem_of_getElem? hq)
  obtain ⟨lp, ll, lc, hsl⟩ := he.slice3
  rcases hcs with hn | ⟨bb, off, rfl, hcs⟩
  · rw [hn] at hlt
    simp at hlt
  · obtain ⟨d0, d1, d2⟩ := hcs w (Below.refl _ _) j q hq
    rw [hsl] at d2 he
    exact ⟨bb, off, Q.length, cap, lp, ll, lc, hc1 w (Below.refl _ _), hlt, by rw [← hQ]; simp, d0, d1, d2, he⟩
set_option maxHeartbeats 4000000 in
set_option maxRecDepth 100000 in
theorem rget_any (H : RfA Y w b room h m g L) (r : ByteArray) (i : Int) (hL : L.length ≤ 800) (hh : 0 ≤ h ∧ h ≤ 1000) (hm : 0 ≤ m ∧ m ≤ 1000) :
    Calls Try.prog 26 #[ptr b, .agg #[.string r, .int .i64 i]] w (RGet Y w b room h m g L r i) := by
  have HB0 := Lib.hid (below_new w (.cells #[.string r, .int .i64 i] 33))
  have H0 := Lib.hid (H.below HB0.out)
  clear H
  obtain ⟨hh1, hh2⟩ := hh
  obtain ⟨hm1, hm2⟩ := hm
  go_enter Try.func26, Try.ntmps26
  go_wp2_with fail
  refine (rfind_any H0.out r i (by omega)).mono ?_
  rintro e w1 ⟨k, rfl, hb1, hk⟩
  have HB1 := Lib.hid (HB0.out.trans (hb1.mono HB0.out.size))
  have H1 := Lib.hid (H0.out.below hb1)
  clear hb1 H0
  rcases hk with ⟨hno, rfl⟩ | ⟨j, x, hx, hj, rfl⟩
  · have HN := Lib.hid hno
    have c3 := H1.out.c3
    have f3 := H1.out.kind.free 3
    clear hno
    go_wp2_with fail
    go_ret2
    have h2 := H1.out.setN (j := 3) (v := m + 1) (.inr (.inl ⟨rfl, rfl, rfl, rfl⟩))
    exact ⟨Y, fun k hk => .inl hk, (Upd.of_below HB1.out).trans h2.2, .inl ⟨HN.out, rfl, h2.1⟩⟩
  · have h0j : (0 : Int) ≤ (j : Int) := by omega
    have c2 := H1.out.c2
    have f2 := H1.out.kind.free 2
    have H2 := Lib.hid (H1.out.setN (j := 2) (v := h + 1) (.inl ⟨rfl, rfl, rfl, rfl⟩))
    have HX := Lib.hid hx
    obtain ⟨bb, off, len, cap, lp, ll, lc, c1, hjl, hlen, d0, d1, d2, he⟩ := H2.out.1.at_ hj
    have hjl' : (j : Int) < (len : Int) := by omega
    have HE := Lib.hid he
    obtain ⟨L1, L2, -, e1, e2⟩ := findL_some hx
    obtain ⟨xr, xi, xE⟩ := x
    dsimp only at e1 e2 d0 d1 he
    subst e1 e2
    clear he hx hj H1
    go_wp2_with fail
    refine (rfront_any H2.out.1 xr xi lp ll lc xE HE.out (by omega)).mono ?_
    rintro e w3 ⟨rfl, hu3, h3⟩
    have HU3 := Lib.hid (((Upd.of_below HB1.out).trans H2.out.2).trans hu3)
    have HU2 := Lib.hid hu3
    have H3 := Lib.hid h3
    obtain ⟨bb3, off3, len3, cap3, lp3, ll3, lc3, c1', hjl3, hlen3, d0', d1', d2', he3⟩ := h3.at_ (j := 0) rfl
    have hl3 : (0 : Int) < (len3 : Int) := by omega
    have HE3 := Lib.hid (show EntS (fun k => k < w3.heap.size) w3 (.slice lp3 ll3 lc3) xE from he3.mono fun k hk => h3.lt k hk.1)
    clear c1 d0 d1 d2 c2 f2 hu3 h3 he3
    simp only [Nat.zero_mul, Nat.add_zero] at d0' d1' d2'
    go_wp2_with fail
    refine (rcopy_any w3 (.slice lp3 ll3 lc3) xE HE3.out).mono ?_
    rintro e w4 ⟨v4, rfl, he4, hb4, -⟩
    have HF := Lib.hid (show RGet Y w b room h m g L xr xi (.returned (.tuple #[v4, .bool true])) w4 from by
      have h4 := H3.out.below hb4
      have s1 := HB1.out.size
      have s2 := HU3.out.size
      have e : (w1.setCell ⟨b, 2, none⟩ (.int .i64 (h + 1))).heap.size = w1.heap.size := by simp [World.setCell]
      refine ⟨_, ?_, HU3.out.trans (Upd.of_below hb4), .inr ⟨(xr, xi, xE), v4, HX.out, rfl, h4, he4.mono fun k hk => by omega⟩⟩
      rintro k (hk | hk)
      · exact .inl hk
      · rw [e] at hk
        exact .inr (by omega))
    clear he4 hb4
    go_wp2_with fail
    go_ret2
    exact HF.out
end
end Go.Proofs.Ytdjebcfpodfhhaa
