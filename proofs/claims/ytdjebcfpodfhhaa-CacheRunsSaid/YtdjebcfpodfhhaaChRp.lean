/-
  The document's cache: Put.
-/
import Derived.Test.YtdjebcfpodfhhaaChRi
namespace Go.Proofs.Ytdjebcfpodfhhaa
open Go Go.RowKit Go.Maps Go.WideMaps

section
variable {Y : Nat → Prop} {w : World} {b : Nat} {room h m g : Int} {L : List Pg}
def RPut (Y : Nat → Prop) (w : World) (b : Nat) (room h m g : Int) (L : List Pg) (r : ByteArray) (i : Int) (E : List (List V3 × Int)) (e : Ending) (w' : World) : Prop :=
  e = .returned (.tuple #[]) ∧ ∃ Y', (∀ k, Y' k → Y k ∨ w.heap.size ≤ k) ∧ Upd (fun k _ => k = b) w w' ∧ RfA Y' w' b room h m (putG room r i g L) (putL room r i E L)
theorem RfA.list (H : RfA Y w b room h m g L) : ∃ p cap, w.cell? ⟨b, 1, none⟩ = some (.slice p L.length cap) ∧ L.length ≤ cap ∧ ∀ n, n ≤ L.length → HeB (fun k => Y k ∧ k ≠ b) w (.slice p n cap) (L.take n) := by
  obtain ⟨lv, e, p, cap, Q, hQ, rfl, hl, ht, hc⟩ := H.c1
  have hq : Q.length = L.length := by rw [← hQ]; simp
  refine ⟨p, cap, by rw [← hq]; exact e, by omega, fun n hn => ⟨p, cap, Q.take n, by rw [List.map_take, hQ], by rw [List.length_take]; congr 1; omega, by rw [List.length_take]; omega, fun q hq => ht q (List.mem_of_mem_take hq), ?_⟩⟩
  rcases hc with h | ⟨bb, off, rfl, h1, h2, h3⟩
  · exact .inl (by rw [h]; simp)
  · refine .inr ⟨bb, off, rfl, h1, h2, fun j q hj => h3 j q ?_⟩
    rw [List.getElem?_take] at hj
    split at hj
    · exact hj
    · cases hj
set_option maxHeartbeats 4000000 in
set_option maxRecDepth 100000 in
theorem rput_any (H : RfA Y w b room h m g L) (r : ByteArray) (i : Int) (pp : Option Addr) (pl pc : Nat) (E : List (List V3 × Int)) (hE : EntS (fun k => k < w.heap.size) w (.slice pp pl pc) E) (hL : L.length ≤ 800) (hLr : (L.length : Int) ≤ room) (hr : 0 ≤ room ∧ room ≤ 1024) (hg : 0 ≤ g ∧ g ≤ 1000) :
    Calls Try.prog 27 #[ptr b, .agg #[.string r, .int .i64 i], .slice pp pl pc] w (RPut Y w b room h m g L r i E) := by
  have HB0 := Lib.hid (below_new w (.cells #[.string r, .int .i64 i] 33))
  have HKb := Lib.hid (keyBox_mk w r i)
  have H0 := Lib.hid (H.below HB0.out)
  have HE0 := Lib.hid (hE.grown HB0.out)
  have Hlt := Lib.hid (And.intro H.kind.lt H.lt)
  have c0 := H0.out.c0
  obtain ⟨hr1, hr2⟩ := hr
  obtain ⟨hg1, hg2⟩ := hg
  clear hE
  go_enter Try.func27, Try.ntmps27
  by_cases hz : room = 0
  · subst hz
    go_wp2_with fail
    refine bodyPost_ret (v := .tuple #[]) (by simp [results, Try.results27, go_sem]) rfl ⟨rfl, Y, fun k hk => .inl hk, Upd.of_below HB0.out, ?_⟩
    have hL0 : L = [] := List.eq_nil_of_length_eq_zero (by omega)
    have h2 := H0.out
    subst hL0
    simpa [putL, putG] using h2
  go_wp2_with fail
  generalize w.alloc (.cells #[.string r, .int .i64 i] 33) = W0 at *
  clear H
  obtain ⟨k0, k1⟩ := HKb.out
  go_region_held3 (fun X => X.cell? ⟨w.heap.size, 0, none⟩ = some (.string r) ∧ X.cell? ⟨w.heap.size, 1, none⟩ = some (.int .i64 i))
    (first | exact ⟨k0, k1⟩ | exact HK1.out | exact HK3.out)
    ((first
      | (go_at_call 18; refine (rcopy_any W0.drew (.slice pp pl pc) E HE0.out).mono ?_; rintro e w1 ⟨v1, rfl, he1, hb1, -⟩; obtain ⟨p1, l1, c1, hv1⟩ := he1.slice3; subst hv1; have HK1 := Lib.hid (show KeyBox w.heap.size r i w1 from (show KeyBox w.heap.size r i W0.drew from HKb.out).below hb1); have HB1 := Lib.hid (show Below W0.heap.size W0 w1 from ((Below.refl _ W0).drew).trans hb1); have HE1 := Lib.hid (show EntS (fun k => W0.heap.size ≤ k) w1 (.slice p1 l1 c1) E from he1); clear he1 hb1)
      | (go_at_call 38; refine (rfront_any (Y := fun k => Y k ∨ (W0.heap.size ≤ k ∧ k < w1.heap.size)) ((H0.out.below HB1.out).wide (fun k hk => .inl hk) (fun k hk => hk.elim (fun hk => (H0.out.below HB1.out).lt k hk) (fun hk => hk.2))) r i p1 l1 c1 E (HE1.out.inside.mono fun k hk => ⟨.inr hk, fun e => by have := Hlt.out.1; have := HB0.out.size; have := hk.1; omega⟩) (by omega)).mono ?_; rintro e w3 ⟨rfl, hf3⟩; have HF3 := Lib.hid hf3; have HK3 := Lib.hid (show KeyBox w.heap.size r i w3 from ⟨(hf3.1.cell _ _ (lt_of_cell HK1.out.1) (fun e => by have := Hlt.out.1; omega)).trans HK1.out.1, (hf3.1.cell _ _ (lt_of_cell HK1.out.1) (fun e => by have := Hlt.out.1; omega)).trans HK1.out.2⟩); clear hf3)))
  have HY := Lib.hid (show ∀ k, ((Y k ∨ (W0.heap.size ≤ k ∧ k < w1.heap.size)) ∨ (w1.heap.size ≤ k ∧ k < w3.heap.size)) → Y k ∨ w.heap.size ≤ k from fun k hk => by
    have s0 := HB0.out.size
    have s1 := HB1.out.size
    rcases hk with (hk | hk) | hk
    · exact .inl hk
    · exact .inr (by omega)
    · exact .inr (by omega))
  have HU := Lib.hid (show Upd (fun k _ => k = b) w w3 from ((Upd.of_below HB0.out).trans (Upd.of_below (HB1.out))).trans HF3.out.1)
  have H3 := Lib.hid HF3.out.2
  have HRs := Lib.hid (show (restL r i L).length ≤ L.length from List.length_filter_le _ _)
  obtain ⟨pq, cq, c1, hcap, htk⟩ := H3.out.list
  have HTk := Lib.hid htk
  have c0' := H3.out.c0
  have f1 := H3.out.kind.free 1
  obtain ⟨n3, hn3⟩ : ∃ n3, ((r, i, E) :: restL r i L).length = n3 := ⟨_, rfl⟩
  rw [hn3] at c1 hcap htk
  have Hn3 := Lib.hid hn3
  have hn3' : n3 ≤ 801 := by
    have := HRs.out
    simp only [List.length_cons] at hn3
    omega
  clear htk hn3 k0 k1 c0
  by_cases hgt : room < (n3 : Int)
  · obtain ⟨rm, rfl⟩ := Int.eq_ofNat_of_zero_le hr1
    have hle : (rm : Int) ≤ (cq : Int) := by omega
    have HEnd := Lib.hid (show RPut Y w b (rm : Int) h m g L r i E (.returned (.tuple #[])) (((w3.drew.drew.setCell ⟨b, 1, none⟩ (.slice pq rm cq))).setCell ⟨b, 4, none⟩ (.int .i64 (g + 1))) from by
      have hb3 : Below w3.heap.size w3 w3.drew.drew := (Below.refl _ _).drew.drew
      have hv : HeB (fun k => ((fun k => (Y k ∨ (W0.heap.size ≤ k ∧ k < w1.heap.size)) ∨ (w1.heap.size ≤ k ∧ k < w3.heap.size)) k ∨ (w3.heap.size ≤ k ∧ k < w3.drew.drew.heap.size)) ∧ k ≠ b) w3.drew.drew (.slice pq rm cq) (((r, i, E) :: restL r i L).take rm) :=
        (HTk.out rm (by rw [Hn3.out]; omega)).same (Nat.le_refl _) (fun k hk => ⟨.inl hk.1, hk.2⟩) (fun _ _ _ => rfl)
      have h4 := H3.out.setL hb3 hv
      have h5 := h4.2.setN (j := 4) (v := g + 1) (.inr (.inr ⟨rfl, rfl, rfl, rfl⟩))
      refine ⟨rfl, fun k => ((Y k ∨ (W0.heap.size ≤ k ∧ k < w1.heap.size)) ∨ (w1.heap.size ≤ k ∧ k < w3.heap.size)) ∨ (w3.heap.size ≤ k ∧ k < (w3.drew.drew.setCell ⟨b, 1, none⟩ (.slice pq rm cq)).heap.size), ?_, (HU.out.trans h4.1).trans h5.2, ?_⟩
      · rintro k (hk | hk)
        · exact HY.out k hk
        · exact .inr (by have := HU.out.size; have := hk.1; omega)
      · have e1 : putL (rm : Int) r i E L = ((r, i, E) :: restL r i L).take rm := rfl
        have e2 : putG (rm : Int) r i g L = g + 1 := by
          unfold putG
          rw [if_neg hz, if_pos (by have := Hn3.out; simp only [List.length_cons] at this; omega)]
        rw [e1, e2]
        exact h5.1)
    have c4 : (w3.setCell ⟨b, 1, none⟩ (.slice pq rm cq)).cell? ⟨b, 4, none⟩ = some (.int .i64 g) := (World.cell?_setCell_other _ _ _ _ (fun e => by injection e with _ e; cases e)).trans H3.out.c4
    have f4 : (w3.setCell ⟨b, 1, none⟩ (.slice pq rm cq)).frozen? ⟨b, 4, none⟩ = false := (H3.out.kind.setCell b 1 _).free 4
    go_wp2_with fail
    go_region
    go_wp2_with fail
    go_region
    go_wp2_with fail
    go_end0
    exact HEnd.out
  · have HEnd := Lib.hid (show RPut Y w b room h m g L r i E (.returned (.tuple #[])) w3.drew from by
      have hb3 : Below w3.heap.size w3 w3.drew := (Below.refl _ _).drew
      refine ⟨rfl, _, HY.out, HU.out.drew, ?_⟩
      have e1 : putL room r i E L = (r, i, E) :: restL r i L := List.take_of_length_le (by rw [Hn3.out]; omega)
      have e2 : putG room r i g L = g := by
        unfold putG
        rw [if_neg hz, if_neg (by have := Hn3.out; simp only [List.length_cons] at this; omega)]
      rw [e1, e2]
      exact H3.out.below hb3)
    go_wp2_with fail
    go_region
    go_wp2_with fail
    go_end0
    exact HEnd.out
end
end Go.Proofs.Ytdjebcfpodfhhaa
