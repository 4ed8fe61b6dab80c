/-
  The document's cache: its state in memory; find, front.
-/
import Derived.Test.YtdjebcfpodfhhaaChUp
namespace Go.Proofs.Ytdjebcfpodfhhaa
open Go Go.RowKit Go.Maps Go.WideMaps

/-- Pages that are held, with room behind the length. -/
def HeB (S : Nat → Prop) (W : World) (v : Value) (H : List Pg) : Prop :=
  ∃ p cap Q, Q.map (·.2) = H ∧ v = .slice p Q.length cap ∧ Q.length ≤ cap ∧ (∀ q ∈ Q, EntS S W q.1 q.2.2.2) ∧ (Q = [] ∨ ∃ b off, p = some ⟨b, off, none⟩ ∧ S b ∧ b < W.heap.size ∧ CellsH W b off Q)
theorem HeB.same {S S' : Nat → Prop} {W W' : World} {v : Value} {H : List Pg} (h : HeB S W v H) (hs : W.heap.size ≤ W'.heap.size) (hS : ∀ k, S k → S' k) (hb : ∀ b o, S b → W'.cell? ⟨b, o, none⟩ = W.cell? ⟨b, o, none⟩) : HeB S' W' v H := by
  obtain ⟨p, cap, Q, hQ, rfl, hl, ht, h⟩ := h
  refine ⟨p, cap, Q, hQ, rfl, hl, fun q hq => (ht q hq).same hS hb, ?_⟩
  rcases h with h | ⟨b, off, rfl, hlt, hz, hc⟩
  · exact .inl h
  · exact .inr ⟨b, off, rfl, hS _ hlt, Nat.lt_of_lt_of_le hz hs, fun j q hj => ⟨(hb b _ hlt).trans (hc j q hj).1, (hb b _ hlt).trans (hc j q hj).2.1, (hb b _ hlt).trans (hc j q hj).2.2⟩⟩
/-- The document's cache in memory. -/
structure RfA (Y : Nat → Prop) (w : World) (b : Nat) (room h m g : Int) (L : List Pg) : Prop where
  c0 : w.cell? ⟨b, 0, none⟩ = some (.int .i64 room)
  c1 : ∃ lv, w.cell? ⟨b, 1, none⟩ = some lv ∧ HeB (fun k => Y k ∧ k ≠ b) w lv L
  c2 : w.cell? ⟨b, 2, none⟩ = some (.int .i64 h)
  c3 : w.cell? ⟨b, 3, none⟩ = some (.int .i64 m)
  c4 : w.cell? ⟨b, 4, none⟩ = some (.int .i64 g)
  kind : Bk w b 46 5
  inb : Y b
  lt : ∀ k, Y k → k < w.heap.size
section
variable {Y : Nat → Prop} {w : World} {b : Nat} {room h m g : Int} {L : List Pg}
theorem RfA.upd {w' : World} (H : RfA Y w b room h m g L) {C : Nat → Nat → Prop} (hu : Upd C w w') (hC : ∀ k o, Y k → ¬ C k o) : RfA Y w' b room h m g L := by
  have k : ∀ {o : Nat} {u : Value}, w.cell? ⟨b, o, none⟩ = some u → w'.cell? ⟨b, o, none⟩ = some u := fun {o _} e => (hu.cell b o H.kind.lt (hC b o H.inb)).trans e
  obtain ⟨lv, h1, h2⟩ := H.c1
  exact ⟨k H.c0, ⟨lv, k h1, h2.same hu.size (fun _ h => h) (fun x o hx => hu.cell x o (H.lt x hx.1) (hC x o hx.1))⟩, k H.c2, k H.c3, k H.c4, hu.kind _ _ _ H.kind, H.inb, fun x hx => Nat.lt_of_lt_of_le (H.lt x hx) hu.size⟩
theorem RfA.below {w' : World} (H : RfA Y w b room h m g L) (hb : Below w.heap.size w w') : RfA Y w' b room h m g L := H.upd (Upd.of_below (C := fun _ _ => False) hb) (fun _ _ _ e => e)
theorem RfA.wide {Y' : Nat → Prop} (H : RfA Y w b room h m g L) (h1 : ∀ k, Y k → Y' k) (h2 : ∀ k, Y' k → k < w.heap.size) : RfA Y' w b room h m g L := by
  obtain ⟨lv, e, hv⟩ := H.c1
  exact ⟨H.c0, ⟨lv, e, hv.same (Nat.le_refl _) (fun k hk => ⟨h1 k hk.1, hk.2⟩) (fun _ _ _ => rfl)⟩, H.c2, H.c3, H.c4, H.kind, h1 b H.inb, h2⟩
/-- The cells of the state at a later world. -/
theorem RfA.open_ (H : RfA Y w b room h m g L) : ∃ p cap Q, Q.map (·.2) = L ∧ Q.length ≤ cap ∧ (∀ W, Below w.heap.size w W → W.cell? ⟨b, 1, none⟩ = some (.slice p Q.length cap)) ∧ (∀ q ∈ Q, EntS (fun k => Y k ∧ k ≠ b) w q.1 q.2.2.2) ∧ (Q = [] ∨ ∃ bb off, p = some ⟨bb, off, none⟩ ∧ ∀ W, Below w.heap.size w W → CellsH W bb off Q) := by
  obtain ⟨lv, e, p, cap, Q, hQ, rfl, hl, ht, hc⟩ := H.c1
  refine ⟨p, cap, Q, hQ, hl, fun W hb => (hb.cell (p := ⟨b, 1, none⟩) H.kind.lt).trans e, ht, ?_⟩
  rcases hc with h | ⟨bb, off, rfl, -, hlt, hc⟩
  · exact .inl h
  · exact .inr ⟨bb, off, rfl, fun W hb j q hj => ⟨(hb.cell (p := ⟨bb, _, none⟩) hlt).trans (hc j q hj).1, (hb.cell (p := ⟨bb, _, none⟩) hlt).trans (hc j q hj).2.1, (hb.cell (p := ⟨bb, _, none⟩) hlt).trans (hc j q hj).2.2⟩⟩
end
theorem drop_cons {Q : List (Value × Pg)} {L : List Pg} (hQ : Q.map (·.2) = L) {k : Nat} {q : Value × Pg} (hq : Q[k]? = some q) : L.drop k = q.2 :: L.drop (k + 1) := by
  rw [← hQ]
  obtain ⟨hk, e⟩ := List.getElem?_eq_some_iff.1 hq
  have hk2 : k < (Q.map (·.2)).length := by simpa using hk
  rw [List.drop_eq_getElem_cons hk2]
  congr 1
  rw [List.getElem_map, e]
set_option maxHeartbeats 2000000 in
set_option maxRecDepth 100000 in
theorem rfind_any {Y : Nat → Prop} {w : World} {b : Nat} {room h m g : Int} {L : List Pg} (H : RfA Y w b room h m g L) (r : ByteArray) (i : Int) (hL : L.length ≤ 1000) :
    Calls Try.prog 37 #[ptr b, .agg #[.string r, .int .i64 i]] w fun e w' => ∃ k : Int, e = .returned (.int .i64 k) ∧ Below w.heap.size w w' ∧ ((findL r i L = none ∧ k = -1) ∨ ∃ (j : Nat) (x : Pg), findL r i L = some x ∧ L[j]? = some x ∧ k = j) := by
  obtain ⟨p, cap, Q, hQ, -, hc1, -, hcs⟩ := H.open_
  have HC1 := Lib.hid hc1
  have HCs := Lib.hid hcs
  have hl : Q.length ≤ 1000 := by rw [← hQ] at hL; simpa using hL
  have hl' : (Q.length : Int) ≤ 1000 := by omega
  have HQ := Lib.hid hQ
  clear hc1 hcs hQ hL H
  have HKb := Lib.hid (keyBox_mk w r i)
  have HB0 := Lib.hid (below_new w (.cells #[.string r, .int .i64 i] 33))
  go_enter Try.func37, Try.ntmps37
  go_wp2_with fail
  generalize w.alloc (.cells #[.string r, .int .i64 i] 33) = W0 at *
  go_loopw [5] (fun i' wr => ∃ k : Nat, k ≤ Q.length ∧ i' = .int .i64 k ∧ Hid (findL r i L = findL r i (L.drop k)) ∧ Hid (Below W0.heap.size W0 wr)) (fun i _ => Q.length - (intOf i).toNat)
  case atStart => exact ⟨0, Nat.zero_le _, rfl, Lib.hid (by rw [List.drop_zero]), Lib.hid (Below.refl _ _)⟩
  case round =>
    obtain ⟨k, hk, rfl, hF, hB⟩ := hrel
    have h0 : (0 : Int) ≤ (k : Int) := by omega
    have hBw := Lib.hid (HB0.out.trans (hB.out.mono HB0.out.size))
    have c1 := HC1.out wr hBw.out
    by_cases hlt : k < Q.length
    · have hlt' : (k : Int) < (Q.length : Int) := by omega
      obtain ⟨q, hq⟩ : ∃ q, Q[k]? = some q := ⟨_, List.getElem?_eq_getElem hlt⟩
      obtain ⟨bb, off, hp, hcq⟩ : ∃ bb off, p = some ⟨bb, off, none⟩ ∧ ∀ W, Below w.heap.size w W → CellsH W bb off Q := by
        rcases HCs.out with h | h
        · rw [h] at hlt; simp at hlt
        · exact h
      subst hp
      obtain ⟨d0, d1, d2⟩ := hcq wr hBw.out k q hq
      have hd := drop_cons HQ.out hq
      have HLk := Lib.hid (show L[k]? = some q.2 by rw [← HQ.out, List.getElem?_map, hq]; rfl)
      obtain ⟨qv, rq, iq, Eq⟩ := q
      dsimp only at d0 d1 d2 hd HLk
      obtain ⟨k0, k1⟩ := HKb.out.below hB.out
      have q := eqK_run rq r iq i
      have HFd := Lib.hid (show findL r i L = findL r i ((rq, iq, Eq) :: L.drop (k + 1)) by rw [← hd]; exact hF.out)
      clear hcq hq hd hF
      cases hb : eqK rq iq r i with
      | true =>
        rw [hb] at q
        have HX := Lib.hid (show findL r i L = some (rq, iq, Eq) by
          rw [HFd.out]
          unfold findL
          exact List.find?_cons_of_pos (by exact hb))
        clear hb
        go_wp2_with fail
        go_region
        go_wp2_with fail
        go_ret
        exact ⟨k, rfl, hBw.out.drew, .inr ⟨k, _, HX.out, HLk.out, rfl⟩⟩
      | false =>
        rw [hb] at q
        have HN := Lib.hid (show findL r i L = findL r i (L.drop (k + 1)) by
          rw [HFd.out]
          unfold findL
          rw [List.find?_cons_of_neg (by simp [hb])])
        clear hb
        go_wp2_with fail
        go_region
        go_wp2_with fail
        go_roundw
        case rel => exact ⟨k + 1, by omega, by go_num, HN, Lib.hid hB.out.drew⟩
        case measure => simp [intOf]; omega
    · obtain rfl : k = Q.length := by omega
      have hge : (Q.length : Int) ≤ (Q.length : Int) := by omega
      have HN := Lib.hid (show findL r i L = none by rw [hF.out, List.drop_of_length_le (by rw [← HQ.out]; simp)]; rfl)
      go_wp2_with fail
      go_ret
      exact ⟨-1, rfl, hBw.out, .inl ⟨HN.out, rfl⟩⟩
end Go.Proofs.Ytdjebcfpodfhhaa
