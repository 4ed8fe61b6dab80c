/-
  Rows of pieces that are read; contract of the document's Same.
-/
import Derived.Test.YteaeiejkdnbcnaaDoorCrRs
namespace Go.Proofs.YteaeiejkdnbcnaaDoor
open Go Go.RowKit

/-- A slice value reads as pieces. -/
def RowP (w : World) (v : Value) (P : List (UInt8 × List UInt8)) : Prop :=
  ∃ (Q : List (UInt8 × Value × List UInt8)) (p : Option Addr) (c : Nat), Q.map (fun q => (q.1, q.2.2)) = P ∧ v = .slice p Q.length c ∧ Q.length ≤ 1000000000000 ∧
    (Q = [] ∨ ∃ b off, p = some ⟨b, off, none⟩ ∧ b < w.heap.size ∧ ∀ j (h : j < Q.length), w.cell? ⟨b, off + j * 2, none⟩ = some (.int .u8 (Q[j].1.toNat : Int)) ∧ w.cell? ⟨b, off + j * 2 + 1, none⟩ = some Q[j].2.1) ∧
    ∀ q ∈ Q, (∃ p c, q.2.1 = .slice p q.2.2.length c) ∧ BytIn w.heap.size w q.2.1 q.2.2
theorem RowP.below {w w' : World} {v : Value} {P : List (UInt8 × List UInt8)} (h : RowP w v P) (hb : Below w.heap.size w w') : RowP w' v P := by
  obtain ⟨Q, p, c, h1, h2, h3, h4, h5⟩ := h
  refine ⟨Q, p, c, h1, h2, h3, ?_, fun q hq => ⟨(h5 q hq).1, ((h5 q hq).2.below hb).mono hb.size⟩⟩
  rcases h4 with h4 | ⟨b, off, e, hbl, hc⟩
  · exact .inl h4
  · exact .inr ⟨b, off, e, Nat.lt_of_lt_of_le hbl hb.size, fun j hj => ⟨(hb.cell (p := ⟨b, off + j * 2, none⟩) hbl).trans (hc j hj).1, (hb.cell (p := ⟨b, off + j * 2 + 1, none⟩) hbl).trans (hc j hj).2⟩⟩
theorem take_next {α : Type} {P P' : List α} {k : Nat} (h : P.take k = P'.take k) (hk : k < P.length) (hk' : k < P'.length) (e : P[k] = P'[k]) : P.take (k + 1) = P'.take (k + 1) := by
  rw [List.take_add_one, List.take_add_one, h, List.getElem?_eq_getElem hk, List.getElem?_eq_getElem hk', e]
theorem take_eq {α : Type} {P P' : List α} {k : Nat} {x : α} (h : P.take k = P'.take k) (hk : P[k]? = some x) (hk' : P'[k]? = some x) : P.take (k + 1) = P'.take (k + 1) := by
  rw [List.take_add_one, List.take_add_one, h, hk, hk']
set_option maxHeartbeats 4000000 in
set_option maxRecDepth 100000 in
theorem same_rows (v v' : Value) (P P' : List (UInt8 × List UInt8)) (w : World) (h : RowP w v P) (h' : RowP w v' P') :
    Calls Tryd.prog 26 #[v, v'] w fun e w' => e = .returned (.bool (decide (P = P'))) ∧ Below w.heap.size w w' := by
  obtain ⟨Q, p, c, rfl, rfl, hl, hc, hq⟩ := h
  obtain ⟨Q', p', c', rfl, rfl, hl', hc', hq'⟩ := h'
  have HC := Lib.hid hc
  have HC' := Lib.hid hc'
  have HQ := Lib.hid hq
  have HQ' := Lib.hid hq'
  clear hc hc' hq hq'
  have g1 : (Q.length : Int) ≤ 1000000000000 := by omega
  have g2 : (Q'.length : Int) ≤ 1000000000000 := by omega
  clear hl hl'
  by_cases hn : Q.length = Q'.length
  case neg =>
    have hn' : ((Q.length : Int) == (Q'.length : Int)) = false := by simpa using fun e : (Q.length : Int) = (Q'.length : Int) => hn (by omega)
    have hn2 : ((Q.length : Int) != (Q'.length : Int)) = true := by
      have h3 : ¬ (Q.length : Int) = (Q'.length : Int) := fun e => hn (by omega)
      simpa using h3
    have HR : Hid (Value.bool false = .bool (decide (Q.map (fun q => (q.1, q.2.2)) = Q'.map (fun q => (q.1, q.2.2))))) := Lib.hid (by
      rw [decide_eq_false]
      intro e
      have := congrArg List.length e
      rw [List.length_map, List.length_map] at this
      exact hn this)
    clear hn
    go_enter Tryd.func26, Tryd.ntmps26
    go_wp2_with fail
    go_ret
    exact ⟨congrArg Ending.returned HR.out, Below.refl _ _⟩
  have HN := Lib.hid hn
  clear hn
  obtain ⟨n, HNn⟩ : ∃ n, Hid (n = Q.length) := ⟨_, Lib.hid rfl⟩
  rw [← HNn.out] at g1 ⊢
  rw [← HN.out, ← HNn.out] at g2 ⊢
  go_enter Tryd.func26, Tryd.ntmps26
  go_wp2_with fail
  go_loopw [5] (fun i wr => ∃ k : Nat, k ≤ n ∧ i = .int .i64 k ∧ Hid ((Q.map (fun q => (q.1, q.2.2))).take k = (Q'.map (fun q => (q.1, q.2.2))).take k) ∧ Hid (Below w.heap.size w wr)) (fun i _ => n - (intOf i).toNat)
  case atStart => exact ⟨0, Nat.zero_le _, rfl, Lib.hid rfl, Lib.hid (Below.refl _ _)⟩
  case round =>
    obtain ⟨k, hk, rfl, hall, hB⟩ := hrel
    have h0 : (0 : Int) ≤ (k : Int) := by omega
    by_cases hlt : k < n
    case neg =>
      have hge : (n : Int) ≤ (k : Int) := by omega
      have HR : Hid (Value.bool true = .bool (decide (Q.map (fun q => (q.1, q.2.2)) = Q'.map (fun q => (q.1, q.2.2))))) := Lib.hid (by
        rw [decide_eq_true]
        have e := hall.out
        rw [List.take_of_length_le (by rw [List.length_map, ← HNn.out]; omega), List.take_of_length_le (by rw [List.length_map, ← HN.out, ← HNn.out]; omega)] at e
        exact e)
      clear hlt hk
      go_wp2_with fail
      go_ret
      exact ⟨congrArg Ending.returned HR.out, hB.out⟩
    have hlt' : (k : Int) < (n : Int) := by omega
    have hkQ : k < Q.length := HNn.out ▸ hlt
    have hkQ' : k < Q'.length := HN.out ▸ hkQ
    rcases HC.out with h | ⟨b, off, rfl, hb, hx⟩
    · rw [h] at hkQ; exact absurd hkQ (by simp)
    rcases HC'.out with h | ⟨b2, off2, rfl, hb2, hy⟩
    · rw [h] at hkQ'; exact absurd hkQ' (by simp)
    have hs := hB.out.size
    obtain ⟨kx, sx, mx, x0, x1, hsx, HX, HE⟩ : ∃ kx sx mx, wr.cell? ⟨b, off + k * 2, none⟩ = some (.int .u8 ((kx : UInt8).toNat : Int)) ∧ wr.cell? ⟨b, off + k * 2 + 1, none⟩ = some sx ∧ (∃ p c, sx = .slice p mx.length c) ∧ Hid (BytIn wr.heap.size wr sx mx) ∧ Hid ((Q.map (fun q => (q.1, q.2.2)))[k]? = some (kx, mx)) :=
      ⟨_, _, _, (hB.out.cell (p := ⟨b, off + k * 2, none⟩) hb).trans (hx k hkQ).1, (hB.out.cell (p := ⟨b, off + k * 2 + 1, none⟩) hb).trans (hx k hkQ).2, (HQ.out _ (List.getElem_mem hkQ)).1, Lib.hid (((HQ.out _ (List.getElem_mem hkQ)).2.below hB.out).mono hs), Lib.hid (by rw [List.getElem?_map, List.getElem?_eq_getElem hkQ]; rfl)⟩
    obtain ⟨ky, sy, my, y0, y1, hsy, HY, HE'⟩ : ∃ ky sy my, wr.cell? ⟨b2, off2 + k * 2, none⟩ = some (.int .u8 ((ky : UInt8).toNat : Int)) ∧ wr.cell? ⟨b2, off2 + k * 2 + 1, none⟩ = some sy ∧ (∃ p c, sy = .slice p my.length c) ∧ Hid (BytIn wr.heap.size wr sy my) ∧ Hid ((Q'.map (fun q => (q.1, q.2.2)))[k]? = some (ky, my)) :=
      ⟨_, _, _, (hB.out.cell (p := ⟨b2, off2 + k * 2, none⟩) hb2).trans (hy k hkQ').1, (hB.out.cell (p := ⟨b2, off2 + k * 2 + 1, none⟩) hb2).trans (hy k hkQ').2, (HQ'.out _ (List.getElem_mem hkQ')).1, Lib.hid (((HQ'.out _ (List.getElem_mem hkQ')).2.below hB.out).mono hs), Lib.hid (by rw [List.getElem?_map, List.getElem?_eq_getElem hkQ']; rfl)⟩
    obtain ⟨px, cx, rfl⟩ := hsx
    obtain ⟨py, cy, rfl⟩ := hsy
    replace hb : b < wr.heap.size := by omega
    replace hb2 : b2 < wr.heap.size := by omega
    clear hx hy hkQ hkQ' hs
    have G := Lib.hid ((((Held.nil wr).put HY.out).put HX.out).drew)
    by_cases hk1 : kx = ky
    · subst hk1
      by_cases hm : mx = my
      · subst hm
        have HNx := Lib.hid (take_eq hall.out HE.out HE'.out)
        go_wp2_with fail
        refine wp_region_held_drew (S := Held wr [(.slice px mx.length cx, mx), (.slice py mx.length cy, mx)]) (by kernel_rfl) G.out (fun _ => ?_)
        refine take1 0 17 (v := ?_) rfl rfl (by kernel_rfl) (by kernel_rfl) (by kernel_rfl) (fun _ _ _ h => h) (by kernel_rfl) ?_ G.out (by simp only [put_norm]; exact rfl) ?_
        rotate_left
        · intro W _; go_simp; try (with_reducible rfl)
        refine take1 1 18 (v := ?_) rfl rfl (by kernel_rfl) (by kernel_rfl) (by kernel_rfl) (fun _ _ _ h => h) (by kernel_rfl) ?_ G.out (by simp only [put_norm]; exact rfl) ?_
        rotate_left
        · intro W _; go_simp; try (with_reducible rfl)
        refine take1 2 19 (v := ?_) rfl rfl (by kernel_rfl) (by kernel_rfl) (by kernel_rfl) (fun _ _ _ h => h) (by kernel_rfl) ?_ G.out (by simp only [put_norm]; exact rfl) ?_
        rotate_left
        · intro W _; go_simp; try (with_reducible rfl)
        refine take1 3 20 (v := ?_) rfl rfl (by kernel_rfl) (by kernel_rfl) (by kernel_rfl) (fun _ _ _ h => h) (by kernel_rfl) ?_ G.out (by simp only [put_norm]; exact rfl) ?_
        rotate_left
        · intro W _; go_simp; try (with_reducible rfl)
        refine take1 4 21 (v := ?_) rfl rfl (by kernel_rfl) (by kernel_rfl) (by kernel_rfl) (fun _ _ _ h => h) (by kernel_rfl) ?_ G.out (by simp only [put_norm]; exact rfl) ?_
        rotate_left
        · intro W hW; have z := (hW.below.cell hb).trans x0; go_simp; try (with_reducible rfl)
        refine take1 5 22 (v := ?_) rfl rfl (by kernel_rfl) (by kernel_rfl) (by kernel_rfl) (fun _ _ _ h => h) (by kernel_rfl) ?_ G.out (by simp only [put_norm]; exact rfl) ?_
        rotate_left
        · intro W _; go_simp; try (with_reducible rfl)
        refine take1 6 23 (v := ?_) rfl rfl (by kernel_rfl) (by kernel_rfl) (by kernel_rfl) (fun _ _ _ h => h) (by kernel_rfl) ?_ G.out (by simp only [put_norm]; exact rfl) ?_
        rotate_left
        · intro W _; go_simp; try (with_reducible rfl)
        refine take1 7 24 (v := ?_) rfl rfl (by kernel_rfl) (by kernel_rfl) (by kernel_rfl) (fun _ _ _ h => h) (by kernel_rfl) ?_ G.out (by simp only [put_norm]; exact rfl) ?_
        rotate_left
        · intro W _; go_simp; try (with_reducible rfl)
        refine take1 8 25 (v := ?_) rfl rfl (by kernel_rfl) (by kernel_rfl) (by kernel_rfl) (fun _ _ _ h => h) (by kernel_rfl) ?_ G.out (by simp only [put_norm]; exact rfl) ?_
        rotate_left
        · intro W _; go_simp; try (with_reducible rfl)
        refine take1 9 26 (v := ?_) rfl rfl (by kernel_rfl) (by kernel_rfl) (by kernel_rfl) (fun _ _ _ h => h) (by kernel_rfl) ?_ G.out (by simp only [put_norm]; exact rfl) ?_
        rotate_left
        · intro W hW; have z := (hW.below.cell hb2).trans y0; go_simp; try (with_reducible rfl)
        refine take1 10 27 (v := ?_) rfl rfl (by kernel_rfl) (by kernel_rfl) (by kernel_rfl) (fun _ _ _ h => h) (by kernel_rfl) ?_ G.out (by simp only [put_norm]; exact rfl) ?_
        rotate_left
        · intro W _; go_simp; try (with_reducible rfl)
        refine take1 11 28 (v := ?_) rfl rfl (by kernel_rfl) (by kernel_rfl) (by kernel_rfl) (fun _ _ _ h => h) (by kernel_rfl) ?_ G.out (by simp only [put_norm]; exact rfl) ?_
        rotate_left
        · intro W _; go_simp; try (with_reducible rfl)
        refine take1 12 29 (v := ?_) rfl rfl (by kernel_rfl) (by kernel_rfl) (by kernel_rfl) (fun _ _ _ h => h) (by kernel_rfl) ?_ G.out (by simp only [put_norm]; exact rfl) ?_
        rotate_left
        · intro W _; go_simp; try (with_reducible rfl)
        refine take1 13 30 (v := ?_) rfl rfl (by kernel_rfl) (by kernel_rfl) (by kernel_rfl) (fun _ _ _ h => h) (by kernel_rfl) ?_ G.out (by simp only [put_norm]; exact rfl) ?_
        rotate_left
        · intro W _; go_simp; try (with_reducible rfl)
        refine take1 14 31 (v := ?_) rfl rfl (by kernel_rfl) (by kernel_rfl) (by kernel_rfl) (fun _ _ _ h => h) (by kernel_rfl) ?_ G.out (by simp only [put_norm]; exact rfl) ?_
        rotate_left
        · intro W _; go_simp; try (with_reducible rfl)
        refine take1 15 32 (v := ?_) rfl rfl (by kernel_rfl) (by kernel_rfl) (by kernel_rfl) (fun _ _ _ h => h) (by kernel_rfl) ?_ G.out (by simp only [put_norm]; exact rfl) ?_
        rotate_left
        · intro W _; go_simp; try (with_reducible rfl)
        refine take1 16 33 (v := ?_) rfl rfl (by kernel_rfl) (by kernel_rfl) (by kernel_rfl) (fun _ _ _ h => h) (by kernel_rfl) ?_ G.out (by simp only [put_norm]; exact rfl) ?_
        rotate_left
        · intro W hW; have z := (hW.below.cell hb).trans x1; go_simp; try (with_reducible rfl)
        refine take1 17 34 rfl rfl (by kernel_rfl) (by kernel_rfl) (by kernel_rfl) (fun _ _ _ h => h) (by kernel_rfl) (fun W hW => exec_str rfl rfl (hW.at_ 0 rfl)) G.out (by simp only [put_norm]; exact rfl) ?_
        refine take1 18 35 (v := ?_) rfl rfl (by kernel_rfl) (by kernel_rfl) (by kernel_rfl) (fun _ _ _ h => h) (by kernel_rfl) ?_ G.out (by simp only [put_norm]; exact rfl) ?_
        rotate_left
        · intro W _; go_simp; try (with_reducible rfl)
        refine take1 19 36 (v := ?_) rfl rfl (by kernel_rfl) (by kernel_rfl) (by kernel_rfl) (fun _ _ _ h => h) (by kernel_rfl) ?_ G.out (by simp only [put_norm]; exact rfl) ?_
        rotate_left
        · intro W _; go_simp; try (with_reducible rfl)
        refine take1 20 37 (v := ?_) rfl rfl (by kernel_rfl) (by kernel_rfl) (by kernel_rfl) (fun _ _ _ h => h) (by kernel_rfl) ?_ G.out (by simp only [put_norm]; exact rfl) ?_
        rotate_left
        · intro W _; go_simp; try (with_reducible rfl)
        refine take1 21 38 (v := ?_) rfl rfl (by kernel_rfl) (by kernel_rfl) (by kernel_rfl) (fun _ _ _ h => h) (by kernel_rfl) ?_ G.out (by simp only [put_norm]; exact rfl) ?_
        rotate_left
        · intro W _; go_simp; try (with_reducible rfl)
        refine take1 22 39 (v := ?_) rfl rfl (by kernel_rfl) (by kernel_rfl) (by kernel_rfl) (fun _ _ _ h => h) (by kernel_rfl) ?_ G.out (by simp only [put_norm]; exact rfl) ?_
        rotate_left
        · intro W hW; have z := (hW.below.cell hb2).trans y1; go_simp; try (with_reducible rfl)
        refine take1 23 40 rfl rfl (by kernel_rfl) (by kernel_rfl) (by kernel_rfl) (fun _ _ _ h => h) (by kernel_rfl) (fun W hW => exec_str rfl rfl (hW.at_ 1 rfl)) G.out (by simp only [put_norm]; exact rfl) ?_
        refine take1 24 41 (v := ?_) rfl rfl (by kernel_rfl) (by kernel_rfl) (by kernel_rfl) (fun _ _ _ h => h) (by kernel_rfl) ?_ G.out (by simp only [put_norm]; exact rfl) ?_
        rotate_left
        · intro W _; go_simp; try (with_reducible rfl)
        refine take1 25 42 (v := ?_) rfl rfl (by kernel_rfl) (by kernel_rfl) (by kernel_rfl) (fun _ _ _ h => h) (by kernel_rfl) ?_ G.out (by simp only [put_norm]; exact rfl) ?_
        rotate_left
        · intro W _; go_simp; try (with_reducible rfl)
        refine wpAnyH_done (by kernel_rfl) ?_ _
        go_wp2_with fail
        go_roundw
        case rel => exact ⟨k + 1, by omega, by go_num, HNx, Lib.hid hB.out.drew⟩
        case measure => simp [intOf]; omega
      · have hm1 : (mx == my) = false := by simpa using hm
        have HR : Hid (Value.bool false = .bool (decide (Q.map (fun q => (q.1, q.2.2)) = Q'.map (fun q => (q.1, q.2.2))))) := Lib.hid (by
          rw [decide_eq_false]
          intro e
          have h1 := HE.out
          rw [e, HE'.out] at h1
          simp only [Option.some.injEq, Prod.mk.injEq] at h1
          exact hm h1.2.symm)
        clear hm
        go_wp2_with fail
        refine wp_region_held_drew (S := Held wr [(.slice px mx.length cx, mx), (.slice py my.length cy, my)]) (by kernel_rfl) G.out (fun _ => ?_)
        refine take1 0 17 (v := ?_) rfl rfl (by kernel_rfl) (by kernel_rfl) (by kernel_rfl) (fun _ _ _ h => h) (by kernel_rfl) ?_ G.out (by simp only [put_norm]; exact rfl) ?_
        rotate_left
        · intro W _; go_simp; try (with_reducible rfl)
        refine take1 1 18 (v := ?_) rfl rfl (by kernel_rfl) (by kernel_rfl) (by kernel_rfl) (fun _ _ _ h => h) (by kernel_rfl) ?_ G.out (by simp only [put_norm]; exact rfl) ?_
        rotate_left
        · intro W _; go_simp; try (with_reducible rfl)
        refine take1 2 19 (v := ?_) rfl rfl (by kernel_rfl) (by kernel_rfl) (by kernel_rfl) (fun _ _ _ h => h) (by kernel_rfl) ?_ G.out (by simp only [put_norm]; exact rfl) ?_
        rotate_left
        · intro W _; go_simp; try (with_reducible rfl)
        refine take1 3 20 (v := ?_) rfl rfl (by kernel_rfl) (by kernel_rfl) (by kernel_rfl) (fun _ _ _ h => h) (by kernel_rfl) ?_ G.out (by simp only [put_norm]; exact rfl) ?_
        rotate_left
        · intro W _; go_simp; try (with_reducible rfl)
        refine take1 4 21 (v := ?_) rfl rfl (by kernel_rfl) (by kernel_rfl) (by kernel_rfl) (fun _ _ _ h => h) (by kernel_rfl) ?_ G.out (by simp only [put_norm]; exact rfl) ?_
        rotate_left
        · intro W hW; have z := (hW.below.cell hb).trans x0; go_simp; try (with_reducible rfl)
        refine take1 5 22 (v := ?_) rfl rfl (by kernel_rfl) (by kernel_rfl) (by kernel_rfl) (fun _ _ _ h => h) (by kernel_rfl) ?_ G.out (by simp only [put_norm]; exact rfl) ?_
        rotate_left
        · intro W _; go_simp; try (with_reducible rfl)
        refine take1 6 23 (v := ?_) rfl rfl (by kernel_rfl) (by kernel_rfl) (by kernel_rfl) (fun _ _ _ h => h) (by kernel_rfl) ?_ G.out (by simp only [put_norm]; exact rfl) ?_
        rotate_left
        · intro W _; go_simp; try (with_reducible rfl)
        refine take1 7 24 (v := ?_) rfl rfl (by kernel_rfl) (by kernel_rfl) (by kernel_rfl) (fun _ _ _ h => h) (by kernel_rfl) ?_ G.out (by simp only [put_norm]; exact rfl) ?_
        rotate_left
        · intro W _; go_simp; try (with_reducible rfl)
        refine take1 8 25 (v := ?_) rfl rfl (by kernel_rfl) (by kernel_rfl) (by kernel_rfl) (fun _ _ _ h => h) (by kernel_rfl) ?_ G.out (by simp only [put_norm]; exact rfl) ?_
        rotate_left
        · intro W _; go_simp; try (with_reducible rfl)
        refine take1 9 26 (v := ?_) rfl rfl (by kernel_rfl) (by kernel_rfl) (by kernel_rfl) (fun _ _ _ h => h) (by kernel_rfl) ?_ G.out (by simp only [put_norm]; exact rfl) ?_
        rotate_left
        · intro W hW; have z := (hW.below.cell hb2).trans y0; go_simp; try (with_reducible rfl)
        refine take1 10 27 (v := ?_) rfl rfl (by kernel_rfl) (by kernel_rfl) (by kernel_rfl) (fun _ _ _ h => h) (by kernel_rfl) ?_ G.out (by simp only [put_norm]; exact rfl) ?_
        rotate_left
        · intro W _; go_simp; try (with_reducible rfl)
        refine take1 11 28 (v := ?_) rfl rfl (by kernel_rfl) (by kernel_rfl) (by kernel_rfl) (fun _ _ _ h => h) (by kernel_rfl) ?_ G.out (by simp only [put_norm]; exact rfl) ?_
        rotate_left
        · intro W _; go_simp; try (with_reducible rfl)
        refine take1 12 29 (v := ?_) rfl rfl (by kernel_rfl) (by kernel_rfl) (by kernel_rfl) (fun _ _ _ h => h) (by kernel_rfl) ?_ G.out (by simp only [put_norm]; exact rfl) ?_
        rotate_left
        · intro W _; go_simp; try (with_reducible rfl)
        refine take1 13 30 (v := ?_) rfl rfl (by kernel_rfl) (by kernel_rfl) (by kernel_rfl) (fun _ _ _ h => h) (by kernel_rfl) ?_ G.out (by simp only [put_norm]; exact rfl) ?_
        rotate_left
        · intro W _; go_simp; try (with_reducible rfl)
        refine take1 14 31 (v := ?_) rfl rfl (by kernel_rfl) (by kernel_rfl) (by kernel_rfl) (fun _ _ _ h => h) (by kernel_rfl) ?_ G.out (by simp only [put_norm]; exact rfl) ?_
        rotate_left
        · intro W _; go_simp; try (with_reducible rfl)
        refine take1 15 32 (v := ?_) rfl rfl (by kernel_rfl) (by kernel_rfl) (by kernel_rfl) (fun _ _ _ h => h) (by kernel_rfl) ?_ G.out (by simp only [put_norm]; exact rfl) ?_
        rotate_left
        · intro W _; go_simp; try (with_reducible rfl)
        refine take1 16 33 (v := ?_) rfl rfl (by kernel_rfl) (by kernel_rfl) (by kernel_rfl) (fun _ _ _ h => h) (by kernel_rfl) ?_ G.out (by simp only [put_norm]; exact rfl) ?_
        rotate_left
        · intro W hW; have z := (hW.below.cell hb).trans x1; go_simp; try (with_reducible rfl)
        refine take1 17 34 rfl rfl (by kernel_rfl) (by kernel_rfl) (by kernel_rfl) (fun _ _ _ h => h) (by kernel_rfl) (fun W hW => exec_str rfl rfl (hW.at_ 0 rfl)) G.out (by simp only [put_norm]; exact rfl) ?_
        refine take1 18 35 (v := ?_) rfl rfl (by kernel_rfl) (by kernel_rfl) (by kernel_rfl) (fun _ _ _ h => h) (by kernel_rfl) ?_ G.out (by simp only [put_norm]; exact rfl) ?_
        rotate_left
        · intro W _; go_simp; try (with_reducible rfl)
        refine take1 19 36 (v := ?_) rfl rfl (by kernel_rfl) (by kernel_rfl) (by kernel_rfl) (fun _ _ _ h => h) (by kernel_rfl) ?_ G.out (by simp only [put_norm]; exact rfl) ?_
        rotate_left
        · intro W _; go_simp; try (with_reducible rfl)
        refine take1 20 37 (v := ?_) rfl rfl (by kernel_rfl) (by kernel_rfl) (by kernel_rfl) (fun _ _ _ h => h) (by kernel_rfl) ?_ G.out (by simp only [put_norm]; exact rfl) ?_
        rotate_left
        · intro W _; go_simp; try (with_reducible rfl)
        refine take1 21 38 (v := ?_) rfl rfl (by kernel_rfl) (by kernel_rfl) (by kernel_rfl) (fun _ _ _ h => h) (by kernel_rfl) ?_ G.out (by simp only [put_norm]; exact rfl) ?_
        rotate_left
        · intro W _; go_simp; try (with_reducible rfl)
        refine take1 22 39 (v := ?_) rfl rfl (by kernel_rfl) (by kernel_rfl) (by kernel_rfl) (fun _ _ _ h => h) (by kernel_rfl) ?_ G.out (by simp only [put_norm]; exact rfl) ?_
        rotate_left
        · intro W hW; have z := (hW.below.cell hb2).trans y1; go_simp; try (with_reducible rfl)
        refine take1 23 40 rfl rfl (by kernel_rfl) (by kernel_rfl) (by kernel_rfl) (fun _ _ _ h => h) (by kernel_rfl) (fun W hW => exec_str rfl rfl (hW.at_ 1 rfl)) G.out (by simp only [put_norm]; exact rfl) ?_
        refine take1 24 41 (v := ?_) rfl rfl (by kernel_rfl) (by kernel_rfl) (by kernel_rfl) (fun _ _ _ h => h) (by kernel_rfl) ?_ G.out (by simp only [put_norm]; exact rfl) ?_
        rotate_left
        · intro W _; go_simp; try (with_reducible rfl)
        refine take1 25 42 (v := ?_) rfl rfl (by kernel_rfl) (by kernel_rfl) (by kernel_rfl) (fun _ _ _ h => h) (by kernel_rfl) ?_ G.out (by simp only [put_norm]; exact rfl) ?_
        rotate_left
        · intro W _; go_simp; try (with_reducible rfl)
        refine wpAnyH_done (by kernel_rfl) ?_ _
        go_wp2_with fail
        go_ret
        exact ⟨congrArg Ending.returned HR.out, hB.out.drew⟩
    · have hk3 : ¬ (kx.toNat : Int) = (ky.toNat : Int) := fun e => hk1 (UInt8.toNat_inj.1 (by omega))
      have hk4 : ((kx.toNat : Int) == (ky.toNat : Int)) = false := by simpa using hk3
      have hk5 : ((kx.toNat : Int) != (ky.toNat : Int)) = true := by simpa using hk3
      have HR : Hid (Value.bool false = .bool (decide (Q.map (fun q => (q.1, q.2.2)) = Q'.map (fun q => (q.1, q.2.2))))) := Lib.hid (by
        rw [decide_eq_false]
        intro e
        have h1 := HE.out
        rw [e, HE'.out] at h1
        simp only [Option.some.injEq, Prod.mk.injEq] at h1
        exact hk1 h1.1.symm)
      clear hk1 hk3
      have KX := Lib.hid hk5
      go_wp2_with fail
      refine wp_region_held_drew (S := Held wr [(.slice px mx.length cx, mx), (.slice py my.length cy, my)]) (by kernel_rfl) G.out (fun _ => ?_)
      refine take1 0 17 (v := ?_) rfl rfl (by kernel_rfl) (by kernel_rfl) (by kernel_rfl) (fun _ _ _ h => h) (by kernel_rfl) ?_ G.out (by simp only [put_norm]; exact rfl) ?_
      rotate_left
      · intro W _; go_simp; try (with_reducible rfl)
      refine take1 1 18 (v := ?_) rfl rfl (by kernel_rfl) (by kernel_rfl) (by kernel_rfl) (fun _ _ _ h => h) (by kernel_rfl) ?_ G.out (by simp only [put_norm]; exact rfl) ?_
      rotate_left
      · intro W _; go_simp; try (with_reducible rfl)
      refine take1 2 19 (v := ?_) rfl rfl (by kernel_rfl) (by kernel_rfl) (by kernel_rfl) (fun _ _ _ h => h) (by kernel_rfl) ?_ G.out (by simp only [put_norm]; exact rfl) ?_
      rotate_left
      · intro W _; go_simp; try (with_reducible rfl)
      refine take1 3 20 (v := ?_) rfl rfl (by kernel_rfl) (by kernel_rfl) (by kernel_rfl) (fun _ _ _ h => h) (by kernel_rfl) ?_ G.out (by simp only [put_norm]; exact rfl) ?_
      rotate_left
      · intro W _; go_simp; try (with_reducible rfl)
      refine take1 4 21 (v := ?_) rfl rfl (by kernel_rfl) (by kernel_rfl) (by kernel_rfl) (fun _ _ _ h => h) (by kernel_rfl) ?_ G.out (by simp only [put_norm]; exact rfl) ?_
      rotate_left
      · intro W hW; have z := (hW.below.cell hb).trans x0; go_simp; try (with_reducible rfl)
      refine take1 5 22 (v := ?_) rfl rfl (by kernel_rfl) (by kernel_rfl) (by kernel_rfl) (fun _ _ _ h => h) (by kernel_rfl) ?_ G.out (by simp only [put_norm]; exact rfl) ?_
      rotate_left
      · intro W _; go_simp; try (with_reducible rfl)
      refine take1 6 23 (v := ?_) rfl rfl (by kernel_rfl) (by kernel_rfl) (by kernel_rfl) (fun _ _ _ h => h) (by kernel_rfl) ?_ G.out (by simp only [put_norm]; exact rfl) ?_
      rotate_left
      · intro W _; go_simp; try (with_reducible rfl)
      refine take1 7 24 (v := ?_) rfl rfl (by kernel_rfl) (by kernel_rfl) (by kernel_rfl) (fun _ _ _ h => h) (by kernel_rfl) ?_ G.out (by simp only [put_norm]; exact rfl) ?_
      rotate_left
      · intro W _; go_simp; try (with_reducible rfl)
      refine take1 8 25 (v := ?_) rfl rfl (by kernel_rfl) (by kernel_rfl) (by kernel_rfl) (fun _ _ _ h => h) (by kernel_rfl) ?_ G.out (by simp only [put_norm]; exact rfl) ?_
      rotate_left
      · intro W _; go_simp; try (with_reducible rfl)
      refine take1 9 26 (v := ?_) rfl rfl (by kernel_rfl) (by kernel_rfl) (by kernel_rfl) (fun _ _ _ h => h) (by kernel_rfl) ?_ G.out (by simp only [put_norm]; exact rfl) ?_
      rotate_left
      · intro W hW; have z := (hW.below.cell hb2).trans y0; go_simp; try (with_reducible rfl)
      refine take1 10 27 (v := ?_) rfl rfl (by kernel_rfl) (by kernel_rfl) (by kernel_rfl) (fun _ _ _ h => h) (by kernel_rfl) ?_ G.out (by simp only [put_norm]; exact rfl) ?_
      rotate_left
      · intro W _; go_simp; try (with_reducible rfl)
      refine take1 11 28 (v := ?_) rfl rfl (by kernel_rfl) (by kernel_rfl) (by kernel_rfl) (fun _ _ _ h => h) (by kernel_rfl) ?_ G.out (by simp only [put_norm]; exact rfl) ?_
      rotate_left
      · intro W _; go_simp; try (with_reducible rfl)
      refine take0 12 29 rfl rfl (by kernel_rfl) (by kernel_rfl) (by kernel_rfl) (fun _ _ _ h => h) (by kernel_rfl) G.out (by simp only [put_norm]; exact rfl) ?_
      refine take0 13 30 rfl rfl (by kernel_rfl) (by kernel_rfl) (by kernel_rfl) (fun _ _ _ h => h) (by kernel_rfl) G.out (by simp only [put_norm]; exact rfl) ?_
      refine take0 14 31 rfl rfl (by kernel_rfl) (by kernel_rfl) (by kernel_rfl) (fun _ _ _ h => h) (by kernel_rfl) G.out (by simp only [put_norm]; exact rfl) ?_
      refine take0 15 32 rfl rfl (by kernel_rfl) (by kernel_rfl) (by kernel_rfl) (fun _ _ _ h => h) (by kernel_rfl) G.out (by simp only [put_norm]; exact rfl) ?_
      refine take0 16 33 rfl rfl (by kernel_rfl) (by kernel_rfl) (by kernel_rfl) (fun _ _ _ h => h) (by kernel_rfl) G.out (by simp only [put_norm]; exact rfl) ?_
      refine take0 17 34 rfl rfl (by kernel_rfl) (by kernel_rfl) (by kernel_rfl) (fun _ _ _ h => h) (by kernel_rfl) G.out (by simp only [put_norm]; exact rfl) ?_
      refine take0 18 35 rfl rfl (by kernel_rfl) (by kernel_rfl) (by kernel_rfl) (fun _ _ _ h => h) (by kernel_rfl) G.out (by simp only [put_norm]; exact rfl) ?_
      refine take0 19 36 rfl rfl (by kernel_rfl) (by kernel_rfl) (by kernel_rfl) (fun _ _ _ h => h) (by kernel_rfl) G.out (by simp only [put_norm]; exact rfl) ?_
      refine take0 20 37 rfl rfl (by kernel_rfl) (by kernel_rfl) (by kernel_rfl) (fun _ _ _ h => h) (by kernel_rfl) G.out (by simp only [put_norm]; exact rfl) ?_
      refine take0 21 38 rfl rfl (by kernel_rfl) (by kernel_rfl) (by kernel_rfl) (fun _ _ _ h => h) (by kernel_rfl) G.out (by simp only [put_norm]; exact rfl) ?_
      refine take0 22 39 rfl rfl (by kernel_rfl) (by kernel_rfl) (by kernel_rfl) (fun _ _ _ h => h) (by kernel_rfl) G.out (by simp only [put_norm]; exact rfl) ?_
      refine take0 23 40 rfl rfl (by kernel_rfl) (by kernel_rfl) (by kernel_rfl) (fun _ _ _ h => h) (by kernel_rfl) G.out (by simp only [put_norm]; exact rfl) ?_
      refine take0 24 41 rfl rfl (by kernel_rfl) (by kernel_rfl) (by kernel_rfl) (fun _ _ _ h => h) (by kernel_rfl) G.out (by simp only [put_norm]; exact rfl) ?_
      refine take1 25 42 (v := ?_) rfl rfl (by kernel_rfl) (by kernel_rfl) (by kernel_rfl) (fun _ _ _ h => h) (by kernel_rfl) ?_ G.out (by simp only [put_norm]; exact rfl) ?_
      rotate_left
      · intro W _; go_simp; try (with_reducible rfl)
      refine wpAnyH_done (by kernel_rfl) ?_ _
      go_wp2_with fail
      go_ret
      exact ⟨congrArg Ending.returned HR.out, hB.out.drew⟩
end Go.Proofs.YteaeiejkdnbcnaaDoor
