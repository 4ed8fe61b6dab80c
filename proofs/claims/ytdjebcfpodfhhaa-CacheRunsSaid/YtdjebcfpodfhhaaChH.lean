/-
  light, newest of the cache's laws; rows of pages that are held.
-/
import Derived.Test.YtdjebcfpodfhhaaChZ2
import Derived.Test.YtdjebcfpodfhhaaChCq
import Derived.Test.YtdjebcfpodfhhaaChV
namespace Go.Proofs.Ytdjebcfpodfhhaa
open Go Go.RowKit Go.Maps Go.WideMaps

set_option maxRecDepth 100000 in
theorem light_yes (kd pg : Int) (r : ByteArray) (pt : Option Addr) (lt ct : Nat) (w : World) (h1 : r.size ≤ 100) (h2 : lt ≤ 20) :
    Tells 10 #[.agg #[.int .i64 kd, .string r, .int .i64 pg, .slice pt lt ct]] w (.bool true) := by
  have h1' : (r.size : Int) ≤ 100 := by omega
  have h2' : (lt : Int) ≤ 20 := by omega
  go_enter Try.func10, Try.ntmps10
  go_wp2_with fail
  go_ret
  exact ⟨rfl, (Below.refl _ _).alloc (Nat.le_refl _) _⟩
set_option maxRecDepth 100000 in
theorem light_no (kd pg : Int) (r : ByteArray) (pt : Option Addr) (lt ct : Nat) (w : World) (h : ¬ (r.size ≤ 100 ∧ lt ≤ 20)) :
    Tells 10 #[.agg #[.int .i64 kd, .string r, .int .i64 pg, .slice pt lt ct]] w (.bool false) := by
  by_cases h1 : r.size ≤ 100
  · have h1' : (r.size : Int) ≤ 100 := by omega
    have h2' : ¬ (lt : Int) ≤ 20 := by omega
    clear h
    go_enter Try.func10, Try.ntmps10
    go_wp2_with fail
    go_ret
    exact ⟨rfl, (Below.refl _ _).alloc (Nat.le_refl _) _⟩
  · have h1' : ¬ (r.size : Int) ≤ 100 := by omega
    clear h
    go_enter Try.func10, Try.ntmps10
    go_wp2_with fail
    go_ret
    exact ⟨rfl, (Below.refl _ _).alloc (Nat.le_refl _) _⟩
/-- The cells of pages that are held. -/
def CellsH (W : World) (b off : Nat) (Q : List (Value × Pg)) : Prop := ∀ j q, Q[j]? = some q → W.cell? ⟨b, off + j * 3, none⟩ = some (.string q.2.1) ∧ W.cell? ⟨b, off + j * 3 + 1, none⟩ = some (.int .i64 q.2.2.1) ∧ W.cell? ⟨b, off + j * 3 + 2, none⟩ = some q.1
/-- A slice value reads as pages that are held, in blocks of S. -/
def HeIn (S : Nat → Prop) (W : World) (v : Value) (H : List Pg) : Prop :=
  ∃ p cap Q, Q.map (·.2) = H ∧ v = .slice p Q.length cap ∧ Q.length ≤ 2000 ∧ (∀ q ∈ Q, EntS S W q.1 q.2.2.2) ∧ (Q = [] ∨ ∃ b off, p = some ⟨b, off, none⟩ ∧ S b ∧ CellsH W b off Q)
theorem HeIn.same {S S' : Nat → Prop} {W W' : World} {v : Value} {H : List Pg} (h : HeIn S W v H) (hS : ∀ k, S k → S' k) (hb : ∀ b o, S b → W'.cell? ⟨b, o, none⟩ = W.cell? ⟨b, o, none⟩) : HeIn S' W' v H := by
  obtain ⟨p, cap, Q, hQ, rfl, hl, ht, h⟩ := h
  refine ⟨p, cap, Q, hQ, rfl, hl, fun q hq => (ht q hq).same hS hb, ?_⟩
  rcases h with h | ⟨b, off, rfl, hlt, hc⟩
  · exact .inl h
  · exact .inr ⟨b, off, rfl, hS _ hlt, fun j q hj => ⟨(hb b _ hlt).trans (hc j q hj).1, (hb b _ hlt).trans (hc j q hj).2.1, (hb b _ hlt).trans (hc j q hj).2.2⟩⟩
theorem HeIn.inside {S : Nat → Prop} {W : World} {v : Value} {H : List Pg} (h : HeIn S W v H) : HeIn (fun k => S k ∧ k < W.heap.size) W v H := by
  obtain ⟨p, cap, Q, hQ, rfl, hl, ht, h⟩ := h
  refine ⟨p, cap, Q, hQ, rfl, hl, fun q hq => (ht q hq).inside, ?_⟩
  cases Q with
  | nil => exact .inl rfl
  | cons q Q =>
    rcases h with h | ⟨b, off, rfl, hlt, hc⟩
    · cases h
    · exact .inr ⟨b, off, rfl, ⟨hlt, lt_of_cell (hc 0 q rfl).1⟩, hc⟩
theorem EntS.grown {W W' : World} {v : Value} {E : List (List V3 × Int)} (h : EntS (fun k => k < W.heap.size) W v E) (hb : Below W.heap.size W W') : EntS (fun k => k < W'.heap.size) W' v E :=
  h.same (fun _ hk => Nat.lt_of_lt_of_le hk hb.size) (fun b o hk => hb.cell (p := ⟨b, o, none⟩) hk)
theorem HeIn.grown {W W' : World} {v : Value} {H : List Pg} (h : HeIn (fun k => k < W.heap.size) W v H) (hb : Below W.heap.size W W') : HeIn (fun k => k < W'.heap.size) W' v H :=
  h.same (fun _ hk => Nat.lt_of_lt_of_le hk hb.size) (fun b o hk => hb.cell (p := ⟨b, o, none⟩) hk)
set_option maxHeartbeats 2000000 in
set_option maxRecDepth 100000 in
theorem newest_hit (v pv : Value) (H : List Pg) (r : ByteArray) (i : Int) (x : Pg) (w : World) (hH : HeIn (fun k => k < w.heap.size) w v H) (hp : EntS (fun k => k < w.heap.size) w pv x.2.2) (hx : findL r i H = some x) :
    Tells 21 #[v, .agg #[.string r, .int .i64 i], pv] w (.bool true) := by
  have HX := Lib.hid hx
  have HP := Lib.hid hp
  have HH := Lib.hid hH
  obtain ⟨p, cap, Q, hQ, rfl, hl, ht, hc⟩ := hH
  have HQ := Lib.hid hQ
  have HT := Lib.hid ht
  have HC := Lib.hid hc
  have hl' : (Q.length : Int) ≤ 2000 := by omega
  clear hx hp hQ ht hc
  have HKb := Lib.hid (keyBox_mk w r i)
  have HB0 := Lib.hid (below_new w (.cells #[.string r, .int .i64 i] 33))
  go_enter Try.func21, Try.ntmps21
  go_wp2_with fail
  generalize w.alloc (.cells #[.string r, .int .i64 i] 33) = W0 at *
  go_loopw [7] (fun i' wr => ∃ k : Nat, k ≤ Q.length ∧ i' = .int .i64 k ∧ Hid (findL r i (H.drop k) = some x) ∧ Hid (Below W0.heap.size W0 wr)) (fun i _ => Q.length - (intOf i).toNat)
  case atStart => exact ⟨0, Nat.zero_le _, rfl, by rw [List.drop_zero]; exact HX, Lib.hid (Below.refl _ _)⟩
  case round =>
    obtain ⟨k, hk, rfl, hF, hB⟩ := hrel
    have h0 : (0 : Int) ≤ (k : Int) := by omega
    by_cases hlt : k < Q.length
    · have hlt' : (k : Int) < (Q.length : Int) := by omega
      obtain ⟨q, hq⟩ : ∃ q, Q[k]? = some q := ⟨_, List.getElem?_eq_getElem hlt⟩
      obtain ⟨b, off, hp, hb, hcq⟩ : ∃ b off, p = some ⟨b, off, none⟩ ∧ b < w.heap.size ∧ CellsH w b off Q := by
        rcases HC.out with h | h
        · rw [h] at hlt; simp at hlt
        · exact h
      subst hp
      have hBw := HB0.out.trans (hB.out.mono HB0.out.size)
      obtain ⟨c0, c1, c2⟩ := hcq k q hq
      have htq := HT.out q (List.mem_of_getElem? hq)
      have hd : H.drop k = q.2 :: H.drop (k + 1) := by
        rw [← HQ.out]
        have hk2 : k < (Q.map (·.2)).length := by simpa using hlt
        rw [List.drop_eq_getElem_cons hk2]
        congr 1
        have e := List.getElem?_eq_getElem hk2
        rw [List.getElem?_map, hq] at e
        exact (Option.some.inj e).symm
      obtain ⟨qv, rq, iq, Eq⟩ := q
      dsimp only at c0 c1 c2 htq hd
      have d0 : wr.cell? ⟨b, off + k * 3, none⟩ = some (.string rq) := (hBw.cell (p := ⟨b, _, none⟩) hb).trans c0
      have d1 : wr.cell? ⟨b, off + k * 3 + 1, none⟩ = some (.int .i64 iq) := (hBw.cell (p := ⟨b, _, none⟩) hb).trans c1
      have d2 : wr.cell? ⟨b, off + k * 3 + 2, none⟩ = some qv := (hBw.cell (p := ⟨b, _, none⟩) hb).trans c2
      obtain ⟨k0, k1⟩ := HKb.out.below hB.out
      have q := eqK_run rq r iq i
      have HFd := Lib.hid (show findL r i ((rq, iq, Eq) :: H.drop (k + 1)) = some x by rw [← hd]; exact hF.out)
      have HTq := Lib.hid (htq.grown hBw)
      have HPq := Lib.hid (HP.out.grown hBw)
      clear hcq hq c0 c1 c2 htq hd hBw hF
      cases hb : eqK rq iq r i with
      | true =>
        rw [hb] at q
        have e : x = (rq, iq, Eq) := by
          have := HFd.out
          unfold findL at this
          rw [List.find?_cons_of_pos (by exact hb)] at this
          exact (Option.some.inj this).symm
        subst e
        have HSm := Lib.hid (rsame_same qv pv Eq wr.drew HTq.out HPq.out)
        clear hb
        go_wp2_with fail
        go_region
        go_wp2_with fail
        refine HSm.out.mono ?_
        rintro e w5 ⟨rfl, hg⟩
        have HE := Lib.hid (HB0.out.trans ((hB.out.drew.trans (hg.below.mono hB.out.size)).mono HB0.out.size))
        clear hg
        go_wp2_with fail
        go_ret
        exact ⟨rfl, HE.out⟩
      | false =>
        rw [hb] at q
        have HN := Lib.hid (show findL r i (H.drop (k + 1)) = some x by
          have := HFd.out
          unfold findL at this ⊢
          rw [List.find?_cons_of_neg (by simp [hb])] at this
          exact this)
        clear hb
        go_wp2_with fail
        go_region
        go_wp2_with fail
        go_roundw
        case rel => exact ⟨k + 1, by omega, by go_num, HN, Lib.hid hB.out.drew⟩
        case measure => simp [intOf]; omega
    · exfalso
      have hk' : k = Q.length := by omega
      have := hF.out
      rw [hk', List.drop_of_length_le (by rw [← HQ.out]; simp)] at this
      cases this
end Go.Proofs.Ytdjebcfpodfhhaa
