/-
  What the law CrcBack needs: frames in a row, cut anywhere; a row of pieces that an argument brings.
-/
import Derived.Test.YteaeiejkdnbcnaaDoorCrSc
namespace Go.Proofs.YteaeiejkdnbcnaaDoor
open Go Go.ChangeShapes Go.WideShapes Go.ChangeAt Go.RowKit Go.Deep

/-- Frames in a row. -/
def framesL (P : List (UInt8 × List UInt8)) : List UInt8 := P.flatMap fun q => frameL q.1 q.2
theorem framesL_cons (q : UInt8 × List UInt8) (P : List (UInt8 × List UInt8)) : framesL (q :: P) = frameL q.1 q.2 ++ framesL P := rfl
theorem framesL_snoc (P : List (UInt8 × List UInt8)) (q : UInt8 × List UInt8) : framesL (P ++ [q]) = framesL P ++ frameL q.1 q.2 := by
  unfold framesL
  rw [List.flatMap_append]
  simp
/-- A frame that is cut is none. -/
theorem unfE_cut (k : UInt8) (m : List UInt8) (j : Nat) (hj : j < 13 + m.length) (hm : m.length ≤ 1048576) : (unfE ((frameL k m).take j)).1 ≠ 0 := by
  have hfl := frameL_len k m
  have hl : ((frameL k m).take j).length = j := by rw [List.length_take]; omega
  unfold unfE
  by_cases h9 : j < 9
  · rw [hl, if_pos h9]; simp
  have h5 : ((frameL k m).take j).take 5 = headL k m := by
    rw [List.take_take, Nat.min_eq_left (by omega)]
    have e : (frameL k m).take 5 = headL k m := by
      have h := List.take_left (l₁ := headL k m) (l₂ := encL (sumL (headL k m)) ++ sealL m)
      rw [headL_len] at h
      unfold frameL
      rw [show sealL (headL k m) ++ sealL m = headL k m ++ (encL (sumL (headL k m)) ++ sealL m) by unfold sealL; simp]
      exact h
    exact e
  have hd1 : (headL k m).drop 1 = encL (BitVec.ofNat 32 m.length) := rfl
  have hn : decN (encL (BitVec.ofNat 32 m.length)) = m.length := by
    rw [decN_enc, BitVec.toNat_ofNat]
    omega
  rw [hl, if_neg h9, h5, hd1, hn]
  split
  · simp
  · by_cases h6 : 1048576 < m.length
    · omega
    · simp [h6]
/-- What is read of frames that are cut at j: the frames that are whole. -/
theorem scan_cut : ∀ (P : List (UInt8 × List UInt8)) (j n : Nat), (∀ q ∈ P, q.2.length ≤ 1048576) → n ≤ P.length → (framesL (P.take n)).length ≤ j → (n < P.length → j < (framesL (P.take (n + 1))).length) → j ≤ (framesL P).length →
    scanL ((framesL P).take j) = (P.take n, (framesL (P.take n)).length)
  | [], j, n, _, hn, _, _, hj => by
    obtain rfl : n = 0 := by simpa using hn
    obtain rfl : j = 0 := by simpa [framesL] using hj
    exact scanL_no (by simp [framesL, unfE])
  | q :: P, j, 0, hq, _, _, h1, hj => by
    have hlt : j < 13 + q.2.length := by
      have := h1 (by simp)
      simpa [framesL, frameL_len] using this
    have hf := frameL_len q.1 q.2
    rw [framesL_cons, List.take_append_of_le_length (by omega)]
    exact scanL_no (unfE_cut _ _ _ hlt (hq q (by simp)))
  | q :: P, j, n + 1, hq, hn, h0, h1, hj => by
    have hf := frameL_len q.1 q.2
    rw [List.take_succ_cons, framesL_cons, List.length_append] at h0
    rw [framesL_cons, List.length_append] at hj
    have e : (framesL (q :: P)).take j = frameL q.1 q.2 ++ (framesL P).take (j - (13 + q.2.length)) := by
      rw [framesL_cons, List.take_append, List.take_of_length_le (by omega), hf]
    have hu := unfE_frame q.1 q.2 ((framesL P).take (j - (13 + q.2.length))) (hq q (by simp))
    have hd : (frameL q.1 q.2 ++ (framesL P).take (j - (13 + q.2.length))).drop (13 + q.2.length) = (framesL P).take (j - (13 + q.2.length)) := by
      have h := List.drop_left (l₁ := frameL q.1 q.2) (l₂ := (framesL P).take (j - (13 + q.2.length)))
      rw [hf] at h
      exact h
    have ih := scan_cut P (j - (13 + q.2.length)) n (fun x hx => hq x (by simp [hx])) (by simpa using hn) (by omega) (fun h => by
      have := h1 (by simpa using h)
      rw [List.take_succ_cons, framesL_cons, List.length_append] at this
      omega) (by omega)
    rw [e, scanL_ok (by rw [hu]), hu]
    simp only
    rw [hd, ih, List.take_succ_cons, framesL_cons, List.length_append, hf]

/-- A slice value reads as pieces, below n₀. -/
def PcsIn (n₀ : Nat) (w : World) (v : Value) (L : List (UInt8 × List UInt8)) : Prop :=
  ∃ p cap, v = .slice p L.length cap ∧ L.length ≤ maxLen ∧ ∀ j (h : j < L.length), ∃ b off s, p = some ⟨b, off, none⟩ ∧ b < n₀ ∧ w.cell? ⟨b, off + j * 2, none⟩ = some (.int .u8 (L[j].1.toNat : Int)) ∧ w.cell? ⟨b, off + j * 2 + 1, none⟩ = some s ∧ ByC n₀ w s L[j].2
theorem PcsIn.below {n₀ : Nat} {w w' : World} {v : Value} {L : List (UInt8 × List UInt8)} (h : PcsIn n₀ w v L) (hb : Below n₀ w w') : PcsIn n₀ w' v L := by
  obtain ⟨p, cap, rfl, hl, h⟩ := h
  refine ⟨p, cap, rfl, hl, fun j hj => ?_⟩
  obtain ⟨b, off, s, h1, h2, h3, h3', h4⟩ := h j hj
  exact ⟨b, off, s, h1, h2, (hb.cell (p := ⟨b, off + j * 2, none⟩) h2).trans h3, (hb.cell (p := ⟨b, off + j * 2 + 1, none⟩) h2).trans h3', h4.below hb⟩
theorem open_pcs {H : Type} {enc : TypeId × Value → H} {W : World} {base : Nat} {sp : Nat → Bool} {held : Bool} {r : Reach} {b0 : Nat} {v : Value} {d : DataW H} {p : List MemPlace}
    (hv : Value.okWide Tryd.prog W r b0 40 v) (h : DataW.Trod enc Tryd.prog W base sp held 40 v d p) : ∃ L : List (UInt8 × List UInt8), PcsIn W.heap.size W v L := by
  obtain ⟨a, len, cap, rfl⟩ := okWide_slice Tryd.underlying40 hv
  obtain ⟨fuel, hf⟩ := h
  have hf' : DataW.trod enc Tryd.prog W base sp held fuel 40 [.slice a len cap] = some (d, p) := hf
  rcases open_slice Tryd.underlying40 hf' with ⟨e, -⟩ | ⟨a', len', cap', m, n, D, Pl, e, -, hle, hcap, hm, -, hi⟩
  · simp at e
    obtain ⟨rfl, rfl, rfl⟩ := e
    exact ⟨[], none, 0, rfl, Nat.zero_le _, fun j hj => by simp at hj⟩
  · simp at e
    obtain ⟨rfl, rfl, rfl⟩ := e
    have hlm : len ≤ m := by rw [hm]; split <;> omega
    have hx : ∀ i, i < len → ∃ l : UInt8 × List UInt8, ∃ s, W.cell? ((a'.add (i * 2)).add 0) = some (.int .u8 (l.1.toNat : Int)) ∧ W.cell? ((a'.add (i * 2)).add 1) = some s ∧ ByC W.heap.size W s l.2 := by
      intro i hil
      obtain ⟨cs', hc, ht⟩ := hi i (by omega)
      rw [cellsPc] at hc
      obtain ⟨_, hcl, hat⟩ := World.cells?_some hc
      match cs', hcl with
      | [c0, c1], _ =>
        obtain ⟨y0, y1, n', hx', _, k0, k1⟩ := trod_struct2 Tryd.underlying35 ht
        have k0' : DataW.trod enc Tryd.prog W base sp held n' 5 [c0] = some y0 := k0
        have k1' : DataW.trod enc Tryd.prog W base sp held n' 22 [c1] = some y1 := k1
        obtain ⟨k, hk, -, wk⟩ := DataW.trod_int Tryd.underlying5 k0'
        simp at hk
        subst hk
        obtain ⟨l, hl⟩ := byt_of_trod k1'
        refine ⟨(UInt8.ofNat k.toNat, l), c1, ?_, hat 1 (by omega), hl⟩
        rw [u8_cell (wf_u8 wk)]
        exact hat 0 (by omega)
    obtain ⟨L, rfl, hL⟩ := list_of _ hx
    refine ⟨L, some a', cap, rfl, Nat.le_trans hle hcap, fun j hj => ?_⟩
    obtain ⟨s, h1, h2, h3⟩ := hL j hj
    have hb := World.block_lt_of_cell? W _ h1
    obtain ⟨b, off, spot⟩ := a'
    obtain rfl : spot = none := by
      have := World.cell?_spot (hL 0 (by omega)).choose_spec.1
      simpa [Addr.add] using this
    have hadd : ∀ i j, ((⟨b, off, none⟩ : Addr).add i).add j = ⟨b, off + i + j, none⟩ := fun i j => by
      unfold Addr.add
      split <;> split <;> simp_all
    rw [hadd] at h1 h2 hb
    exact ⟨b, off, s, rfl, hb, h1, h2, h3⟩
end Go.Proofs.YteaeiejkdnbcnaaDoor
