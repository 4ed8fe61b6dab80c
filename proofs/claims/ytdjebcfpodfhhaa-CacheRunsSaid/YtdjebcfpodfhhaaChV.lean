/-
  Keys against each other; rows of keys; the document's SameKeys at two equal rows.
-/
import Derived.Test.YtdjebcfpodfhhaaChZ
import Derived.Laws.StructEq
namespace Go.Proofs.Ytdjebcfpodfhhaa
open Go Go.RowKit Go.Maps Go.WideMaps

set_option maxHeartbeats 1000000 in
theorem eqK_run (r r' : ByteArray) (i i' : Int) (W : World) : (binOp .eql 33 (.agg #[.string r, .int .i64 i]) (.agg #[.string r', .int .i64 i'])).run Try.prog W = .ok (.bool (eqK r i r' i')) W := by
  rw [run_eql_struct]
  simp [go_sem]
  unfold eqK
  by_cases h1 : r.toList = r'.toList
  · by_cases h2 : i = i'
    · rw [if_pos h1]; simp [h1, h2]
    · rw [if_pos h1]; simp [h1, h2]
  · rw [if_neg h1]; simp [h1]
set_option maxHeartbeats 1000000 in
theorem neK_run (r r' : ByteArray) (i i' : Int) (W : World) : (binOp .neq 33 (.agg #[.string r, .int .i64 i]) (.agg #[.string r', .int .i64 i'])).run Try.prog W = .ok (.bool (!eqK r i r' i')) W := by
  rw [run_neq_struct]
  simp [go_sem]
  unfold eqK
  by_cases h1 : r.toList = r'.toList
  · by_cases h2 : i = i'
    · rw [if_pos h1]; simp [h1, h2]
    · rw [if_pos h1]; simp [h1, h2]
  · rw [if_neg h1]; simp [h1]
/-- A slice value reads as keys. -/
def CellsK (W : World) (b off : Nat) (K : List (ByteArray × Int)) : Prop := ∀ j k, K[j]? = some k → W.cell? ⟨b, off + j * 2, none⟩ = some (.string k.1) ∧ W.cell? ⟨b, off + j * 2 + 1, none⟩ = some (.int .i64 k.2)
def KeyIn (W : World) (v : Value) (K : List (ByteArray × Int)) : Prop := ∃ p cap, v = .slice p K.length cap ∧ K.length ≤ 2000 ∧ (K = [] ∨ ∃ b off, p = some ⟨b, off, none⟩ ∧ b < W.heap.size ∧ CellsK W b off K)
theorem KeyIn.below {W W' : World} {v : Value} {K : List (ByteArray × Int)} (h : KeyIn W v K) (hb : Below W.heap.size W W') : KeyIn W' v K := by
  obtain ⟨p, cap, rfl, hl, h⟩ := h
  refine ⟨p, cap, rfl, hl, ?_⟩
  rcases h with h | ⟨b, off, rfl, hlt, hc⟩
  · exact .inl h
  · exact .inr ⟨b, off, rfl, Nat.lt_of_lt_of_le hlt hb.size, fun j k hj => ⟨(hb.cell (p := ⟨b, _, none⟩) hlt).trans (hc j k hj).1, (hb.cell (p := ⟨b, _, none⟩) hlt).trans (hc j k hj).2⟩⟩
theorem rowK_at : ∀ (K : List (ByteArray × Int)) (j : Nat) (k : ByteArray × Int), K[j]? = some k → (rowK K)[j * 2]? = some (.string k.1) ∧ (rowK K)[j * 2 + 1]? = some (.int .i64 k.2)
  | [], j, k, h => by simp at h
  | x :: r, 0, k, h => by
    simp at h
    subst h
    exact ⟨rfl, rfl⟩
  | x :: r, j + 1, k, h => by
    have := rowK_at r j k (by simpa using h)
    rw [show (j + 1) * 2 = j * 2 + 1 + 1 by omega]
    exact this
theorem KeyIn.own {W : World} {B : Nat} {v : Value} {K : List (ByteArray × Int)} (h : W.ownsRow B 33 2 v K.length (rowK K)) (hl : K.length ≤ 2000) : KeyIn W v K := by
  rcases Nat.eq_zero_or_pos K.length with h0 | h0
  · obtain rfl := List.eq_nil_of_length_eq_zero h0
    rcases h.2 with ⟨rfl, -⟩ | ⟨g, cap, cur, rfl, -⟩
    · exact ⟨none, 0, rfl, by simp, .inl rfl⟩
    · exact ⟨_, cap, rfl, by simp, .inl rfl⟩
  · obtain ⟨g, cap, rfl, -, hg⟩ := World.ownsRow.form h h0
    refine ⟨_, cap, rfl, hl, .inr ⟨g, 0, rfl, hg, fun j k hj => ?_⟩⟩
    obtain ⟨q1, q2⟩ := rowK_at K j k hj
    have c1 := World.ownsRow.cells h (g := g) rfl _ _ q1
    have c2 := World.ownsRow.cells h (g := g) rfl _ _ q2
    rw [addr_add] at c1 c2
    exact ⟨c1, c2⟩
theorem KeyIn.some {W : World} {v : Value} {K : List (ByteArray × Int)} (h : KeyIn W v K) {j : Nat} (hj : j < K.length) : ∃ b off cap, v = .slice (some ⟨b, off, none⟩) K.length cap ∧ b < W.heap.size ∧ CellsK W b off K := by
  obtain ⟨p, cap, rfl, -, h | ⟨b, off, rfl, hb, hc⟩⟩ := h
  · subst h
    simp at hj
  · exact ⟨b, off, cap, rfl, hb, hc⟩
set_option maxHeartbeats 1000000 in
set_option maxRecDepth 100000 in
theorem samekeys_same (v1 v2 : Value) (K : List (ByteArray × Int)) (w : World) (h1 : KeyIn w v1 K) (h2 : KeyIn w v2 K) :
    Tells 12 #[v1, v2] w (.bool true) := by
  have H1 := Lib.hid h1
  have H2 := Lib.hid h2
  obtain ⟨p1, c1, rfl, l1, q1⟩ := h1
  obtain ⟨p2, c2, rfl, l2, q2⟩ := h2
  clear q1 q2 l2
  go_enter Try.func12, Try.ntmps12
  go_wp2_with fail
  go_loopw [5] (fun i wr => ∃ k : Nat, k ≤ K.length ∧ i = .int .i64 k ∧ Hid (Below w.heap.size w wr)) (fun i _ => K.length - (intOf i).toNat)
  case atStart => exact ⟨0, Nat.zero_le _, rfl, Lib.hid (Below.refl _ _)⟩
  case round =>
    obtain ⟨k, hk, rfl, hg⟩ := hrel
    have h0 : (0 : Int) ≤ (k : Int) := by omega
    by_cases hlt : k < K.length
    · have hlt' : (k : Int) < (K.length : Int) := by omega
      obtain ⟨b1, o1, cc1, hv1, hb1, hc1⟩ := (H1.out.below hg.out).some hlt
      obtain ⟨b2, o2, cc2, hv2, hb2, hc2⟩ := (H2.out.below hg.out).some hlt
      injection hv1 with hp1 _ hcap1
      injection hv2 with hp2 _ hcap2
      subst hp1 hcap1 hp2 hcap2
      obtain ⟨x, hx⟩ : ∃ x, K[k]? = some x := ⟨_, List.getElem?_eq_getElem hlt⟩
      obtain ⟨x0, x1⟩ := hc1 k x hx
      obtain ⟨y0, y1⟩ := hc2 k x hx
      have q := neK_run x.1 x.1 x.2 x.2
      rw [eqK_self] at q
      clear hc1 hc2 hx
      go_wp2_with fail
      go_region
      go_wp2_with fail
      go_roundw
      case rel => exact ⟨k + 1, by omega, by go_num, Lib.hid hg.out.drew⟩
      case measure => simp [intOf]; omega
    · obtain rfl : k = K.length := by omega
      go_wp2_with fail
      go_ret
      exact ⟨rfl, hg.out⟩
end Go.Proofs.Ytdjebcfpodfhhaa
