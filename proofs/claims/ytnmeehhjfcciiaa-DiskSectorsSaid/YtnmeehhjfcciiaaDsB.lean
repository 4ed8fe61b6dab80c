/-
  cut at any bytes.
-/
import Derived.Test.YtnmeehhjfcciiaaDsA
namespace Go.Proofs.Ytnmeehhjfcciiaa
open Go Go.RowKit Go.Maps Go.WideMaps

set_option maxRecDepth 100000 in
theorem cut_out (w : World) (b cap n i : Nat) (hc : n ≤ cap) (hm : cap ≤ maxLen) (hn : n ≤ 1000000) (hi : i ≤ 100000) (h : n ≤ i * 64) : Says 42 #[.slice (some ⟨b, 0, none⟩) n cap, .int .i64 (i : Int)] w (.slice (some ⟨b, 0, none⟩) 0 0) := by
  unfold maxLen at hm
  have h1 : (n : Int) ≤ (cap : Int) := by omega
  have h2 : (cap : Int) ≤ 9223372036854775807 := by omega
  have h3 : (n : Int) ≤ (i : Int) * 64 := by omega
  have h4 : (i : Int) ≤ 100000 := by omega
  have h5 : (0 : Int) ≤ (i : Int) := by omega
  have h6 : (0 : Int) ≤ (n : Int) := by omega
  have h7 : (n : Int) ≤ 1000000 := by omega
  go_enter Try.func42, Try.ntmps42
  go_wp2_with fail
  · go_ret
    exact ⟨rfl, rfl⟩
  · have e : n - ((i : Int) * 64).toNat = 0 := by omega
    go_ret
    rw [e]
    exact ⟨rfl, rfl⟩
set_option maxRecDepth 100000 in
theorem cut_in (w : World) (b cap n i : Nat) (hc : n ≤ cap) (hm : cap ≤ maxLen) (hn : n ≤ 1000000) (hi : i ≤ 100000) (h : i * 64 < n) (h' : n ≤ i * 64 + 64) : Says 42 #[.slice (some ⟨b, 0, none⟩) n cap, .int .i64 (i : Int)] w (.slice (some ⟨b, i * 64, none⟩) (n - i * 64) (n - i * 64)) := by
  unfold maxLen at hm
  have h1 : (n : Int) ≤ (cap : Int) := by omega
  have h2 : (cap : Int) ≤ 9223372036854775807 := by omega
  have h3 : (i : Int) * 64 < (n : Int) := by omega
  have h3' : (n : Int) ≤ (i : Int) * 64 + 64 := by omega
  have h4 : (i : Int) ≤ 100000 := by omega
  have h5 : (0 : Int) ≤ (i : Int) := by omega
  have h6 : (0 : Int) ≤ (n : Int) := by omega
  have h7 : (n : Int) ≤ 1000000 := by omega
  go_enter Try.func42, Try.ntmps42
  go_wp2_with fail
  · go_ret
    exact ⟨rfl, rfl⟩
  · go_ret
    have e2 : ((i : Int) * 64 + 64).toNat = n := by omega
    exact ⟨by rw [e2]; rfl, rfl⟩
set_option maxRecDepth 100000 in
theorem cut_mid (w : World) (b cap n i : Nat) (hc : n ≤ cap) (hm : cap ≤ maxLen) (hn : n ≤ 1000000) (hi : i ≤ 100000) (h : i * 64 + 64 < n) : Says 42 #[.slice (some ⟨b, 0, none⟩) n cap, .int .i64 (i : Int)] w (.slice (some ⟨b, i * 64, none⟩) 64 64) := by
  unfold maxLen at hm
  have h1 : (n : Int) ≤ (cap : Int) := by omega
  have h2 : (cap : Int) ≤ 9223372036854775807 := by omega
  have h3 : (i : Int) * 64 + 64 < (n : Int) := by omega
  have h4 : (i : Int) ≤ 100000 := by omega
  have h5 : (0 : Int) ≤ (i : Int) := by omega
  have h6 : (0 : Int) ≤ (n : Int) := by omega
  have h7 : (n : Int) ≤ 1000000 := by omega
  go_enter Try.func42, Try.ntmps42
  go_wp2_with fail
  go_ret
  have e : i * 64 + 64 - i * 64 = 64 := by omega
  exact ⟨by rw [e]; rfl, rfl⟩
/-- A sector's bytes. -/
def sec (l : List UInt8) (i : Nat) : List UInt8 := (l.drop (i * 64)).take 64
theorem sec_len (l : List UInt8) (i : Nat) : (sec l i).length ≤ 64 := by unfold sec; simp; omega
/-- cut, as a value: where it lies. -/
def cutV (b n i : Nat) : Value := if n ≤ i * 64 then .slice (some ⟨b, 0, none⟩) 0 0 else .slice (some ⟨b, i * 64, none⟩) (min 64 (n - i * 64)) (min 64 (n - i * 64))
theorem cut_some (w : World) (b cap n i : Nat) (hc : n ≤ cap) (hm : cap ≤ maxLen) (hn : n ≤ 1000000) (hi : i ≤ 100000) : Says 42 #[.slice (some ⟨b, 0, none⟩) n cap, .int .i64 (i : Int)] w (cutV b n i) := by
  unfold cutV
  by_cases h : n ≤ i * 64
  · rw [if_pos h]
    exact cut_out w b cap n i hc hm hn hi h
  · rw [if_neg h]
    by_cases h' : n ≤ i * 64 + 64
    · rw [show min 64 (n - i * 64) = n - i * 64 by omega]
      exact cut_in w b cap n i hc hm hn hi (by omega) h'
    · rw [show min 64 (n - i * 64) = 64 by omega]
      exact cut_mid w b cap n i hc hm hn hi (by omega)
theorem cutV_read {n0 : Nat} {w : World} {b cap : Nat} {l : List UInt8} (i : Nat) (h : OwnF n0 w (.slice (some ⟨b, 0, none⟩) l.length cap) l) : RdIn w.heap.size w (cutV b l.length i) (sec l i) := by
  rcases h.form with ⟨-, h2⟩ | ⟨b', cap', h1, -, h3, -, -, h5⟩
  · cases h2
  injection h1 with h1 _ _
  injection h1 with h1
  injection h1 with h1 _ _
  subst h1
  unfold cutV
  by_cases h : l.length ≤ i * 64
  · rw [if_pos h]
    refine .inl ⟨?_, .inr ⟨_, _, rfl⟩⟩
    unfold sec
    rw [List.drop_eq_nil_of_le h]
    rfl
  · rw [if_neg h]
    have hl : (sec l i).length = min 64 (l.length - i * 64) := by unfold sec; rw [List.length_take, List.length_drop]
    refine .inr ⟨b, i * 64, min 64 (l.length - i * 64), by rw [hl], h3, fun j hj => ?_⟩
    have e := h5 (i * 64 + j) (by omega)
    rw [Nat.zero_add] at e
    rw [e]
    have e2 : (sec l i)[j] = l[i * 64 + j]'(by omega) := by simp [sec]
    rw [e2]
/-- cut of a file's bytes, whatever they are. -/
theorem cut_any {n0 : Nat} {w : World} {v : Value} {l : List UInt8} (i : Nat) (h : OwnF n0 w v l) (hl : l.length ≤ 1000000) (hi : i ≤ 100000) : ∃ v', Says 42 #[v, .int .i64 (i : Int)] w v' ∧ RdIn w.heap.size w v' (sec l i) := by
  rcases h.form with ⟨rfl, rfl⟩ | ⟨b, cap, rfl, -, -, h4, h5, -⟩
  · exact ⟨_, cut_nil w i hi, .inl ⟨by simp [sec], .inl rfl⟩⟩
  · exact ⟨_, cut_some w b cap l.length i h4 h5 hl hi, cutV_read i h⟩
end Go.Proofs.Ytnmeehhjfcciiaa
