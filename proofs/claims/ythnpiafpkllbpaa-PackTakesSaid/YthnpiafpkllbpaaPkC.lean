/-
  Contracts of the pack laws' own cut, short and begins, of the document's Is and Compare at tuples.
-/
import Derived.Test.YthnpiafpkllbpaaTupO
import Derived.Test.YthnpiafpkllbpaaPkT
namespace Go.Proofs.Ythnpiafpkllbpaa
open Go Go.RowKit

/-- At most 300 bytes are looked at. -/
def cutB (s : ByteArray) : ByteArray := if s.size ≤ 300 then s else s.extract 0 300
theorem cutB_le {s : ByteArray} (h : s.size ≤ 300) : cutB s = s := by unfold cutB; rw [if_pos h]
theorem cutB_gt {s : ByteArray} (h : 300 < s.size) : cutB s = s.extract 0 300 := by unfold cutB; rw [if_neg (by omega)]
def cutV (x : V3) : V3 := ⟨x.k, x.n, cutB x.s⟩
/-- What the laws look at of a tuple. -/
def cutT (T : List V3) : List V3 := (T.take 9).map cutV
theorem cutT_len (T : List V3) : (cutT T).length ≤ 9 := by unfold cutT; rw [List.length_map]; exact List.length_take_le _ _
theorem cutT_I {T : List V3} (h : AllI T) : AllI (cutT T) := by
  intro x hx
  obtain ⟨y, hy, rfl⟩ := List.mem_map.1 hx
  exact h y (List.mem_of_mem_take hy)
theorem cut_step {T : List V3} {k : Nat} (hk : k < (T.take 9).length) (hk' : k < T.length) : ((T.take 9).take k).map cutV ++ [cutV T[k]] = ((T.take 9).take (k + 1)).map cutV := by
  rw [List.take_succ_eq_append_getElem hk, List.map_append]
  simp
/-- What cut answers: a tuple of the call's own. -/
def EndR (T : List V3) (w : World) (e : Ending) (w' : World) : Prop := ∃ v, e = .returned v ∧ OwnR w.heap.size w' v T ∧ Below w.heap.size w w'
theorem row_room (T : List V3) (k : Nat) : (((T.take 9).take k).map cutV).length ≤ 1000000 := by
  rw [List.length_map]
  have h1 := List.length_take_le k (T.take 9)
  have h2 := List.length_take_le' k (T.take 9)
  have h3 := List.length_take_le 9 T
  omega
theorem lit_in2 (w : World) (o : Obj) (x : V3) : TupIn (w.heap.size + 2) ((w.alloc o).alloc (.cells #[.int .i64 x.k, .int .i64 x.n, .string x.s] 78)) (.slice (some ⟨w.heap.size + 1, 0, none⟩) 1 1) [x] := by
  have h := lit_in (w.alloc o) x
  rw [show (w.alloc o).heap.size = w.heap.size + 1 by simp] at h
  exact h
theorem below_2b {w wr : World} (h : Below w.heap.size w wr) (o o' : Obj) : Below w.heap.size w ((wr.alloc o).alloc o') := (h.alloc h.size o).alloc (by have := h.size; simp; omega) o'

set_option maxHeartbeats 2000000 in
set_option maxRecDepth 100000 in
theorem cut_short (p : Option Addr) (cap : Nat) (T : List V3) (w : World) (hc : T.length ≤ cap) (hm : cap ≤ maxLen) (hin : T = [] ∨ ∃ b off, p = some ⟨b, off, none⟩ ∧ b < w.heap.size ∧ CellsAt w b off T) (hz : ∀ x ∈ T, x.s.size ≤ maxLen) (hsh : T.length ≤ 9) :
    Calls Try.prog 18 #[.slice p T.length cap] w (EndR (cutT T) w) := by
  have HIN := Lib.hid hin
  have HZ := Lib.hid hz
  have HM := Lib.hid hm
  clear hin hz
  unfold maxLen at hm
  have hl9 : (T.length : Int) ≤ 9 := by omega
  have HL9 : Hid ((T.take 9).length = T.length) := Lib.hid (by rw [List.length_take]; omega)
  go_enter Try.func18, Try.ntmps18
  go_wp2_with fail
  go_loopw [3, 4, 5] (fun v i _ wr => ∃ k : Nat, k ≤ (T.take 9).length ∧ i = .int .i64 k ∧ Hid (OwnR w.heap.size wr v (((T.take 9).take k).map cutV) ∧ Below w.heap.size w wr)) (fun _ i _ _ => (T.take 9).length - (intOf i).toNat)
  case atStart => exact ⟨0, Nat.zero_le _, rfl, Lib.hid ⟨OwnR.empty _ _ (Nat.le_refl _), below_box _ _⟩⟩
  case round =>
    obtain ⟨k, hk, rfl, H⟩ := hrel
    have h0 : (0 : Int) ≤ (k : Int) := by omega
    by_cases hlt : k < (T.take 9).length
    · have hltT : k < T.length := by rw [HL9.out] at hlt; omega
      have hlt' : (k : Int) < (T.length : Int) := by rw [HL9.out] at hlt; omega
      have hltT' : (k : Int) < (T.length : Int) := by omega
      rcases HIN.out with rfl | ⟨b, off, rfl, hb, hc0⟩
      · simp at hltT
      have hbs := H.out.2.size
      have hb' : b < wr.heap.size := by omega
      obtain ⟨x0, x1, x2⟩ := (hc0.below H.out.2 hb) k hltT
      clear hc0
      have HS := Lib.hid (cut_step hlt hltT)
      have HSZ := Lib.hid (HZ.out _ (List.getElem_mem hltT))
      have HR := Lib.hid (row_room T k)
      by_cases h3 : 300 < T[k].s.size
      · have h3' : (300 : Int) < (T[k].s.size : Int) := by omega
        have HC : Hid (cutV T[k] = ⟨T[k].k, T[k].n, T[k].s.extract 0 300⟩) := Lib.hid (by unfold cutV; rw [cutB_gt h3])
        have hs63 : (T[k].s.size : Int) ≤ 9223372036854775807 := by have := HSZ.out; unfold maxLen at this; omega
        go_wp2_with (at_builtin; refine wpList_appT rfl (.tmp 30) (.tmp 32) rfl w.heap.size (wr.heap.size + 2) w _ _ (((T.take 9).take k).map cutV) [⟨T[k].k, T[k].n, T[k].s.extract 0 300⟩] rfl rfl ((H.out.1.alloc _).alloc _) (lit_in2 _ _ _) HR.out (below_2b H.out.2 _ _) (Nat.le_refl _) ?_; intro v' w1 ho hb1)
        go_roundw
        case rel => exact ⟨k + 1, by omega, by go_num, Lib.hid ⟨by rw [← HS.out, HC.out]; exact ho, hb1⟩⟩
        case measure => simp [intOf]; omega
      · have h3' : (T[k].s.size : Int) ≤ 300 := by omega
        have HC : Hid (cutV T[k] = ⟨T[k].k, T[k].n, T[k].s⟩) := Lib.hid (by unfold cutV; rw [cutB_le (by omega)])
        go_wp2_with (at_builtin; refine wpList_appT rfl (.tmp 30) (.tmp 32) rfl w.heap.size (wr.heap.size + 2) w _ _ (((T.take 9).take k).map cutV) [⟨T[k].k, T[k].n, T[k].s⟩] rfl rfl ((H.out.1.alloc _).alloc _) (lit_in2 _ _ _) HR.out (below_2b H.out.2 _ _) (Nat.le_refl _) ?_; intro v' w1 ho hb1)
        go_roundw
        case rel => exact ⟨k + 1, by omega, by go_num, Lib.hid ⟨by rw [← HS.out, HC.out]; exact ho, hb1⟩⟩
        case measure => simp [intOf]; omega
    · have hge : (T.length : Int) ≤ (k : Int) := by rw [HL9.out] at hlt; omega
      have HE : Hid (((T.take 9).take k).map cutV = cutT T) := Lib.hid (by rw [List.take_of_length_le (by omega)]; rfl)
      go_wp2_with fail
      go_ret
      exact ⟨_, rfl, by rw [← HE.out]; exact H.out.1, H.out.2⟩

set_option maxHeartbeats 2000000 in
set_option maxRecDepth 100000 in
theorem cut_long (p : Option Addr) (cap : Nat) (T : List V3) (w : World) (hc : T.length ≤ cap) (hm : cap ≤ maxLen) (hin : T = [] ∨ ∃ b off, p = some ⟨b, off, none⟩ ∧ b < w.heap.size ∧ CellsAt w b off T) (hz : ∀ x ∈ T, x.s.size ≤ maxLen) (hsh : 9 < T.length) :
    Calls Try.prog 18 #[.slice p T.length cap] w (EndR (cutT T) w) := by
  have HIN := Lib.hid hin
  have HZ := Lib.hid hz
  have HM := Lib.hid hm
  clear hin hz
  unfold maxLen at hm
  have hl9 : (9 : Int) < (T.length : Int) := by omega
  have hc9 : (9 : Int) ≤ (cap : Int) := by omega
  have HL9 : Hid ((T.take 9).length = 9) := Lib.hid (by rw [List.length_take]; omega)
  go_enter Try.func18, Try.ntmps18
  go_wp2_with fail
  go_loopw [3, 4, 5] (fun v i _ wr => ∃ k : Nat, k ≤ (T.take 9).length ∧ i = .int .i64 k ∧ Hid (OwnR w.heap.size wr v (((T.take 9).take k).map cutV) ∧ Below w.heap.size w wr)) (fun _ i _ _ => (T.take 9).length - (intOf i).toNat)
  case atStart => exact ⟨0, Nat.zero_le _, rfl, Lib.hid ⟨OwnR.empty _ _ (Nat.le_refl _), below_box _ _⟩⟩
  case round =>
    obtain ⟨k, hk, rfl, H⟩ := hrel
    have h0 : (0 : Int) ≤ (k : Int) := by omega
    by_cases hlt : k < (T.take 9).length
    · have hltT : k < T.length := by rw [HL9.out] at hlt; omega
      have hlt' : (k : Int) < 9 := by rw [HL9.out] at hlt; omega
      have hltT' : (k : Int) < (T.length : Int) := by omega
      rcases HIN.out with rfl | ⟨b, off, rfl, hb, hc0⟩
      · simp at hltT
      have hbs := H.out.2.size
      have hb' : b < wr.heap.size := by omega
      obtain ⟨x0, x1, x2⟩ := (hc0.below H.out.2 hb) k hltT
      clear hc0
      have HS := Lib.hid (cut_step hlt hltT)
      have HSZ := Lib.hid (HZ.out _ (List.getElem_mem hltT))
      have HR := Lib.hid (row_room T k)
      by_cases h3 : 300 < T[k].s.size
      · have h3' : (300 : Int) < (T[k].s.size : Int) := by omega
        have HC : Hid (cutV T[k] = ⟨T[k].k, T[k].n, T[k].s.extract 0 300⟩) := Lib.hid (by unfold cutV; rw [cutB_gt h3])
        have hs63 : (T[k].s.size : Int) ≤ 9223372036854775807 := by have := HSZ.out; unfold maxLen at this; omega
        go_wp2_with (at_builtin; refine wpList_appT rfl (.tmp 30) (.tmp 32) rfl w.heap.size (wr.heap.size + 2) w _ _ (((T.take 9).take k).map cutV) [⟨T[k].k, T[k].n, T[k].s.extract 0 300⟩] rfl rfl ((H.out.1.alloc _).alloc _) (lit_in2 _ _ _) HR.out (below_2b H.out.2 _ _) (Nat.le_refl _) ?_; intro v' w1 ho hb1)
        go_roundw
        case rel => exact ⟨k + 1, by omega, by go_num, Lib.hid ⟨by rw [← HS.out, HC.out]; exact ho, hb1⟩⟩
        case measure => simp [intOf]; omega
      · have h3' : (T[k].s.size : Int) ≤ 300 := by omega
        have HC : Hid (cutV T[k] = ⟨T[k].k, T[k].n, T[k].s⟩) := Lib.hid (by unfold cutV; rw [cutB_le (by omega)])
        go_wp2_with (at_builtin; refine wpList_appT rfl (.tmp 30) (.tmp 32) rfl w.heap.size (wr.heap.size + 2) w _ _ (((T.take 9).take k).map cutV) [⟨T[k].k, T[k].n, T[k].s⟩] rfl rfl ((H.out.1.alloc _).alloc _) (lit_in2 _ _ _) HR.out (below_2b H.out.2 _ _) (Nat.le_refl _) ?_; intro v' w1 ho hb1)
        go_roundw
        case rel => exact ⟨k + 1, by omega, by go_num, Lib.hid ⟨by rw [← HS.out, HC.out]; exact ho, hb1⟩⟩
        case measure => simp [intOf]; omega
    · have hge : 9 ≤ (k : Int) := by rw [HL9.out] at hlt; omega
      have HE : Hid (((T.take 9).take k).map cutV = cutT T) := Lib.hid (by rw [List.take_of_length_le (by omega)]; rfl)
      go_wp2_with fail
      go_ret
      exact ⟨_, rfl, by rw [← HE.out]; exact H.out.1, H.out.2⟩

theorem cut_any (p : Option Addr) (cap : Nat) (T : List V3) (w : World) (hc : T.length ≤ cap) (hm : cap ≤ maxLen) (hin : T = [] ∨ ∃ b off, p = some ⟨b, off, none⟩ ∧ b < w.heap.size ∧ CellsAt w b off T) (hz : ∀ x ∈ T, x.s.size ≤ maxLen) :
    Calls Try.prog 18 #[.slice p T.length cap] w (EndR (cutT T) w) := by
  rcases Nat.lt_or_ge 9 T.length with h | h
  · exact cut_long p cap T w hc hm hin hz h
  · exact cut_short p cap T w hc hm hin hz h
end Go.Proofs.Ythnpiafpkllbpaa
