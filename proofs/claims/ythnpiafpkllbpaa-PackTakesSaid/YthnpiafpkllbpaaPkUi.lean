/-
  Contracts of the document's own reading of an int, a byte string and a value.
-/
import Derived.Test.YthnpiafpkllbpaaPkU
import Derived.Test.YthnpiafpkllbpaaPkBP
namespace Go.Proofs.Ythnpiafpkllbpaa
open Go Go.RowKit

/-- What the document's reading of an int answers. -/
def RIntEnd (l : List UInt8) (o : Option (Int × List UInt8)) (w : World) (e : Ending) (w' : World) : Prop :=
  w = w' ∧ ((∃ x r, o = some (x, r) ∧ e = .returned (.tuple #[.int .i64 x, .int .i64 ((l.length : Int) - (r.length : Int)), .int .i64 0])) ∨ (o = none ∧ e = .returned (.tuple #[.int .i64 0, .int .i64 0, .int .i64 30])))
theorem int_end {l r : List UInt8} {o : Option (Int × List UInt8)} {w : World} {x y : Int} {n : Value} (ho : o = some (x, r)) (hn : n = .int .i64 ((l.length : Int) - (r.length : Int))) (hy : y = x) : RIntEnd l o w (.returned (.tuple #[.int .i64 y, n, .int .i64 0])) w := by
  subst hn hy
  exact ⟨rfl, .inl ⟨_, r, ho, rfl⟩⟩
set_option maxHeartbeats 1000000 in
set_option maxRecDepth 100000 in
theorem rtakeInt_any (v : Value) (l : List UInt8) (n₀ : Nat) (w : World) (h : BytIn n₀ w v l) (hl : l.length ≤ 3000) : Calls Try.prog 9 #[v] w (RIntEnd l (intQ l) w) := by
  have HT := Lib.hid (rtakeNum_any v l n₀ w h hl)
  clear h
  go_enter Try.func9, Try.ntmps9
  go_wp2_with fail
  refine HT.out.mono ?_
  rintro e w1 ⟨rfl, ⟨y, r, ho, rfl⟩ | ⟨ho, rfl⟩⟩
  · have hy := (numP_all ho).2
    have HO : Hid (intQ l = some (unzig y, r)) := Lib.hid (by unfold intQ; rw [ho]; rfl)
    have hy2 : (y : Int) ≤ 18446744073709551615 := by omega
    have hy0 : (0 : Int) ≤ (y : Int) := by omega
    obtain ⟨n, hn⟩ : ∃ n, n = Value.int .i64 ((l.length : Int) - (r.length : Int)) := ⟨_, rfl⟩
    rw [← hn]
    have HN := Lib.hid hn
    clear ho hy hn
    cases hm : ((y : Int) % 2 == 1) with
    | true =>
      have HU : Hid (-((y : Int) / 2) - 1 = unzig y) := Lib.hid (by
        have h1 : (y : Int) % 2 = 1 := by simpa using hm
        unfold unzig; rw [if_pos (by omega)]; omega)
      go_wp2_with fail
      go_ret3
      exact int_end HO.out HN.out HU.out
    | false =>
      have HU : Hid ((y : Int) / 2 = unzig y) := Lib.hid (by
        have h1 : ¬ (y : Int) % 2 = 1 := by simpa using hm
        unfold unzig; rw [if_neg (by omega)]; omega)
      go_wp2_with fail
      go_ret3
      exact int_end HO.out HN.out HU.out
  · have HO : Hid (intQ l = none) := Lib.hid (by unfold intQ; rw [ho]; rfl)
    clear ho
    go_wp2_with fail
    go_ret3
    exact ⟨rfl, .inr ⟨HO.out, rfl⟩⟩

/-- A piece of a byte slice. -/
theorem piece_in {n₀ : Nat} {w : World} {a : Addr} {cap : Nat} {l : List UInt8} (h : BytIn n₀ w (.slice (some a) l.length cap) l) {K y c : Nat} (hK : K + y ≤ l.length) : BytIn n₀ w (.slice (some (a.add K)) y c) ((l.drop K).take y) := by
  have hlen : ((l.drop K).take y).length = y := by rw [List.length_take, List.length_drop]; omega
  rcases h with ⟨e, -⟩ | ⟨a', c', e, h⟩
  · simp at e
  · injection e with e1 _ e3
    injection e1 with e1
    subst e1 e3
    refine .inr ⟨_, c, by rw [hlen], fun j hj => ?_⟩
    have hj' : K + j < l.length := by rw [hlen] at hj; omega
    obtain ⟨h1, h2⟩ := h (K + j) hj'
    refine ⟨by rw [add_block]; exact h1, ?_⟩
    have hadd : (a.add K).add j = a.add (K + j) := by
      unfold Addr.add
      by_cases hi : K = 0 <;> by_cases hj : j = 0 <;> simp [hi, hj, Nat.add_assoc]
    rw [hadd, List.getElem_take, List.getElem_drop]
    exact h2
theorem nothing_in {n₀ : Nat} {w : World} {a : Addr} {c : Nat} : BytIn n₀ w (.slice (some a) 0 c) [] := .inr ⟨a, c, rfl, fun j hj => by simp at hj⟩
theorem textM_at {m : Int} {l r : List UInt8} {y : Nat} (h : numP l 0 0 = some (y, r)) (hm : 0 ≤ m) : textM m l = if (y : Int) ≤ m ∧ y ≤ 1048576 ∧ y ≤ r.length then some (r.take y, r.drop y) else none := by
  rw [textM_of hm]
  unfold textQ
  rw [h]
  simp only
  by_cases h1 : (y : Int) ≤ m ∧ y ≤ 1048576 ∧ y ≤ r.length
  · rw [if_pos h1, if_pos (by omega)]
  · rw [if_neg h1, if_neg (by omega)]
theorem new_in' {n₀ : Nat} {w : World} {v : Value} {l : List UInt8} (h : BytIn n₀ w v l) (hn : n₀ ≤ w.heap.size) (o : Obj) : BytIn (w.heap.size + 1) (w.alloc o) v l := ((h.mono hn).below ((Below.refl _ _).alloc (Nat.le_refl _) _)).mono (Nat.le_succ _)
set_option maxHeartbeats 2000000 in
set_option maxRecDepth 100000 in
theorem rtakeText_any (v : Value) (l : List UInt8) (m : Int) (n₀ : Nat) (w : World) (h : BytIn n₀ w v l) (hn : n₀ ≤ w.heap.size) (hs : ∃ p cap, v = .slice p l.length cap ∧ l.length ≤ cap ∧ cap ≤ maxLen) (hl : l.length ≤ 3000) (hm : -9223372036854775808 ≤ m ∧ m ≤ 9223372036854775807) :
    Calls Try.prog 11 #[v, .int .i64 m] w (TakenXEnd l (textM m l) w) := by
  have HT := Lib.hid (rtakeNum_any v l n₀ w h hl)
  have HB := Lib.hid h
  have hl' : (l.length : Int) ≤ 3000 := by omega
  obtain ⟨p, cap, rfl, s1, s2⟩ := hs
  unfold maxLen at s2
  have s1' : (l.length : Int) ≤ (cap : Int) := by omega
  have s2' : (cap : Int) ≤ 9223372036854775807 := by omega
  obtain ⟨m1, m2⟩ := hm
  clear h
  go_enter Try.func11, Try.ntmps11
  go_wp2_with fail
  refine HT.out.mono ?_
  rintro e w1 ⟨rfl, ⟨y, r, ho, rfl⟩ | ⟨ho, rfl⟩⟩
  rotate_left
  · have HO : Hid (textM m l = none) := Lib.hid (by unfold textM textQ; rw [ho]; split <;> rfl)
    clear ho
    go_wp2_with fail
    go_ret3
    exact ⟨Below.refl _ _, .inr ⟨HO.out, rfl⟩⟩
  obtain ⟨hll, hy⟩ := numP_all ho
  obtain ⟨K, hK⟩ : ∃ K, K = (numL y).length := ⟨_, rfl⟩
  have hlr : l.length = K + r.length := by rw [hll, List.length_append, hK]
  have hdr : l.drop K = r := by rw [hll, hK, List.drop_left]
  have hy2 : (y : Int) ≤ 18446744073709551615 := by omega
  have hy0 : (0 : Int) ≤ (y : Int) := by omega
  rw [show (l.length : Int) - (r.length : Int) = (K : Int) by omega]
  have hK0 : (0 : Int) ≤ (K : Int) := by omega
  have hKl : (K : Int) ≤ (l.length : Int) := by omega
  have HLR := Lib.hid hlr
  have HDR := Lib.hid hdr
  have HP := Lib.hid ho
  clear ho hll hdr hK hy hlr
  rcases Int.lt_or_le m 0 with h0 | h0
  · have HO : Hid (textM m l = none) := Lib.hid (textM_neg h0 l)
    go_wp2_with fail
    go_ret3
    exact ⟨Below.refl _ _, .inr ⟨HO.out, rfl⟩⟩
  have HM := Lib.hid (textM_at HP.out h0)
  by_cases y1 : (y : Int) ≤ m
  case neg =>
    have HO : Hid (textM m l = none) := Lib.hid (by rw [HM.out, if_neg (fun h => y1 h.1)])
    have y1' : m < (y : Int) := by omega
    clear y1
    go_wp2_with fail
    go_ret3
    exact ⟨Below.refl _ _, .inr ⟨HO.out, rfl⟩⟩
  by_cases y2 : y ≤ 1048576
  case neg =>
    have HO : Hid (textM m l = none) := Lib.hid (by rw [HM.out, if_neg (fun h => y2 h.2.1)])
    have y2' : 1048576 < (y : Int) := by omega
    clear y2
    go_wp2_with fail
    go_ret3
    exact ⟨Below.refl _ _, .inr ⟨HO.out, rfl⟩⟩
  by_cases y3 : y ≤ r.length
  case neg =>
    have HO : Hid (textM m l = none) := Lib.hid (by rw [HM.out, if_neg (fun h => y3 h.2.2)])
    have y2' : (y : Int) ≤ 1048576 := by omega
    have y3' : (l.length : Int) - (K : Int) < (y : Int) := by have := HLR.out; omega
    clear y2 y3
    go_wp2_with fail
    go_ret3
    exact ⟨Below.refl _ _, .inr ⟨HO.out, rfl⟩⟩
  have HO : Hid (textM m l = some (r.take y, r.drop y)) := Lib.hid (by rw [HM.out, if_pos ⟨y1, y2, y3⟩])
  have y2' : (y : Int) ≤ 1048576 := by omega
  have y3' : (y : Int) ≤ (l.length : Int) - (K : Int) := by have := HLR.out; omega
  have HR : Hid ((l.length : Int) - ((r.drop y).length : Int) = (K : Int) + (y : Int)) := Lib.hid (by have := HLR.out; rw [List.length_drop]; omega)
  have HKy : Hid (K + y ≤ l.length) := Lib.hid (by have := HLR.out; omega)
  have HL3 : Hid ((r.take y).length ≤ 3000) := Lib.hid (by have := HLR.out; rw [List.length_take]; omega)
  have hKl2 : K ≤ l.length := by omega
  rcases p with _ | a
  · exfalso
    rcases HB.out with ⟨e, e2⟩ | ⟨a, c, e, -⟩
    · have hh := HP.out
      rw [e2] at hh
      cases hh
    · cases e
  have L1 := Lib.hid (OwnB.lit w.heap.size w #[] [] 0 (Nat.le_refl _) rfl (by decide) rfl)
  have B1 : Hid (Below w.heap.size w (w.alloc (.cells #[] 5))) := Lib.hid ((Below.refl _ _).alloc (Nat.le_refl _) _)
  have hcK : (K : Int) ≤ (cap : Int) := by omega
  have hK2 : (K : Int) + (y : Int) ≤ (cap : Int) := by omega
  have hsum : (K : Int) ≤ (K : Int) + (y : Int) := by omega
  by_cases hck : cap = K
  · have hy00 : y = 0 := by omega
    have N1 := Lib.hid (new_in' (n₀ := n₀) (w := w) (v := .slice (some a) (K + y - K) 0) (l := r.take y) (by rw [hy00, Nat.add_zero, Nat.sub_self]; exact nothing_in) hn (.cells #[] 5))
    clear y2 y3 hy00
    go_wp2_with (at_builtin; refine wpList_app rfl (.tmp 41) (.tmp 48) rfl w.heap.size (w.heap.size + 1) w _ _ [] (r.take y) rfl rfl L1.out N1.out (by rw [List.length_nil, Nat.zero_add]; have := HL3.out; omega) B1.out (Nat.le_refl _) ?_; intro v3 w3 ho hb)
    go_ret3
    exact ⟨hb, .inl ⟨r.take y, r.drop y, v3, HO.out, by rw [HR.out]; rfl, ho⟩⟩
  · have N1 := Lib.hid (new_in' (n₀ := n₀) (w := w) (v := .slice (some (a.add K)) (K + y - K) (cap - K)) (l := r.take y) (by rw [show K + y - K = y by omega]; have := piece_in (c := cap - K) HB.out HKy.out; rw [HDR.out] at this; exact this) hn (.cells #[] 5))
    clear y2 y3
    go_wp2_with (at_builtin; refine wpList_app rfl (.tmp 41) (.tmp 48) rfl w.heap.size (w.heap.size + 1) w _ _ [] (r.take y) rfl rfl L1.out N1.out (by rw [List.length_nil, Nat.zero_add]; have := HL3.out; omega) B1.out (Nat.le_refl _) ?_; intro v3 w3 ho hb)
    go_ret3
    exact ⟨hb, .inl ⟨r.take y, r.drop y, v3, HO.out, by rw [HR.out]; rfl, ho⟩⟩
end Go.Proofs.Ythnpiafpkllbpaa
