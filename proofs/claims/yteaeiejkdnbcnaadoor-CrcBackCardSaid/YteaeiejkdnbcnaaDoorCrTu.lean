/-
  Contract of the law CrcBursts' own turned, and of its piece.
-/
import Derived.Test.YteaeiejkdnbcnaaDoorCrH
import Derived.Test.YteaeiejkdnbcnaaDoorCrX
namespace Go.Proofs.YteaeiejkdnbcnaaDoor
open Go Go.RowKit

/-- Which bits are turned: those of x, from bit a on, the first k of them. -/
def winK (a : Nat) (x : Reg) (k i : Nat) : Bool := decide (a ≤ i) && decide (i < a + k) && x.getLsbD (i - a)
/-- Bytes c are bytes l with those bits turned. -/
def TurnB (l c : List UInt8) (f : Nat → Bool) : Prop := l.length = c.length ∧ ∀ j (h : j < l.length) (h' : j < c.length), ∀ t, t < 8 → c[j].toNat.testBit t = (l[j].toNat.testBit t ^^ f (8 * j + t))
theorem win_step (a : Nat) (x : Reg) (k i : Nat) : winK a x (k + 1) i = (winK a x k i ^^ (decide (i = a + k) && x.getLsbD k)) := by
  unfold winK
  rcases Nat.lt_trichotomy i (a + k) with h | h | h
  · rw [decide_eq_true (show i < a + (k + 1) by omega), decide_eq_true h, decide_eq_false (show ¬ i = a + k by omega)]; simp
  · rw [h, decide_eq_true (show a ≤ a + k by omega), decide_eq_true (show a + k < a + (k + 1) by omega), decide_eq_false (show ¬ a + k < a + k by omega), decide_eq_true rfl, Nat.add_sub_cancel_left]; simp
  · rw [decide_eq_false (show ¬ i < a + (k + 1) by omega), decide_eq_false (show ¬ i < a + k by omega), decide_eq_false (show ¬ i = a + k by omega)]; simp
theorem turn_start (l : List UInt8) (a : Nat) (x : Reg) : TurnB l l (winK a x 0) := by
  refine ⟨rfl, fun j h h' t ht => ?_⟩
  have : winK a x 0 (8 * j + t) = false := by
    unfold winK
    by_cases h : a ≤ 8 * j + t
    · rw [decide_eq_false (show ¬ 8 * j + t < a + 0 by omega)]; simp
    · rw [decide_eq_false h]; simp
  rw [this, Bool.xor_false]
theorem turn_same {l c : List UInt8} {a : Nat} {x : Reg} {k : Nat} (h : TurnB l c (winK a x k)) (hb : x.getLsbD k = false) : TurnB l c (winK a x (k + 1)) := by
  refine ⟨h.1, fun j h1 h2 t ht => ?_⟩
  rw [win_step, hb, Bool.and_false, Bool.xor_false]
  exact h.2 j h1 h2 t ht
theorem turn_set {l c : List UInt8} {a : Nat} {x : Reg} {k : Nat} (h : TurnB l c (winK a x k)) (hb : x.getLsbD k = true) (J M : Nat) (hJ : J = (a + k) / 8) (hM : M = (a + k) % 8) (hj : J < c.length) :
    TurnB l (c.set J (c[J] ^^^ UInt8.ofNat (2 ^ M))) (winK a x (k + 1)) := by
  refine ⟨by rw [List.length_set]; exact h.1, fun j h1 h2 t ht => ?_⟩
  have h3 : j < c.length := by rw [← h.1]; exact h1
  rw [win_step, hb, Bool.and_true, ← Bool.xor_assoc, ← h.2 j h1 h3 t ht]
  by_cases hjJ : J = j
  · subst hjJ
    rw [List.getElem_set_self, UInt8.toNat_xor, Nat.testBit_xor]
    congr 1
    have hM8 : M < 8 := by omega
    rw [UInt8.toNat_ofNat', Nat.testBit_mod_two_pow, decide_eq_true ht, Bool.true_and, Nat.testBit_two_pow]
    exact decide_eq_decide.2 (by omega)
  · rw [List.getElem_set_ne hjJ, decide_eq_false (by omega), Bool.xor_false]
theorem turn_end {l c : List UInt8} {a : Nat} {x : Reg} {k : Nat} (h : TurnB l c (winK a x k)) (hk : k ≤ 32) (he : k = 32 ∨ 8 * l.length ≤ a + k) : TurnB l c (winK a x 32) := by
  refine ⟨h.1, fun j h1 h2 t ht => ?_⟩
  rw [h.2 j h1 h2 t ht]
  congr 1
  unfold winK
  rcases he with rfl | he
  · rfl
  · rw [decide_eq_true (show 8 * j + t < a + k by omega), decide_eq_true (show 8 * j + t < a + 32 by omega)]
theorem win_some {a : Nat} {x : Reg} {k : Nat} (hk : k < 32) (hb : x.getLsbD k = true) : winK a x 32 (a + k) = true := by
  unfold winK
  rw [decide_eq_true (show a ≤ a + k by omega), decide_eq_true (show a + k < a + 32 by omega), Nat.add_sub_cancel_left, hb]; rfl
theorem turn_val (c : UInt8) (M : Nat) (hM : M < 8) : bits .xor .u8 (c.toNat : Int) (2 ^ M % 256) = ((c ^^^ UInt8.ofNat (2 ^ M)).toNat : Int) := by
  have hp : (2 : Nat) ^ M < 256 := by
    have : (2 : Nat) ^ M ≤ 2 ^ 7 := Nat.pow_le_pow_right (by decide) (by omega)
    omega
  have e0 : (2 : Int) ^ M = ((2 ^ M : Nat) : Int) := by rw [Int.natCast_pow]; rfl
  have e : (2 : Int) ^ M % 256 = ((2 ^ M : Nat) : Int) := by
    rw [e0]
    exact Int.emod_eq_of_lt (Int.natCast_nonneg _) (Int.ofNat_lt.2 hp)
  rw [e, u8_xor_nat _ _ c.toNat_lt hp, UInt8.toNat_xor, UInt8.toNat_ofNat', Nat.mod_eq_of_lt hp]
theorem shr_bit (x : Reg) (k : Nat) : bits .and .u32 (rg x / 2 ^ k) 1 = if x.getLsbD k then 1 else 0 := by
  have e : rg x / 2 ^ k = rg (x >>> k) := by
    unfold rg
    rw [BitVec.toNat_ushiftRight, Nat.shiftRight_eq_div_pow, Int.natCast_ediv, Int.natCast_pow]
    rfl
  rw [e]
  obtain ⟨b, hb, he⟩ := bit_reg (x >>> k)
  rw [hb, he, BitVec.getLsbD_ushiftRight, Nat.add_zero]
def TurnEnd (l : List UInt8) (a : Nat) (x : Reg) (w : World) (e : Ending) (w' : World) : Prop :=
  ∃ v c sm, e = .returned (.tuple #[v, .bool sm]) ∧ OwnB w.heap.size w' v c ∧ Below w.heap.size w w' ∧ TurnB l c (winK a x 32) ∧ (sm = true → ∃ i, i < 8 * l.length ∧ winK a x 32 i = true)
/-- A store into a row of the call's own. -/
theorem OwnB.store {B : Nat} {w : World} {g n cap : Nat} {c : List UInt8} (h : OwnB B w (.slice (some ⟨g, 0, none⟩) n cap) c) (j : Nat) (b : UInt8) (u : Int) (hu : u = (b.toNat : Int)) : OwnB B (w.setCell ⟨g, j, none⟩ (.int .u8 u)) (.slice (some ⟨g, 0, none⟩) n cap) (c.set j b) := by
  subst hu
  obtain ⟨h1, h2⟩ := h
  refine ⟨by rw [bytesV_len, List.length_set, Nat.mul_one], .inr ?_⟩
  rcases h2 with ⟨e, -⟩ | ⟨g', cap', cur, e, hB, hg, hc, hm, hs, ht⟩
  · simp at e
  · injection e with e1 e2 e3
    injection e1 with e1
    injection e1 with e1
    subst e1 e2 e3
    refine ⟨g, cap, cur.setIfInBounds j (.int .u8 (b.toNat : Int)), by rw [List.length_set], hB, heap_setCell_same w g j cur _ _ hg, by rw [List.length_set]; exact hc, hm, by rw [Array.size_setIfInBounds]; exact hs, ?_⟩
    rw [Array.toList_setIfInBounds, List.length_set, List.take_set, ht]
    unfold bytesV
    rw [List.map_set]
theorem OwnB.row {B : Nat} {w : World} {v : Value} {c : List UInt8} (h : OwnB B w v c) (hc : 0 < c.length) : ∃ g cap, v = .slice (some ⟨g, 0, none⟩) c.length cap ∧ B ≤ g ∧ c.length ≤ cap := by
  rcases h.2 with ⟨rfl, e⟩ | ⟨g, cap, cur, rfl, hB, hg, hcc, -⟩
  · omega
  · exact ⟨g, cap, rfl, hB, hcc⟩
theorem OwnB.at_ {B : Nat} {w : World} {g n cap : Nat} {c : List UInt8} (h : OwnB B w (.slice (some ⟨g, 0, none⟩) n cap) c) (j : Nat) (hj : j < c.length) : w.cell? ⟨g, j, none⟩ = some (.int .u8 (c[j].toNat : Int)) ∧ w.frozen? ⟨g, j, none⟩ = false := by
  rcases h.2 with ⟨e, -⟩ | ⟨g', cap', cur, e, hB, hg, hc, hm, hs, ht⟩
  · simp at e
  · injection e with e1 e2 e3
    injection e1 with e1
    injection e1 with e1
    subst e1 e2 e3
    refine ⟨?_, frozen_of_row w g j _ _ hg⟩
    rw [cell_of_row w g j _ _ (0, 0) hg, ← Array.getElem?_toList]
    have h1 : (cur.toList.take (c.length * 1))[j]? = some (.int .u8 (c[j].toNat : Int)) := by rw [ht]; simp [bytesV, hj]
    rwa [List.getElem?_take_of_lt (by omega)] at h1
set_option maxHeartbeats 1000000 in
set_option maxRecDepth 100000 in
theorem turned_any (v : Value) (l : List UInt8) (at_ : Nat) (x : Reg) (w : World) (h : BytIn w.heap.size w v l) (h0 : 0 < l.length) (hl : l.length ≤ 2000000) (hat : at_ < 18446744073709551616) :
    Calls Tryd.prog 31 #[v, .int .u64 (at_ : Nat), regV x] w (TurnEnd l (at_ % (8 * l.length)) x w) := by
  obtain ⟨p, d, rfl⟩ := h.shape
  have H := Lib.hid h
  have HO : Hid (OwnB w.heap.size (w.alloc (.cells #[] 5)) (.slice (some ⟨w.heap.size, 0, none⟩) 0 0) []) := Lib.hid (OwnB.lit w.heap.size w #[] [] 0 (Nat.le_refl _) rfl (by decide) rfl)
  have HW : Hid (Below w.heap.size w (w.alloc (.cells #[] 5))) := Lib.hid ((Below.refl _ _).alloc (Nat.le_refl _) _)
  have HI := Lib.hid (H.out.below HW.out)
  have HR := Lib.hid (show ([] : List UInt8).length + l.length ≤ 100000000000000 by rw [List.length_nil]; omega)
  have g1 : (0 : Int) < (l.length : Int) := by omega
  have g2 : (l.length : Int) ≤ 2000000 := by omega
  obtain ⟨a, ha⟩ : ∃ a, a = at_ % (8 * l.length) := ⟨_, rfl⟩
  have ha2 : a < 8 * l.length := by rw [ha]; exact Nat.mod_lt _ (by omega)
  have hw9 : wrap64 ((at_ : Int) % (8 * (l.length : Int))) = (a : Int) := by
    have e : (at_ : Int) % (8 * (l.length : Int)) = (a : Int) := by rw [ha]; push_cast; rfl
    rw [e]; unfold wrap64; omega
  rw [← ha]
  have HA := Lib.hid ha
  clear h ha
  go_enter Tryd.func31, Tryd.ntmps31
  go_wp2_with (at_builtin; refine wpList_app rfl (.tmp 12) (.tmp 13) rfl w.heap.size w.heap.size w _ _ [] l rfl rfl HO.out HI.out HR.out HW.out (Nat.le_refl _) ?_; intro z1 w1 ho1 hb1; have HO1 := Lib.hid ho1; have HB1 := Lib.hid hb1; clear ho1 hb1)
  obtain ⟨g, cap, rfl, hgB, hcap⟩ := HO1.out.row h0
  rw [List.nil_append] at HO1 hcap ⊢
  rw [hw9]
  clear hw9
  go_loopw [10, 11] (fun s i wr => ∃ k : Nat, k ≤ 32 ∧ i = .int .i64 k ∧ ∃ (c : List UInt8) (sm : Bool), s = .bool sm ∧ Hid (OwnB w.heap.size wr (.slice (some ⟨g, 0, none⟩) l.length cap) c ∧ Below w.heap.size w wr ∧ TurnB l c (winK a x k) ∧ (sm = true → ∃ i, i < 8 * l.length ∧ winK a x 32 i = true))) (fun _ i _ => 32 - (intOf i).toNat)
  case atStart => exact ⟨0, by decide, rfl, l, false, rfl, Lib.hid ⟨HO1.out, HB1.out, turn_start l a x, fun h => by cases h⟩⟩
  case round =>
    obtain ⟨k, hk, rfl, c, sm, rfl, HR⟩ := hrel
    by_cases hin : k < 32 ∧ a + k < 8 * l.length
    · obtain ⟨hk32, hak⟩ := hin
      have p1 : (k : Int) < 32 := by omega
      have p2 : (a : Int) + (k : Int) < 8 * (l.length : Int) := by omega
      have p3 : (0 : Int) ≤ (a : Int) + (k : Int) := by omega
      obtain ⟨J, hJ, HJ⟩ : ∃ J : Nat, ((a : Int) + (k : Int)) / 8 = (J : Int) ∧ Hid (J = (a + k) / 8) := ⟨(a + k) / 8, by omega, Lib.hid rfl⟩
      obtain ⟨M, hM, HM⟩ : ∃ M : Nat, ((a : Int) + (k : Int)) % 8 = (M : Int) ∧ Hid (M = (a + k) % 8) := ⟨(a + k) % 8, by omega, Lib.hid rfl⟩
      have hcl : c.length = l.length := HR.out.2.2.1.1.symm
      have hJl : J < c.length := by rw [HJ.out]; omega
      have p4 : (J : Int) < (l.length : Int) := by omega
      obtain ⟨k1, k2⟩ := HR.out.1.at_ J hJl
      obtain ⟨cj, HCj⟩ : ∃ cj, Hid (cj = c[J]) := ⟨_, Lib.hid rfl⟩
      rw [← HCj.out] at k1
      cases hb : x.getLsbD k
      · have hbit : bits .and .u32 (rg x / 2 ^ k) 1 = 0 := by rw [shr_bit, hb]; rfl
        have HN := Lib.hid (turn_same HR.out.2.2.1 hb)
        clear hb
        go_wp2_with fail
        go_roundw
        case rel => exact ⟨k + 1, by omega, by go_num, c, sm, rfl, Lib.hid ⟨HR.out.1, HR.out.2.1, HN.out, HR.out.2.2.2⟩⟩
        case measure => simp [intOf]; omega
      · have hbit : bits .and .u32 (rg x / 2 ^ k) 1 = 1 := by rw [shr_bit, hb]; rfl
        have HN := Lib.hid (turn_set HR.out.2.2.1 hb J M HJ.out HM.out hJl)
        rw [← HCj.out] at HN
        have HV := Lib.hid (turn_val cj M (by rw [HM.out]; omega))
        have HO2 := Lib.hid (HR.out.1.store J _ _ HV.out)
        have HB2 := Lib.hid (HR.out.2.1.setCell (p := ⟨g, J, none⟩) hgB (.int .u8 (bits BinOp.xor IntKind.u8 (cj.toNat : Int) (2 ^ M % 256))))
        have HS := Lib.hid (win_some (a := a) hk32 hb)
        clear hb
        go_wp2_with fail
        go_roundw
        case rel => exact ⟨k + 1, by omega, by go_num, _, true, rfl, Lib.hid ⟨HO2.out, HB2.out, HN.out, fun _ => ⟨a + k, hak, HS.out⟩⟩⟩
        case measure => simp [intOf]; omega
    · have HT := Lib.hid (turn_end HR.out.2.2.1 hk (by omega))
      have HE : Hid (TurnEnd l a x w (.returned (.tuple #[.slice (some ⟨g, 0, none⟩) l.length cap, .bool sm])) wr) := Lib.hid ⟨_, c, sm, rfl, HR.out.1, HR.out.2.1, HT.out, HR.out.2.2.2⟩
      by_cases hk32 : k < 32
      · have p1 : (k : Int) < 32 := by omega
        have p2 : 8 * (l.length : Int) ≤ (a : Int) + (k : Int) := by omega
        clear hin
        go_wp2_with fail
        go_ret2
        exact HE.out
      · obtain rfl : k = 32 := by omega
        clear hin
        go_wp2_with fail
        go_ret2
        exact HE.out
/-- What the law's piece answers: the same piece, not more than 3000 bytes of it. -/
def PieceEnd (n₀ : Nat) (k : UInt8) (l : List UInt8) (w : World) (e : Ending) (w' : World) : Prop :=
  ∃ s, e = .returned (.agg #[.int .u8 (k.toNat : Int), s]) ∧ ByC n₀ w' s (l.take 3000) ∧ Below w.heap.size w w'
set_option maxHeartbeats 1000000 in
set_option maxRecDepth 100000 in
theorem piece_any {n₀ : Nat} (k : UInt8) (s : Value) (l : List UInt8) (w : World) (h : ByC n₀ w s l) (hn₀ : n₀ ≤ w.heap.size) :
    Calls Tryd.prog 19 #[.agg #[.int .u8 (k.toNat : Int), s]] w (PieceEnd n₀ k l w) := by
  obtain ⟨hb, p, c, rfl, hlc, hcm⟩ := h
  obtain ⟨wb, hwb⟩ : ∃ wb, wb = (w.alloc (.cells #[.int .u8 (k.toNat : Int), .slice p l.length c] 35)).alloc (.cells #[.int .u8 0, .slice none 0 0] 35) := ⟨_, rfl⟩
  have HB := Lib.hid (show Below w.heap.size w wb by rw [hwb]; exact ((Below.refl _ _).alloc (Nat.le_refl _) _).alloc (by simp) _)
  have HS := Lib.hid (show wb.heap.size = w.heap.size + 1 + 1 by rw [hwb]; simp)
  have HC := Lib.hid (cut_any (n₀ := n₀) (.slice p l.length c) l wb ⟨hb.below (HB.out.mono hn₀), p, c, rfl, hlc, hcm⟩)
  obtain ⟨N, hN⟩ : ∃ N, N = w.heap.size := ⟨_, rfl⟩
  have h1 := heap_alloc_new (w.alloc (.cells #[.int .u8 (k.toNat : Int), .slice p l.length c] 35)) (.cells #[.int .u8 0, .slice none 0 0] 35)
  rw [size_one, ← hwb, ← hN] at h1
  have h2 : wb.heap[N]? = some (.cells #[.int .u8 (k.toNat : Int), .slice p l.length c] 35 (0, 0)) := by
    rw [hwb, hN]
    exact (heap_alloc_old _ _ (by simp)).trans (heap_alloc_new w _)
  go_enter Tryd.func19, Tryd.ntmps19
  go_wp2_with fail
  rw [← hwb, ← hN]
  refine HC.out.mono ?_
  rintro e w' ⟨u, rfl, hu, rfl⟩
  obtain ⟨pu, cu, eu, -⟩ := hu.2
  subst eu
  obtain ⟨n, hn⟩ : ∃ n, n = (l.take 3000).length := ⟨_, rfl⟩
  rw [← hn] at hu ⊢
  have HU := Lib.hid hu
  have c0 := cell_of_row wb N 0 _ _ (0, 0) h2
  have c1 := cell_of_row wb N 1 _ _ (0, 0) h2
  have f1 := frozen_of_row wb N 1 _ _ h2
  have h3 := heap_setCell_same wb N 1 _ _ (.slice pu n cu) h2
  have d0 := cell_of_row _ N 0 _ _ (0, 0) h3
  have d1 := cell_of_row _ N 1 _ _ (0, 0) h3
  have hP : PcAt (wb.setCell ⟨N, 1, none⟩ (.slice pu n cu)) (N + 1) := (heap_setCell_other wb ⟨N, 1, none⟩ (N + 1) _ (by simp)).trans h1
  obtain ⟨m0, m1⟩ := hP.set (k.toNat : Int) (.slice pu n cu)
  obtain ⟨⟨g0, g1⟩, ⟨f2, f3⟩, -⟩ := hP.facts
  have HN := Lib.hid hN
  have hz : N + 1 < wb.heap.size := (Array.getElem?_eq_some_iff.1 h1).1
  simp at d0 d1
  have HBF := Lib.hid ((((Below.refl w.heap.size wb).setCell (p := ⟨N, 1, none⟩) (Nat.le_of_eq hN.symm) (.slice pu n cu)).setCell (p := ⟨N + 1, 0, none⟩) (by show w.heap.size ≤ N + 1; omega) (.int .u8 (k.toNat : Int))).setCell (p := ⟨N + 1, 1, none⟩) (by show w.heap.size ≤ N + 1; omega) (.slice pu n cu))
  clear hwb hN hu hn h1 h2 h3 hP
  go_wp2_with fail
  refine bodyPost_ret (v := .agg #[.int .u8 (k.toNat : Int), .slice pu n cu]) ?ra ?rd ?_
  case ra => simp [results, Tryd.results19, go_sem, m0, m1]
  case rd => rfl
  exact ⟨_, rfl, HU.out.below (HBF.out.mono hn₀), HB.out.trans HBF.out⟩
end Go.Proofs.YteaeiejkdnbcnaaDoor
