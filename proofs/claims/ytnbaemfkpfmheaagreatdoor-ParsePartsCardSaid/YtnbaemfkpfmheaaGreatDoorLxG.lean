/-
  Contract of the iterator of lex.tokens in a range over it.
-/
import Derived.Test.YtnbaemfkpfmheaaGreatDoorLxW
namespace Go.Proofs.YtnbaemfkpfmheaaGreatDoor
open Go Go.RowKit Go.Shelf

attribute [local go_sem] Oper.semAt_some

theorem yieldNe (l : Nat) (W : World) : (binOp .neq 144 (.func (.yield l) #[] #[]) .nilFunc).run Tryz.prog W = .ok (.bool true) W := by kernel_rfl
/-- The place behind the gaps. -/
def gapTo (s : ByteArray) (p : Nat) : Nat := p + skC false (s.data.toList.drop p)
theorem gapTo_le {s : ByteArray} {p : Nat} (h : p ≤ s.size) : gapTo s p ≤ s.size := by
  unfold gapTo
  have := skC_le false (s.data.toList.drop p)
  rw [List.length_drop, ← Lib.size_eq] at this
  omega
theorem lexS_to (s : ByteArray) (p : Nat) : lexS valL (s.data.toList.drop p) p = lexG valL (s.data.toList.drop (gapTo s p)) (gapTo s p) := by
  unfold lexS gapTo
  rw [List.drop_drop]
theorem lex_step {s : ByteArray} {p : Nat} (hp : p < s.size) {x : Wd} {b : Bool} (h : TkAns (s.data.toList.drop p) p x b) :
    x.pos = p ∧ ((b = true ∧ 1 ≤ x.text.length ∧ p + x.text.length ≤ s.size ∧ lexG valL (s.data.toList.drop p) p = (x :: (lexG valL (s.data.toList.drop (gapTo s (p + x.text.length))) (gapTo s (p + x.text.length))).1, (lexG valL (s.data.toList.drop (gapTo s (p + x.text.length))) (gapTo s (p + x.text.length))).2)) ∨
      (b = false ∧ lexG valL (s.data.toList.drop p) p = ([], some p))) := by
  obtain ⟨h1, h⟩ := h
  refine ⟨h1, ?_⟩
  obtain ⟨c, r, hcr⟩ : ∃ c r, s.data.toList.drop p = c :: r := ⟨_, _, lx_at s p hp⟩
  have hl : r.length + 1 = s.size - p := by
    have := congrArg List.length hcr
    rw [List.length_drop, ← Lib.size_eq, List.length_cons] at this
    omega
  rcases h with ⟨k, n, v, ht, rfl, rfl⟩ | ⟨ht, rfl⟩
  · left
    rw [hcr] at ht
    obtain ⟨n1, n2, -⟩ := tok_len ht
    have hn : ((c :: r).take n).length = n := by rw [List.length_take, List.length_cons]; omega
    rw [hcr]
    simp only [hn]
    refine ⟨trivial, n1, by omega, ?_⟩
    rw [lexG_tok ht, ← lexS_to, ← List.drop_drop, hcr]
  · right
    rw [hcr] at ht
    refine ⟨rfl, ?_⟩
    rw [hcr, lexG_bad ht]
theorem lex_end {s : ByteArray} {p : Nat} (h : s.size ≤ p) : lexG valL (s.data.toList.drop p) p = ([], none) := by
  rw [lx_end s p h, lexG_nil]
set_option maxRecDepth 100000 in
set_option maxHeartbeats 4000000 in
theorem tokens1_in (f : Nat) (hf : 2 ≤ f) (l bs : Nat) (s : ByteArray) (hm : s.size ≤ 1000000) (J : List Wd × Option Nat → World → Prop) (Jx : Nat → World → Prop)
    (hB : ∀ D A B, J D A → Below A.heap.size A B → J D B) (hG : ∀ D A, J D A → Glob A) (hs : ∀ D A, J D A → A.heap[bs]? = some (.cells #[.string s] 9 (0, 0)))
    (hY1 : ∀ x D A W k, J (x :: D.1, D.2) A → Below A.heap.size A W → A.heap.size ≤ k → k < W.heap.size → YieldAt Fence.wide (f - 1) Tryz.prog l #[wordV x, .bool true] W fun e W' => e = .returned (.bool true) ∧ J D W' ∧ W'.heap[k]? = W.heap[k]?)
    (hY2 : ∀ x A W, J ([], some x.pos) A → Below A.heap.size A W → YieldAt Fence.wide (f - 1) Tryz.prog l #[wordV x, .bool false] W fun e W' => e = .returned (.bool false) ∧ Jx x.pos W')
    (W : World) (h0 : J (lexS valL s.data.toList 0) W) :
    CallsIn Fence.wide f Tryz.prog 92 #[.func (.yield l) #[] #[], .pointer (some ⟨bs, 0, none⟩)] W fun e W' => (∃ v, e = .returned v) ∧ (J ([], none) W' ∨ ∃ n, (lexS valL s.data.toList 0).2 = some n ∧ Jx n W') := by
  obtain ⟨D0, hD0⟩ : ∃ D0, D0 = lexS valL s.data.toList 0 := ⟨_, rfl⟩
  have HD0 := Lib.hid (show D0 = lexG valL (s.data.toList.drop (gapTo s 0)) (gapTo s 0) by rw [hD0, ← lexS_to]; rfl)
  rw [← hD0] at h0 ⊢
  have HB := Lib.hid hB
  have HG := Lib.hid hG
  have HS := Lib.hid hs
  have HY1 := Lib.hid hY1
  have HY2 := Lib.hid hY2
  have HJ0 := Lib.hid h0
  have HK0 := Lib.hid (skip_any s 0 W hm (Nat.zero_le _))
  have q := yieldNe l
  have h1 : 1 ≤ f := by omega
  have h2 : 1 ≤ f - 1 := by omega
  have g1 : gapTo s 0 ≤ s.size := gapTo_le (Nat.zero_le _)
  have HM := Lib.hid hm
  have k0 := cell_of_row W bs 0 _ _ (0, 0) (hs _ _ h0)
  clear hB hG hs hY1 hY2 h0 hD0
  refine callsIn_of_wp Tryz.func92 rfl trivial ?_ rfl
  simp only [Tryz.ntmps92, List.size_toArray, List.length_cons, List.length_nil, Nat.reduceAdd, Nat.reduceSub, Array.replicate_succ, Array.replicate_zero, List.push_toArray, List.append_toArray, List.nil_append, List.cons_append]
  gi_wp2_with fail
  refine ⟨trivial, (callsIn_wide.2 HK0.out).mono ?_⟩
  rintro e w1 ⟨rfl, rfl⟩
  gi_wp2_with fail
  gi_loopw [3] (fun v wr => ∃ (p : Nat) (D : List Wd × Option Nat), p ≤ s.size ∧ v = .int .i64 p ∧ Hid (D = lexG valL (s.data.toList.drop p) p) ∧ Hid (D.2 = D0.2) ∧ Hid (J D wr)) (fun v _ => s.size - (intOf v).toNat)
  case atStart => exact ⟨gapTo s 0, D0, g1, by simp [gapTo], HD0, Lib.hid rfl, HJ0⟩
  case round =>
    clear k0 HK0 HJ0 g1
    obtain ⟨p, D, hp, rfl, HD, HE, HJ⟩ := hrel
    have k0 := cell_of_row wr bs 0 _ _ (0, 0) (HS.out _ _ HJ.out)
    by_cases hlt : p < s.size
    · have hlt' : (p : Int) < (s.size : Int) := by omega
      have HT := Lib.hid (token_any s p wr HM.out hlt (HG.out _ _ HJ.out))
      gi_wp2_with fail
      refine ⟨trivial, (callsIn_wide.2 HT.out).mono ?_⟩
      rintro e w1 ⟨⟨x, b, hx, rfl⟩, hb1⟩
      have HB1 := Lib.hid hb1
      obtain ⟨hpos, hx⟩ := lex_step hlt hx
      have hb2 : Below wr.heap.size wr (w1.alloc (.cells #[.int .i64 x.kind, .string ⟨x.text.toArray⟩, .int .i64 x.val.1, .int .i64 x.val.2.1, .string x.val.2.2, .int .i64 x.pos] 107)) := hb1.alloc hb1.size _
      have hnew := heap_alloc_new w1 (.cells #[.int .i64 x.kind, .string ⟨x.text.toArray⟩, .int .i64 x.val.1, .int .i64 x.val.2.1, .string x.val.2.2, .int .i64 x.pos] 107)
      have hsz : (w1.alloc (.cells #[.int .i64 x.kind, .string ⟨x.text.toArray⟩, .int .i64 x.val.1, .int .i64 x.val.2.1, .string x.val.2.2, .int .i64 x.pos] 107)).heap.size = w1.heap.size + 1 := by simp
      rcases hx with ⟨rfl, hx1, hx2, hx3⟩ | ⟨rfl, hx3⟩
      · obtain ⟨fn, tmps, assign, body, hy, hR⟩ := HY1.out x _ wr _ w1.heap.size (by rw [← hx3, ← HD.out]; exact HJ.out) hb2 hb1.size (by rw [hsz]; omega)
        have HX1 := Lib.hid hx1
        have HX2 := Lib.hid hx2
        have HX3 := Lib.hid hx3
        have HNew := Lib.hid hnew
        clear hx1 hx2 hx3 hpos hnew hsz hb2 hb1 HT
        unfold wordV at hy
        unfold wordV
        gi_wp2_with fail
        refine hR.mono ?_
        rintro e W3 ⟨rfl, hJ3, hk3⟩
        have HJ3 := Lib.hid hJ3
        have hw3 := hk3.trans HNew.out
        have c0 := cell_of_row W3 _ 1 _ _ (0, 0) hw3
        have c1 := cell_of_row W3 bs 0 _ _ (0, 0) (HS.out _ _ hJ3)
        have hwr : wrap64 ((p : Int) + (x.text.length : Int)) = ((p + x.text.length : Nat) : Int) := by
          have := HX2.out
          have := HM.out
          rw [IntWalk.wrap64_in _ (by omega)]
          omega
        have HK := Lib.hid (skip_any s (p + x.text.length) W3 HM.out HX2.out)
        clear hJ3 hk3 hw3
        gi_wp2_with fail
        refine ⟨trivial, (callsIn_wide.2 HK.out).mono ?_⟩
        rintro e w4 ⟨rfl, rfl⟩
        gi_wp2_with fail
        go_roundw
        case rel => exact ⟨gapTo s (p + x.text.length), _, gapTo_le HX2.out, rfl, Lib.hid rfl, Lib.hid (by rw [← HE.out, HD.out, HX3.out]), HJ3⟩
        case measure =>
          have h5 := gapTo_le HX2.out
          have h6 := HX1.out
          have h7 := HX2.out
          have h8 : p + x.text.length ≤ gapTo s (p + x.text.length) := by unfold gapTo; omega
          have e9 : intOf (.int .i64 ((p : Int) + (x.text.length : Int) + (skC false (s.data.toList.drop (p + x.text.length)) : Int))) = (gapTo s (p + x.text.length) : Int) := by
            show (p : Int) + (x.text.length : Int) + (skC false (s.data.toList.drop (p + x.text.length)) : Int) = ((p + x.text.length + skC false (s.data.toList.drop (p + x.text.length)) : Nat) : Int)
            omega
          have e8 : intOf (.int .i64 (p : Int)) = (p : Int) := rfl
          rw [e9, e8]
          omega
      · obtain ⟨fn, tmps, assign, body, hy, hR⟩ := HY2.out x wr _ (by rw [hpos, ← hx3, ← HD.out]; exact HJ.out) hb2
        have HX3 := Lib.hid (show D0.2 = some x.pos by rw [← HE.out, HD.out, hx3, hpos])
        clear hx3 hpos hnew hsz hb2 hb1 HT
        unfold wordV at hy
        unfold wordV
        gi_wp2_with fail
        refine hR.mono ?_
        rintro e W3 ⟨rfl, hJ3⟩
        have HJ3 := Lib.hid hJ3
        clear hJ3
        gi_wp2_with fail
        refine bodyPost_ret (results_none rfl _ _ _) rfl ?_
        exact ⟨⟨_, rfl⟩, .inr ⟨_, HX3.out, HJ3.out⟩⟩
    · have hge : ¬ (p : Int) < (s.size : Int) := by omega
      have HX3 := Lib.hid (HD.out.trans (lex_end (s := s) (p := p) (by omega)))
      gi_wp2_with fail
      go_end0
      exact ⟨⟨_, rfl⟩, .inl (by rw [← HX3.out]; exact HJ.out)⟩
end Go.Proofs.YtnbaemfkpfmheaaGreatDoor
