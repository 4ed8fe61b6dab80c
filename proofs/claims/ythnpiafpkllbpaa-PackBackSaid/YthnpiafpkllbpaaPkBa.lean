/-
  The law PackBack's own walk.
-/
import Derived.Test.YthnpiafpkllbpaaPkBw
import Derived.Test.YthnpiafpkllbpaaPkBO
import Derived.Test.YthnpiafpkllbpaaPkR
import Derived.Test.YthnpiafpkllbpaaPkG
import Derived.BigQuiet
namespace Go.Proofs.Ythnpiafpkllbpaa
open Go Go.RowKit

theorem cut_arg (v : Value) (T : List V3) (w : World) (h : ArgT w v T) : Calls Try.prog 18 #[v] w (EndR (cutT T) w) := by
  obtain ⟨p, cap, rfl, h1, h2, h3, h4⟩ := h
  exact cut_any p cap T w h1 h2 h3 fun x hx => (h4 x hx).2
theorem fit_I {T : List V3} {w : World} {v : Value} (h : ArgT w v T) : AllI (cutT T) := by
  obtain ⟨_, _, -, -, -, -, h⟩ := h
  exact cutT_I fun x hx => (h x hx).1
theorem cutT_small (T : List V3) : (cutT T).length ≤ 1000000 := Nat.le_trans (cutT_len T) (by decide)
theorem text_room {s : List UInt8} (h : s.length ≤ 3000) : (textL s).length ≤ 4000000 := by
  unfold textL
  rw [List.length_append]
  have := numL_len10 (x := s.length) (by omega)
  omega
theorem tup_room {T : List V3} {n : Int} (h : OkT T) (hI : AllI T) (hn : -9223372036854775808 ≤ n ∧ n ≤ 9223372036854775807) : (tupL T ++ intL n).length ≤ 4000000 := by
  have h1 := flat_len (f := oneL) (T := T) fun x hx => oneL_len (h.2 x hx) (hI x hx)
  have h3 := h.1
  have h4 : (intL n).length ≤ 10 := numL_len10 (zigN_fits hn)
  unfold tupL
  rw [List.length_append, List.length_cons]
  omega
/-- A block, whatever was made since. -/
theorem box_on {W W' : World} {cs : Array Value} {t : TypeId} {k : Nat} (h : W.heap[k]? = some (.cells cs t (0, 0))) (hb : Below W.heap.size W W') : W'.heap[k]? = some (.cells cs t (0, 0)) :=
  (hb.block k (Array.getElem?_eq_some_iff.1 h).1).trans h
theorem numL_room {x : Nat} (h : x < 18446744073709551616) : (numL x).length ≤ 10 := numL_len10 h
set_option maxHeartbeats 400000 in
theorem short_in (v : Value) (l : List UInt8) (n₀ : Nat) (w : World) (h : BytIn n₀ w v l) (hs : ∃ p cap, v = .slice p l.length cap ∧ l.length ≤ cap ∧ cap ≤ maxLen) :
    Calls Try.prog 5 #[v] w fun e w' => (∃ v', e = .returned v' ∧ BytIn n₀ w v' (shortL l)) ∧ w = w' := by
  obtain ⟨p, cap, rfl, h1, h2⟩ := hs
  have HB := Lib.hid h
  clear h
  unfold maxLen at h2
  have h1' : (l.length : Int) ≤ (cap : Int) := by omega
  have h2' : (cap : Int) ≤ 9223372036854775807 := by omega
  rcases Nat.lt_or_ge 3000 l.length with h | h
  · have h' : (3000 : Int) < (l.length : Int) := by omega
    have hc : (3000 : Int) ≤ (cap : Int) := by omega
    have HS : Hid (shortL l = l.take 3000) := Lib.hid (by unfold shortL; rw [if_neg (by omega)])
    go_enter Try.func5, Try.ntmps5
    go_wp2_with fail
    go_ret
    exact ⟨⟨_, rfl, by rw [HS.out]; exact HB.out.take 3000 (by omega) (by decide)⟩, rfl⟩
  · have h' : (l.length : Int) ≤ 3000 := by omega
    have HS : Hid (shortL l = l) := Lib.hid (by unfold shortL; rw [if_pos h])
    go_enter Try.func5, Try.ntmps5
    go_wp2_with fail
    go_ret
    exact ⟨⟨_, rfl, by rw [HS.out]; exact HB.out⟩, rfl⟩
/-- What stands while the law goes on: the old memory, the box of the counted tuple, the tuple, the two byte slices. -/
structure BackC (n₀ : Nat) (W0 : World) (v : Value) (A : List V3) (n : Int) (vb : Value) (s : List UInt8) (vm : Value) (m : List UInt8) (W : World) : Prop where
  low : Below n₀ W0 W
  box : W.heap[n₀]? = some (.cells #[v, .int .i64 n] 46 (0, 0))
  tup : TupIn W.heap.size W v A
  byt : BytIn n₀ W vb s
  more : BytIn n₀ W vm m
theorem BackC.lt {n₀ : Nat} {W0 : World} {v : Value} {A : List V3} {n : Int} {vb : Value} {s : List UInt8} {vm : Value} {m : List UInt8} {W : World} (h : BackC n₀ W0 v A n vb s vm m W) : n₀ < W.heap.size := (Array.getElem?_eq_some_iff.1 h.box).1
theorem BackC.on {n₀ : Nat} {W0 : World} {v : Value} {A : List V3} {n : Int} {vb : Value} {s : List UInt8} {vm : Value} {m : List UInt8} {W W' : World} (h : BackC n₀ W0 v A n vb s vm m W) (b : Below W.heap.size W W') : BackC n₀ W0 v A n vb s vm m W' :=
  have hl := h.lt
  have b' : Below n₀ W W' := b.mono (by omega)
  ⟨h.low.trans b', (b.block n₀ hl).trans h.box, (h.tup.below b).mono b.size, h.byt.below b', h.more.below b'⟩
theorem BackC.cells {n₀ : Nat} {W0 : World} {v : Value} {A : List V3} {n : Int} {vb : Value} {s : List UInt8} {vm : Value} {m : List UInt8} {W : World} (h : BackC n₀ W0 v A n vb s vm m W) : W.cell? ⟨n₀, 0, none⟩ = some v ∧ W.cell? ⟨n₀, 1, none⟩ = some (.int .i64 n) :=
  ⟨cell_of_row W _ 0 _ _ (0, 0) h.box, cell_of_row W _ 1 _ _ (0, 0) h.box⟩
theorem BackC.more' {n₀ : Nat} {W0 : World} {v : Value} {A : List V3} {n : Int} {vb : Value} {s : List UInt8} {vm : Value} {m : List UInt8} {W : World} (h : BackC n₀ W0 v A n vb s vm m W) : BytIn W.heap.size W vm m := h.more.mono (Nat.le_of_lt h.lt)
theorem back_start {w w1 : World} {c : Value} {n : Int} {p : Option Addr} {cap : Nat} {A : List V3} {vb : Value} {s : List UInt8} {vm : Value} {m : List UInt8} (hb : Below (w.alloc (.cells #[c, .int .i64 n] 46)).heap.size (w.alloc (.cells #[c, .int .i64 n] 46)) w1) (ho : OwnR (w.alloc (.cells #[c, .int .i64 n] 46)).heap.size w1 (.slice p A.length cap) A) (hA : A.length ≤ 1000000)
    (h1 : BytIn w.heap.size (w.alloc (.cells #[c, .int .i64 n] 46)) vb s) (h2 : BytIn w.heap.size (w.alloc (.cells #[c, .int .i64 n] 46)) vm m) :
    BackC w.heap.size (w.alloc (.cells #[c, .int .i64 n] 46)) (.slice p A.length cap) A n vb s vm m (w1.setCell ⟨w.heap.size, 0, none⟩ (.slice p A.length cap)) := by
  have b1 : Below w.heap.size (w.alloc (.cells #[c, .int .i64 n] 46)) w1 := hb.mono (by simp)
  have x1 : w1.heap[w.heap.size]? = some (.cells #[c, .int .i64 n] 46 (0, 0)) := (hb.block w.heap.size (by simp)).trans (heap_alloc_new w _)
  refine ⟨b1.setCell (Nat.le_refl _) _, heap_setCell_same w1 w.heap.size 0 _ _ _ x1, ?_, (h1.below b1).set (Nat.le_refl _) _, (h2.below b1).set (Nat.le_refl _) _⟩
  exact (ho.set (a := ⟨w.heap.size, 0, none⟩) (by simp) _).in_ hA

set_option maxHeartbeats 4000000 in
set_option maxRecDepth 100000 in
theorem back_any (x : Nat) (i : Int) (b : Value) (l1 : List UInt8) (c : Value) (T : List V3) (n : Int) (mv : Value) (l2 : List UInt8) (w : World) (hx : x < 18446744073709551616) (hi : -9223372036854775808 ≤ i ∧ i ≤ 9223372036854775807) (hb : ArgB w b l1) (hc : ArgT w c T) (hn : -9223372036854775808 ≤ n ∧ n ≤ 9223372036854775807) (hm : ArgB w mv l2) :
    Calls Try.prog 4 #[.int .u64 x, .int .i64 i, b, .agg #[c, .int .i64 n], mv] w fun e w' => e = .returned (.bool true) ∧ Below w.heap.size w w' := by
  have HX := Lib.hid hx
  have HI := Lib.hid hi
  have HNN := Lib.hid hn
  have I1 := Lib.hid (fit_I hc)
  have HB0 : Hid (Below w.heap.size w (w.alloc (.cells #[c, .int .i64 n] 46))) := Lib.hid (new_below _ _)
  have HB := Lib.hid (hb.1.below HB0.out)
  have HB2 := Lib.hid hb.2
  have HC := Lib.hid (hc.below HB0.out)
  have HMB := Lib.hid (hm.1.below HB0.out)
  have HM2 := Lib.hid hm.2
  clear hx hi hn hb hc hm
  go_enter Try.func4, Try.ntmps4
  go_wp2_with fail
  refine (short_in b l1 w.heap.size _ HB.out HB2.out).mono ?_
  rintro e w' ⟨⟨vb, rfl, hvb⟩, rfl⟩
  have HVB := Lib.hid hvb
  have HLB := Lib.hid (shortL_len l1)
  obtain ⟨s, hs⟩ : ∃ s, s = shortL l1 := ⟨_, rfl⟩
  rw [← hs] at HVB HLB
  clear hvb hs HB
  obtain ⟨pb, cb, rfl⟩ := HVB.out.shape
  go_wp2_with fail
  refine (short_in mv l2 w.heap.size _ HMB.out HM2.out).mono ?_
  rintro e w' ⟨⟨vm, rfl, hvm⟩, rfl⟩
  have HVM := Lib.hid hvm
  have HLM := Lib.hid (shortL_len l2)
  obtain ⟨m, hm⟩ : ∃ m, m = shortL l2 := ⟨_, rfl⟩
  rw [← hm] at HVM HLM
  clear hvm hm HMB
  go_wp2_with fail
  refine (cut_arg c T _ HC.out).mono ?_
  rintro e w1 ⟨vt, rfl, ho1, hb1⟩
  obtain ⟨A, hA⟩ : ∃ A, A = cutT T := ⟨_, rfl⟩
  have HAS : Hid (A.length ≤ 1000000) := Lib.hid (by rw [hA]; exact cutT_small T)
  rw [← hA] at ho1 I1
  clear hA
  obtain ⟨pt, ct, rfl, -, -⟩ := ho1.in_ HAS.out
  have C2 := Lib.hid (back_start hb1 ho1 HAS.out HVB.out HVM.out)
  have HX1 := Lib.hid ((hb1.block w.heap.size (by simp)).trans (heap_alloc_new w _))
  have c0 : w1.cell? ⟨w.heap.size, 0, none⟩ = some c := cell_of_row w1 _ 0 _ _ (0, 0) HX1.out
  have f0 : w1.frozen? ⟨w.heap.size, 0, none⟩ = false := frozen_of_row w1 _ 0 _ _ HX1.out
  clear ho1 hb1
  go_wp2_with fail
  obtain ⟨W2, hW2⟩ : ∃ W2, W2 = w1.setCell ⟨w.heap.size, 0, none⟩ (.slice pt A.length ct) := ⟨_, rfl⟩
  rw [← hW2] at C2 ⊢
  clear hW2 c0 f0 HX1 w1
  go_wp2_with fail
  refine (num_any x W2 HX.out).mono ?_
  rintro e w3 ⟨v3, rfl, o3, b3⟩
  have C3 := Lib.hid (C2.out.on b3)
  obtain ⟨N, hN⟩ : ∃ N, N = numL x := ⟨_, rfl⟩
  rw [← hN] at o3
  have HN := Lib.hid hN
  have R3 : Hid (N.length ≤ 4000000) := Lib.hid (by rw [hN]; exact Nat.le_trans (numL_room HX.out) (by decide))
  have O3 := Lib.hid o3.in_
  have OA3 := Lib.hid o3.arg
  obtain ⟨p3, c3, rfl⟩ := o3.in_.shape
  clear hN o3 b3
  have N3 := Lib.hid (new_in O3.out (.cells #[] 5))
  have L3 := Lib.hid (empty_own w3)
  have B3 := Lib.hid (new_below w3 (.cells #[] 5))
  go_wp2_with (first | (at_builtin; refine wpList_app rfl (.tmp 43) (.tmp 44) rfl w3.heap.size (w3.heap.size + 1) w3 _ _ [] N rfl rfl L3.out N3.out (by rw [List.length_nil, Nat.zero_add]; have := R3.out; omega) B3.out (Nat.le_refl _) ?_; intro va3 wa3 oa3 ba3; have OB3 := Lib.hid oa3; have BA3 := Lib.hid ba3; clear oa3 ba3) | (at_builtin; refine wpList_app rfl (.tmp 45) (.tmp 46) rfl w3.heap.size w3.heap.size w3 _ _ N m rfl rfl OB3.out (C3.out.more'.below BA3.out) (by have := R3.out; have := HLM.out; omega) BA3.out (Nat.le_refl _) ?_; intro vc3 wc3 oc3 bc3; have OC3 := Lib.hid oc3; have D3 := Lib.hid (C3.out.on bc3); clear oc3 bc3))
  refine (takeNum_back x N m _ _ HN.out HX.out OC3.out.arg).mono ?_
  rintro e x3 ⟨rfl, b⟩
  have E3 := Lib.hid (D3.out.on b)
  clear b L3 N3 B3 OB3 BA3 OC3 D3
  go_wp2_with fail
  refine (int_any i x3 HI.out).mono ?_
  rintro e w4 ⟨v4, rfl, o4, b4⟩
  have C4 := Lib.hid (E3.out.on b4)
  obtain ⟨M, hM⟩ : ∃ M, M = intL i := ⟨_, rfl⟩
  rw [← hM] at o4
  have HM := Lib.hid hM
  have R4 : Hid (M.length ≤ 4000000) := Lib.hid (by rw [hM]; exact Nat.le_trans (numL_room (zigN_fits HI.out)) (by decide))
  have O4 := Lib.hid o4.in_
  have OA4 := Lib.hid o4.arg
  obtain ⟨p4, c4, rfl⟩ := o4.in_.shape
  clear hM o4 b4
  have N4 := Lib.hid (new_in O4.out (.cells #[] 5))
  have L4 := Lib.hid (empty_own w4)
  have B4 := Lib.hid (new_below w4 (.cells #[] 5))
  go_wp2_with (first | (at_builtin; refine wpList_app rfl (.tmp 55) (.tmp 56) rfl w4.heap.size (w4.heap.size + 1) w4 _ _ [] M rfl rfl L4.out N4.out (by rw [List.length_nil, Nat.zero_add]; have := R4.out; omega) B4.out (Nat.le_refl _) ?_; intro va4 wa4 oa4 ba4; have OB4 := Lib.hid oa4; have BA4 := Lib.hid ba4; clear oa4 ba4) | (at_builtin; refine wpList_app rfl (.tmp 57) (.tmp 58) rfl w4.heap.size w4.heap.size w4 _ _ M m rfl rfl OB4.out (C4.out.more'.below BA4.out) (by have := R4.out; have := HLM.out; omega) BA4.out (Nat.le_refl _) ?_; intro vc4 wc4 oc4 bc4; have OC4 := Lib.hid oc4; have D4 := Lib.hid (C4.out.on bc4); clear oc4 bc4))
  refine (takeInt_back i M m _ _ HM.out HI.out OC4.out.arg).mono ?_
  rintro e x4 ⟨rfl, b⟩
  have E4 := Lib.hid (D4.out.on b)
  clear b L4 N4 B4 OB4 BA4 OC4 D4
  go_wp2_with fail
  refine (text_any _ s x4.heap.size x4 (E4.out.byt.mono (Nat.le_of_lt E4.out.lt)) (Nat.le_refl _) (Nat.le_trans HLB.out (by decide))).mono ?_
  rintro e w5 ⟨v5, rfl, o5, b5⟩
  have C5 := Lib.hid (E4.out.on b5)
  obtain ⟨P, hP⟩ : ∃ P, P = textL s := ⟨_, rfl⟩
  rw [← hP] at o5
  have HP := Lib.hid hP
  have R5 : Hid (P.length ≤ 4000000) := Lib.hid (by rw [hP]; exact text_room HLB.out)
  have O5 := Lib.hid o5.in_
  have OA5 := Lib.hid o5.arg
  obtain ⟨p5, c5, rfl⟩ := o5.in_.shape
  clear hP o5 b5
  have N5 := Lib.hid (new_in O5.out (.cells #[] 5))
  have L5 := Lib.hid (empty_own w5)
  have B5 := Lib.hid (new_below w5 (.cells #[] 5))
  go_wp2_with (first | (at_builtin; refine wpList_app rfl (.tmp 67) (.tmp 68) rfl w5.heap.size (w5.heap.size + 1) w5 _ _ [] P rfl rfl L5.out N5.out (by rw [List.length_nil, Nat.zero_add]; have := R5.out; omega) B5.out (Nat.le_refl _) ?_; intro va5 wa5 oa5 ba5; have OB5 := Lib.hid oa5; have BA5 := Lib.hid ba5; clear oa5 ba5) | (at_builtin; refine wpList_app rfl (.tmp 69) (.tmp 70) rfl w5.heap.size w5.heap.size w5 _ _ P m rfl rfl OB5.out (C5.out.more'.below BA5.out) (by have := R5.out; have := HLM.out; omega) BA5.out (Nat.le_refl _) ?_; intro vc5 wc5 oc5 bc5; have OC5 := Lib.hid oc5; have D5 := Lib.hid (C5.out.on bc5); clear oc5 bc5))
  refine (takeText_back s P m _ _ HP.out HLB.out OC5.out.arg).mono ?_
  rintro e x5 ⟨⟨vd, rfl, od⟩, b⟩
  have E5 := Lib.hid (D5.out.on b)
  have HVD := Lib.hid od.in_
  clear b od L5 N5 B5 OB5 BA5 OC5 D5
  have q1 := run_str x5 _ vd s HVD.out
  have q2 := run_str x5 _ _ s E5.out.byt
  obtain ⟨d0, d1⟩ := E5.out.cells
  go_wp2_with fail
  refine (counted_any _ A n x5.heap.size x5 E5.out.tup (Nat.le_refl _) I1.out HNN.out).mono ?_
  rintro e w6 ⟨b6, ⟨ok6, v6, rfl, o6⟩ | ⟨no6, rfl⟩⟩
  rotate_left
  · have C6 := Lib.hid (E5.out.on b6)
    have HNO := Lib.hid no6
    obtain ⟨c0, c1⟩ := C6.out.cells
    clear q1 q2 d0 d1 b6 no6
    go_wp2_with fail
    refine (ris_any _ A w6.heap.size w6 C6.out.tup (Nat.le_refl _)).mono ?_
    rintro e w7 ⟨⟨hok, -⟩ | ⟨-, rfl⟩, b7⟩
    · exact absurd hok HNO.out
    · have C7 := Lib.hid (C6.out.on b7)
      clear c0 c1 b7
      go_wp2_with fail
      refine (alive_true w7).mono ?_
      rintro e w8 ⟨rfl, b8⟩
      have HE := Lib.hid (HB0.out.trans (C7.out.on b8).low)
      clear b8
      go_wp2_with fail
      go_ret
      exact ⟨rfl, HE.out⟩
  have OK6 := Lib.hid ok6
  clear q1 q2 d0 d1
  replace o6 : OwnB x5.heap.size w6 v6 (tupL A ++ intL n) := o6
  have C6 := Lib.hid (E5.out.on b6)
  obtain ⟨K, hK⟩ : ∃ K, K = tupL A ++ intL n := ⟨_, rfl⟩
  rw [← hK] at o6
  have HK := Lib.hid hK
  have R6 : Hid (K.length ≤ 4000000) := Lib.hid (by rw [hK]; exact tup_room ok6 I1.out HNN.out)
  have O6 := Lib.hid o6.in_
  have OA6 := Lib.hid o6.arg
  obtain ⟨p6, c6, rfl⟩ := o6.in_.shape
  clear hK o6 b6
  have N6 := Lib.hid (new_in O6.out (.cells #[] 5))
  have L6 := Lib.hid (empty_own w6)
  have B6 := Lib.hid (new_below w6 (.cells #[] 5))
  go_wp2_with (first | (at_builtin; refine wpList_app rfl (.tmp 138) (.tmp 139) rfl w6.heap.size (w6.heap.size + 1) w6 _ _ [] K rfl rfl L6.out N6.out (by rw [List.length_nil, Nat.zero_add]; have := R6.out; omega) B6.out (Nat.le_refl _) ?_; intro va6 wa6 oa6 ba6; have OB6 := Lib.hid oa6; have BA6 := Lib.hid ba6; clear oa6 ba6) | (at_builtin; refine wpList_app rfl (.tmp 140) (.tmp 141) rfl w6.heap.size w6.heap.size w6 _ _ K m rfl rfl OB6.out (C6.out.more'.below BA6.out) (by have := R6.out; have := HLM.out; omega) BA6.out (Nat.le_refl _) ?_; intro vc6 wc6 oc6 bc6; have OC6 := Lib.hid oc6; have D6 := Lib.hid (C6.out.on bc6); clear oc6 bc6))
  refine (takeCnt_back A n K m _ _ HK.out OK6.out I1.out HNN.out OC6.out.arg).mono ?_
  rintro e x6 ⟨⟨vt, rfl, ht⟩, b⟩
  have E6 := Lib.hid (D6.out.on b)
  have HTT := Lib.hid ht
  obtain ⟨pt2, ct2, rfl, -, -⟩ := ht
  clear b L6 N6 B6 OB6 BA6 OC6 D6
  have C7 := Lib.hid (E6.out.on (new_below x6 (.cells #[.slice pt2 A.length ct2, .int .i64 n] 46)))
  have T7 := Lib.hid ((HTT.out.below (new_below x6 (.cells #[.slice pt2 A.length ct2, .int .i64 n] 46))).mono (Nat.le_of_lt (show x6.heap.size < (x6.alloc (.cells #[.slice pt2 A.length ct2, .int .i64 n] 46)).heap.size by simp)))
  have X7 := Lib.hid (heap_alloc_new x6 (.cells #[.slice pt2 A.length ct2, .int .i64 n] 46))
  obtain ⟨d0, d1⟩ := C7.out.cells
  clear ok6
  go_wp2_with fail
  obtain ⟨W7, hW7⟩ : ∃ W7, W7 = x6.alloc (.cells #[.slice pt2 A.length ct2, .int .i64 n] 46) := ⟨_, rfl⟩
  rw [← hW7] at C7 T7 X7 d0 d1 ⊢
  clear hW7
  refine (key_any _ A W7.heap.size W7 C7.out.tup (Nat.le_refl _) I1.out).mono ?_
  rintro e w8 ⟨b8, ⟨-, v8, rfl, o8⟩ | ⟨no8, -⟩⟩
  rotate_left
  · exact absurd OK6.out no8
  have C8 := Lib.hid (C7.out.on b8)
  have T8 := Lib.hid ((T7.out.below b8).mono b8.size)
  have X8 := Lib.hid (box_on X7.out b8)
  have O8 := Lib.hid o8.arg
  clear d0 d1 b8 o8
  go_wp2_with fail
  refine (fromKey_back A (keyT A) v8 w8 rfl OK6.out I1.out O8.out).mono ?_
  rintro e w9 ⟨⟨v9, rfl, t9⟩, b9⟩
  have C9 := Lib.hid (C8.out.on b9)
  have T9 := Lib.hid ((T8.out.below b9).mono b9.size)
  have X9 := Lib.hid (box_on X8.out b9)
  have U9 := Lib.hid t9
  clear b9 t9
  obtain ⟨d0, d1⟩ := C9.out.cells
  have z0 : w9.cell? ⟨x6.heap.size, 0, none⟩ = some (.slice pt2 A.length ct2) := cell_of_row w9 _ 0 _ _ (0, 0) X9.out
  have z1 : w9.cell? ⟨x6.heap.size, 1, none⟩ = some (.int .i64 n) := cell_of_row w9 _ 1 _ _ (0, 0) X9.out
  have S9 := Lib.hid (same_any _ _ A A w9.heap.size w9 T9.out C9.out.tup (Nat.le_refl _))
  rw [show (cmpT A A == 0) = true by rw [cmpT_self]; rfl] at S9
  go_wp2_with fail
  refine S9.out.mono ?_
  rintro e w10 ⟨rfl, g10⟩
  have C10 := Lib.hid (C9.out.on g10.below)
  have X10 := Lib.hid (box_on X9.out g10.below)
  have U10 := Lib.hid ((U9.out.below g10.below).mono g10.size)
  clear g10 d0 d1 z0 z1
  obtain ⟨d0, d1⟩ := C10.out.cells
  have z1 : w10.cell? ⟨x6.heap.size, 1, none⟩ = some (.int .i64 n) := cell_of_row w10 _ 1 _ _ (0, 0) X10.out
  have S10 := Lib.hid (same_any _ _ A A w10.heap.size w10 U10.out C10.out.tup (Nat.le_refl _))
  rw [show (cmpT A A == 0) = true by rw [cmpT_self]; rfl] at S10
  go_wp2_with fail
  refine S10.out.mono ?_
  rintro e w11 ⟨rfl, g11⟩
  have C11 := Lib.hid (C10.out.on g11.below)
  clear g11 d0 d1 z1
  go_wp2_with fail
  refine (alive_true w11).mono ?_
  rintro e w12 ⟨rfl, b12⟩
  have HE := Lib.hid (HB0.out.trans (C11.out.on b12).low)
  clear b12
  go_wp2_with fail
  go_ret
  exact ⟨rfl, HE.out⟩
end Go.Proofs.Ythnpiafpkllbpaa
