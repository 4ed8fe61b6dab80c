/-
  Contracts of pack's reading of a symbol's byte string and of a value.
  Contracts of pack.taken at numbers, and of pack.TakeNum.
  Contract of pack's reading of a tuple.
-/
import Derived.Test.YtdjhfcopnhcljaaGreatDoorW17
import Derived.Laws.MakeOwn
namespace Go.Proofs.YtdjhfcopnhcljaaGreatDoor
section
open Go Go.RowKit

set_option maxHeartbeats 2000000 in
set_option maxRecDepth 100000 in
theorem rdText_any (n₀ R : Nat) (l : List UInt8) (w : World) (h : RestAt n₀ w R l) : Calls Tryz.prog 195 #[.pointer (some ⟨R, 0, none⟩), .int .i64 256] w (ReadEnd (fun s w' v => BytIn n₀ w' v s) n₀ R (textQ l 256) w) := by
  have H := Lib.hid h
  clear h
  go_enter Tryz.func195, Tryz.ntmps195
  go_wp2_with fail
  refine (rdNum_any n₀ R l w H.out).mono ?_
  rintro e w1 ⟨hk, ⟨n, r, v, ho, rfl, rfl, hr⟩ | ⟨ho, rfl⟩⟩
  · have HK := Lib.hid hk
    have HR := Lib.hid hr
    have HO : Hid (textQ l 256 = if n ≤ 256 ∧ n ≤ r.length then some (r.take n, r.drop n) else none) := Lib.hid (by unfold textQ; rw [ho])
    clear hk hr ho
    by_cases hn : n ≤ 256
    · have hn' : (n : Int) ≤ 256 := by omega
      go_wp2_with fail
      refine (take_any n₀ R r n w1 HR.out).mono ?_
      rintro e w2 (⟨hl, p, cap, rfl, hb, hr2, hk2⟩ | ⟨hl, rfl, rfl⟩)
      · have HO' : Hid (textQ l 256 = some (r.take n, r.drop n)) := Lib.hid (by rw [HO.out, if_pos ⟨hn, hl⟩])
        have HK2 := Lib.hid (HK.out.trans hk2)
        have HB := Lib.hid hb
        have HR2 := Lib.hid hr2
        clear hb hr2 hk2
        go_wp2_with fail
        go_ret
        exact ⟨HK2.out, .inl ⟨_, _, _, HO'.out, rfl, HB.out, HR2.out⟩⟩
      · have HO' : Hid (textQ l 256 = none) := Lib.hid (by rw [HO.out, if_neg (fun h => by omega)])
        go_wp2_with fail
        exact ⟨rfl, HK.out, .inr ⟨HO'.out, rfl⟩⟩
    · have hn' : (256 : Int) < (n : Int) := by omega
      have HO' : Hid (textQ l 256 = none) := Lib.hid (by rw [HO.out, if_neg (fun h => hn h.1)])
      go_wp2_with fail
      exact ⟨rfl, HK.out, .inr ⟨HO'.out, rfl⟩⟩
  · have HK := Lib.hid hk
    have HO : Hid (textQ l 256 = none) := Lib.hid (by unfold textQ; rw [ho])
    clear hk ho
    go_wp2_with fail
    exact ⟨rfl, HK.out, .inr ⟨HO.out, rfl⟩⟩

set_option maxHeartbeats 2000000 in
set_option maxRecDepth 100000 in
theorem rdVal_any (n₀ R : Nat) (l : List UInt8) (w : World) (h : RestAt n₀ w R l) : Calls Tryz.prog 211 #[.pointer (some ⟨R, 0, none⟩)] w (ReadEnd (fun x _ v => v = aggV x) n₀ R (valQ l) w) := by
  have H := Lib.hid h
  have hRlt := h.lt
  clear h
  have K0 := Lib.hid (keep_alloc R w (.cells #[.int .i64 0, .int .i64 0, .string ⟨#[]⟩] 92))
  go_enter Tryz.func211, Tryz.ntmps211
  go_wp2_with fail
  refine (one_any n₀ R l _ (H.out.alloc _)).mono ?_
  rintro e w1 (⟨c, r, rfl, rfl, hr, hk⟩ | ⟨rfl, rfl, hk⟩)
  rotate_left
  · have HK := Lib.hid (K0.out.trans hk)
    clear hk
    go_wp2_with fail
    exact ⟨rfl, HK.out, .inr ⟨rfl, rfl⟩⟩
  have HK := Lib.hid hk
  have HR := Lib.hid hr
  clear hk hr
  cases h1 : ((c.toNat : Int) == 1) with
  | true =>
    obtain rfl := byte_is (d := 1) h1 rfl
    clear h1
    go_wp2_with fail
    refine (rdI_any n₀ R r w1 HR.out).mono ?_
    rintro e w2 ⟨hk, ⟨x, r', v, ho, rfl, rfl, hr⟩ | ⟨ho, rfl⟩⟩
    · have HK2 := Lib.hid (HK.out.trans hk)
      have HR2 := Lib.hid hr
      have HO := Lib.hid ho
      clear hk hr ho
      obtain ⟨c0, c1, c2, f0, f1, f2, hlt⟩ := new_cells HK2.out hRlt
      go_wp2_with fail
      exact bodyPost_ret (v := aggV ⟨1, x, ⟨#[]⟩⟩) (by simp [results, Tryz.results211, go_sem, aggV, c0, c1, c2]) rfl ⟨(K0.out.trans HK2.out).below (below_sets _ _ _ _ _), .inl ⟨⟨1, x, ⟨#[]⟩⟩, r', _, (valQ_int r).trans (by rw [HO.out]; rfl), rfl, rfl, HR2.out.below (below_sets _ _ _ _ _) hRlt⟩⟩
    · have HK2 := Lib.hid ((K0.out.trans HK.out).trans hk)
      have HO := Lib.hid ho
      clear hk ho
      go_wp2_with fail
      exact ⟨rfl, HK2.out, .inr ⟨(valQ_int r).trans (by rw [HO.out]; rfl), rfl⟩⟩
  | false =>
    have hc1 := other_of h1 1 rfl
    cases h2 : ((c.toNat : Int) == 2) with
    | true =>
      obtain rfl := byte_is (d := 2) h2 rfl
      clear h1 h2 hc1
      go_wp2_with fail
      refine (rdText_any n₀ R r w1 HR.out).mono ?_
      rintro e w2 ⟨hk, ⟨x, r', v, ho, rfl, hv, hr⟩ | ⟨ho, rfl⟩⟩
      · have HK2 := Lib.hid (HK.out.trans hk)
        have HR2 := Lib.hid hr
        have HO := Lib.hid ho
        have hcv := run_str w2 _ _ _ hv
        obtain ⟨p5, cap5, rfl⟩ := hv.shape
        clear hk hr ho hv
        obtain ⟨c0, c1, c2, f0, f1, f2, hlt⟩ := new_cells HK2.out hRlt
        go_wp2_with fail
        exact bodyPost_ret (v := aggV (symV x)) (by simp [results, Tryz.results211, go_sem, aggV, symV, c0, c1, c2]) rfl ⟨(K0.out.trans HK2.out).below (below_sets _ _ _ _ _), .inl ⟨symV x, r', _, (valQ_sym r).trans (by rw [HO.out]; rfl), rfl, rfl, HR2.out.below (below_sets _ _ _ _ _) hRlt⟩⟩
      · have HK2 := Lib.hid ((K0.out.trans HK.out).trans hk)
        have HO := Lib.hid ho
        clear hk ho
        go_wp2_with fail
        exact ⟨rfl, HK2.out, .inr ⟨(valQ_sym r).trans (by rw [HO.out]; rfl), rfl⟩⟩
    | false =>
      have hc2 := other_of h2 2 rfl
      have HS : Hid (valQ (c :: r) = none) := Lib.hid (valQ_none r hc1 hc2)
      have HK2 := Lib.hid (K0.out.trans HK.out)
      clear hc1 hc2
      go_wp2_with fail
      exact ⟨rfl, HK2.out, .inr ⟨HS.out, rfl⟩⟩
end
section
open Go Go.RowKit

/-- The deferred closure, where the frame panics. -/
theorem catchN_bad (p : Addr) (x : Int) (w : World) (hc : w.cell? p = some (.int .i64 x)) (hz : w.frozen? p = false) :
    CallsD Tryz.prog 191 #[.pointer (some p)] (.panicking badP) w fun e u' w' =>
      e = .returned (.tuple #[]) ∧ u' = .panicking [{ v := .iface 25 (.int .i64 30), recovered := true }] ∧ w' = w.setCell p (.int .i64 30) := by
  refine callsD_of_wpS Tryz.func191 rfl fun c₀ cs hu => ?_
  apply wpS_seq
  apply wpS_region
  simp [wpOpsS, go_sem, recoverD, hu, badP, Tryz.ntmps191, Exit.thenS]
  refine wpS_cond (t := true) (by simp [Act.eval, Array.replicate]) ?_
  simp only [if_true]
  apply wpS_region
  simp [wpOpsS, go_sem, hc, hz, bodyPostS, results, Tryz.results191]
/-- The deferred closure, where the frame returns. -/
theorem catchN_idle (p : Addr) (w : World) :
    CallsD Tryz.prog 191 #[.pointer (some p)] .returning w fun e u' w' => e = .returned (.tuple #[]) ∧ u' = .returning ∧ w' = w := by
  refine callsD_of_wpS Tryz.func191 rfl fun c₀ cs hu => ?_
  apply wpS_seq
  apply wpS_region
  simp [wpOpsS, go_sem, recoverD, hu, Tryz.ntmps191, Exit.thenS]
  refine wpS_cond (t := false) (by simp [Act.eval, Array.replicate]) ?_
  simp only [Bool.false_eq_true, if_false]
  refine wpS_of_wp (wp_skip ?_)
  cases c₀
  simp_all [bodyPostS, results, Tryz.results191]

/-- What taken answers at numbers. -/
def TakenNEnd (l : List UInt8) (o : Option (Nat × List UInt8)) (w : World) (e : Ending) (w' : World) : Prop :=
  Below w.heap.size w w' ∧ ((∃ x r, o = some (x, r) ∧ e = .returned (.tuple #[.int .u64 (x : Nat), .int .i64 ((l.length : Int) - (r.length : Int)), .int .i64 0])) ∨ (o = none ∧ e = .returned (.tuple #[.int .u64 0, .int .i64 0, .int .i64 30])))
set_option maxHeartbeats 1000000 in
set_option maxRecDepth 100000 in
theorem takenN_any (v : Value) (l : List UInt8) (o : Option (Nat × List UInt8)) (w : World) (hb : BytIn w.heap.size w v l) (hs : ∃ p cap, v = .slice p l.length cap ∧ l.length ≤ cap ∧ cap ≤ maxLen)
    (hread : ∀ W R, RestAt w.heap.size W R l → w.heap.size + 2 ≤ W.heap.size → Calls Tryz.prog 171 #[.pointer (some ⟨R, 0, none⟩)] W (ReadEnd (fun x _ v => v = .int .u64 (x : Nat)) w.heap.size R o W)) :
    Calls Tryz.prog 170 #[v, .func (.func 171) #[] #[]] w (TakenNEnd l o w) := by
  have HB := Lib.hid hb
  have HR := Lib.hid hread
  clear hb hread
  obtain ⟨p, cap, rfl, h1, h2⟩ := hs
  have hmf : ∀ (fn : Fn) (first cap : Array Value) (w : World), (Instr.makeFunc fn first cap).run Tryz.prog w = .ok (.func fn first cap) w := fun _ _ _ _ => rfl
  go_enter_defers Tryz.func170, Tryz.ntmps170
  go_wp2_with fail
  refine (HR.out _ (w.heap.size + 1) (start_rest w p cap l h1 h2 HB.out _) (by simp)).mono ?_
  rintro e w1 ⟨hk, ⟨T, r, vt, rfl, rfl, rfl, hr⟩ | ⟨rfl, rfl⟩⟩
  · have HK := Lib.hid hk
    have HRR := Lib.hid hr
    have HE := Lib.hid (err_cell w w1 _ hk)
    clear hk hr
    obtain ⟨-, p', cap', hbl, hlc, hcm, -⟩ := HRR.out
    have c1 : w1.cell? ⟨w.heap.size + 1, 0, none⟩ = some (.slice p' r.length cap') := cell_of_row w1 _ 0 _ _ (0, 0) hbl
    obtain ⟨c0, f0⟩ := HE.out
    clear hbl
    unfold maxLen at hcm h2
    have b1 : (l.length : Int) ≤ 9223372036854775807 := by omega
    have b2 : (r.length : Int) ≤ 9223372036854775807 := by omega
    have b3 : (0 : Int) ≤ (l.length : Int) := by omega
    have b4 : (0 : Int) ≤ (r.length : Int) := by omega
    go_wp2_with fail
    go_region
    all_goals
      go_wp2_with fail
      refine leaves_cons (f := 191) (args := #[.pointer (some ⟨w.heap.size, 0, none⟩)]) (by simp) (by simp [go_sem]) ?_
      refine (catchN_idle ⟨w.heap.size, 0, none⟩ _).mono ?_
      rintro e u' w'' ⟨rfl, rfl, rfl⟩
      have cs := err_set w w1 _ HK.out
      simp [Leaves, settle, results, Tryz.results170, go_sem, cs]
      exact ⟨((below_read w w1 _ _ HK.out).setCell (Nat.le_refl _) _).drew, .inl ⟨T, r, rfl, rfl⟩⟩
  · have HK := Lib.hid hk
    have HE := Lib.hid (err_cell w w1 _ hk)
    clear hk
    obtain ⟨c0, f0⟩ := HE.out
    go_wp2_with fail
    refine leaves_cons (f := 191) (args := #[.pointer (some ⟨w.heap.size, 0, none⟩)]) (by simp) (by simp [go_sem]) ?_
    refine (catchN_bad ⟨w.heap.size, 0, none⟩ 0 w1 c0 f0).mono ?_
    rintro e u' w'' ⟨rfl, rfl, rfl⟩
    have cs := err_set w w1 _ HK.out
    simp [Leaves, settle, results, Tryz.results170, go_sem, cs]
    exact ⟨(below_read w w1 _ _ HK.out).setCell (Nat.le_refl _) _, .inr ⟨rfl, rfl⟩⟩

set_option maxHeartbeats 1000000 in
set_option maxRecDepth 100000 in
theorem takeNum_any (v : Value) (l : List UInt8) (w : World) (h : ArgB w v l) : Calls Tryz.prog 149 #[v] w (TakenNEnd l (numP l 0 0) w) := by
  have HT := Lib.hid (takenN_any v l (numP l 0 0) w h.1 h.2 (fun W R hr _ => rdNum_any _ R l W hr))
  clear h
  go_enter Tryz.func149, Tryz.ntmps149
  go_wp2_with fail
  refine HT.out.mono ?_
  rintro e w1 ⟨hb, ⟨x, r, ho, rfl⟩ | ⟨ho, rfl⟩⟩
  · have HO := Lib.hid ho
    have HB := Lib.hid hb
    clear hb ho
    go_wp2_with fail
    go_ret3
    exact ⟨HB.out, .inl ⟨x, r, HO.out, rfl⟩⟩
  · have HO := Lib.hid ho
    have HB := Lib.hid hb
    clear hb ho
    go_wp2_with fail
    go_ret3
    exact ⟨HB.out, .inr ⟨HO.out, rfl⟩⟩
end
section
open Go Go.RowKit

theorem make_row (n : Nat) (hn : n ≤ 8) (w : World) : (Instr.makeSlice 64 (.int .u8 (n : Int)) (.int .u8 (n : Int))).run Tryz.prog w = .ok (.slice (some ⟨w.heap.size, 0, none⟩) n n) (w.alloc (.cells (madeCells #[.int .i64 0, .int .i64 0, .string ⟨#[]⟩] (n * 3)) 92)) := by
  obtain ⟨i, hi, hz, hs, hb⟩ := info_parts Tryz.infoV
  have h := run_make (P := Tryz.prog) w 64 92 i _ Tryz.underlying64 hi hz .u8 .u8 n n (by omega) (Int.le_refl _) (by rw [hb]; omega) (by omega)
  rw [hs] at h
  exact h
/-- A new row holds the first values. -/
def RowN (w : World) (g n : Nat) (acc : List V3) : Prop := ∃ A : Array Value, w.heap[g]? = some (.cells A 92 (0, 0)) ∧ A.size = n * 3 ∧ acc.length ≤ n ∧ ∀ (o : Nat) (u : Value), (rowV acc)[o]? = some u → A[o]? = some u
theorem RowN.new (w : World) (n : Nat) : RowN (w.alloc (.cells (madeCells #[.int .i64 0, .int .i64 0, .string ⟨#[]⟩] (n * 3)) 92)) w.heap.size n [] :=
  ⟨_, heap_alloc_new w _, size_madeCells _ _, Nat.zero_le _, fun o u h => by simp [rowV] at h⟩
theorem RowN.keep {w w' : World} {g n R : Nat} {acc : List V3} (h : RowN w g n acc) (hk : KeepR R w w') (hR : R ≠ g) : RowN w' g n acc := by
  obtain ⟨A, h1, h2⟩ := h
  exact ⟨A, (hk.block g (Array.getElem?_eq_some_iff.1 h1).1 (by intro e; injection e with e; exact hR e.symm)).trans h1, h2⟩
theorem RowN.in_ {w : World} {g : Nat} {T : List V3} (h : RowN w g T.length T) (hl : T.length ≤ 8) : TupIn w.heap.size w (.slice (some ⟨g, 0, none⟩) T.length T.length) T := by
  obtain ⟨A, h1, h2, -, h3⟩ := h
  refine ⟨_, _, rfl, by omega, .inr ⟨g, 0, rfl, (Array.getElem?_eq_some_iff.1 h1).1, fun j hj => ?_⟩⟩
  obtain ⟨q1, q2, q3⟩ := rowV_at T j hj
  have at_ : ∀ o u, (rowV T)[o]? = some u → w.cell? ⟨g, o, none⟩ = some u := fun o u hu => (cell_of_row w g o A _ (0, 0) h1).trans (h3 o u hu)
  rw [Nat.zero_add]
  exact ⟨at_ _ _ q1, at_ _ _ q2, at_ _ _ q3⟩
theorem rowV_lt {T : List V3} {o : Nat} {u : Value} (h : (rowV T)[o]? = some u) : o < T.length * 3 := by
  rw [← rowV_len]
  exact (List.getElem?_eq_some_iff.1 h).1
theorem RowN.put {w : World} {g n : Nat} {acc : List V3} (h : RowN w g n acc) (x : V3) (hlt : acc.length < n) :
    RowN (((w.setCell ⟨g, acc.length * 3, none⟩ (.int .i64 x.k)).setCell ⟨g, acc.length * 3 + 1, none⟩ (.int .i64 x.n)).setCell ⟨g, acc.length * 3 + 2, none⟩ (.string x.s)) g n (acc ++ [x]) := by
  obtain ⟨A, h1, h2, -, h3⟩ := h
  refine ⟨_, Go.heap_setCell_same _ g _ _ _ _ (Go.heap_setCell_same _ g _ _ _ _ (Go.heap_setCell_same _ g _ _ _ _ h1)), by simp [h2], by simp; omega, fun o u hu => ?_⟩
  rw [rowV_append] at hu
  have hlen : (rowV acc).length = acc.length * 3 := rowV_len acc
  rcases Nat.lt_or_ge o (acc.length * 3) with ho | ho
  · rw [List.getElem?_append_left (by omega)] at hu
    have := h3 o u hu
    simp only [Array.getElem?_setIfInBounds, Array.size_setIfInBounds]
    rw [if_neg (by omega), if_neg (by omega), if_neg (by omega)]
    exact this
  · rw [List.getElem?_append_right (by omega), hlen] at hu
    simp only [rowV] at hu
    simp only [Array.getElem?_setIfInBounds, Array.size_setIfInBounds]
    obtain ⟨d, rfl⟩ : ∃ d, o = acc.length * 3 + d := ⟨o - acc.length * 3, by omega⟩
    rw [Nat.add_sub_cancel_left] at hu
    rcases d with _ | _ | _ | d
    · rw [if_neg (by omega), if_neg (by omega), if_pos (by omega), if_pos (by omega)]; simpa using hu
    · rw [if_neg (by omega), if_pos (by omega), if_pos (by omega)]; simpa using hu
    · rw [if_pos (by omega), if_pos (by omega)]; simpa using hu
    · simp at hu
theorem RowN.cells {w : World} {g n : Nat} {acc : List V3} (h : RowN w g n acc) {o : Nat} (ho : o < n * 3) : (∃ u, w.cell? ⟨g, o, none⟩ = some u) ∧ w.frozen? ⟨g, o, none⟩ = false := by
  obtain ⟨A, h1, h2, -⟩ := h
  exact ⟨⟨A[o]'(by omega), (cell_of_row w g o A _ (0, 0) h1).trans (by simp [h2, ho])⟩, frozen_of_row w g o A _ h1⟩

theorem below_sets3 {B g : Nat} (h : B ≤ g) (w : World) (o1 o2 o3 : Nat) (x y z : Value) : Below B w (((w.setCell ⟨g, o1, none⟩ x).setCell ⟨g, o2, none⟩ y).setCell ⟨g, o3, none⟩ z) :=
  (((Below.refl B w).setCell (p := ⟨g, o1, none⟩) h x).setCell (p := ⟨g, o2, none⟩) h y).setCell (p := ⟨g, o3, none⟩) h z
theorem vals_step {n k : Nat} {r l' r' : List UInt8} {acc : List V3} {x : V3} (hlt : k < n) (h : valsQ n r = (valsQ (n - k) l').map (fun p => (acc ++ p.1, p.2))) (ho : valQ l' = some (x, r')) :
    valsQ n r = (valsQ (n - (k + 1)) r').map (fun p => ((acc ++ [x]) ++ p.1, p.2)) := by
  rw [h, show n - k = n - (k + 1) + 1 by omega, valsQ, ho]
  show Option.map _ ((valsQ (n - (k + 1)) r').map (fun p => (x :: p.1, p.2))) = _
  cases valsQ (n - (k + 1)) r' <;> simp
theorem vals_bad {n k : Nat} {r l' : List UInt8} {acc : List V3} (hlt : k < n) (h : valsQ n r = (valsQ (n - k) l').map (fun p => (acc ++ p.1, p.2))) (ho : valQ l' = none) : valsQ n r = none := by
  rw [h, show n - k = n - (k + 1) + 1 by omega, valsQ, ho]
  rfl
set_option maxHeartbeats 2000000 in
set_option maxRecDepth 100000 in
theorem rdTup_any (n₀ R : Nat) (l : List UInt8) (w : World) (h : RestAt n₀ w R l) : Calls Tryz.prog 199 #[.pointer (some ⟨R, 0, none⟩)] w (ReadEnd (fun T w' v => ∃ g, w.heap.size ≤ g ∧ v = .slice (some ⟨g, 0, none⟩) T.length T.length ∧ RowN w' g T.length T ∧ T.length ≤ 8) n₀ R (tupQ l) w) := by
  have H := Lib.hid h
  have hRlt := h.lt
  clear h
  go_enter Tryz.func199, Tryz.ntmps199
  go_wp2_with fail
  refine (one_any n₀ R l w H.out).mono ?_
  rintro e w1 (⟨c, r, rfl, rfl, hr, hk⟩ | ⟨rfl, rfl, hk⟩)
  rotate_left
  · have HK := Lib.hid hk
    clear hk
    go_wp2_with fail
    exact ⟨rfl, HK.out, .inr ⟨rfl, rfl⟩⟩
  have HK := Lib.hid hk
  have HR := Lib.hid hr
  have HS := Lib.hid (show tupQ (c :: r) = if 8 < c.toNat then none else valsQ c.toNat r from rfl)
  clear hk hr H
  by_cases h8 : 8 < c.toNat
  · have h8' : (8 : Int) < (c.toNat : Int) := by omega
    have HS' : Hid (tupQ (c :: r) = none) := Lib.hid (by rw [HS.out, if_pos h8])
    go_wp2_with fail
    exact ⟨rfl, HK.out, .inr ⟨HS'.out, rfl⟩⟩
  · have h8' : (c.toNat : Int) ≤ 8 := by omega
    have HS' : Hid (tupQ (c :: r) = valsQ c.toNat r) := Lib.hid (by rw [HS.out, if_neg h8])
    clear HS
    have hmk := make_row c.toNat (by omega) w1
    have hn0 : (0 : Int) ≤ (c.toNat : Int) := by omega
    have hg := HK.out.size
    go_wp2_with fail
    go_loopw [17] (fun i wr => ∃ k : Nat, k ≤ c.toNat ∧ i = .int .i64 k ∧ ∃ acc l', Hid (acc.length = k ∧ RowN wr w1.heap.size c.toNat acc ∧ RestAt n₀ wr R l' ∧ KeepR R w wr ∧ valsQ c.toNat r = (valsQ (c.toNat - k) l').map (fun p => (acc ++ p.1, p.2)))) (fun i _ => c.toNat - (intOf i).toNat)
    case atStart => exact ⟨0, Nat.zero_le _, rfl, [], r, Lib.hid ⟨rfl, RowN.new _ _, HR.out.alloc _, HK.out.trans (keep_alloc _ _ _), by cases valsQ (c.toNat - 0) r <;> simp_all⟩⟩
    case round =>
      obtain ⟨k, hk, rfl, acc, l', HI⟩ := hrel
      have k0 : (0 : Int) ≤ (k : Int) := by omega
      by_cases hlt : k < c.toNat
      · have hlt' : (k : Int) < (c.toNat : Int) := by omega
        go_wp2_with fail
        refine (rdVal_any n₀ R l' wr HI.out.2.2.1).mono ?_
        rintro e w2 ⟨hk2, ⟨x, r', v, ho, rfl, hv, hr2⟩ | ⟨ho, rfl⟩⟩
        · unfold aggV at hv
          subst hv
          have HK2 := Lib.hid (HI.out.2.2.2.1.trans hk2)
          have HR2 := Lib.hid hr2
          have HRow := Lib.hid (HI.out.2.1.keep hk2 (by omega))
          have HQ := Lib.hid (vals_step hlt HI.out.2.2.2.2 ho)
          clear hk2 hr2 ho
          obtain ⟨⟨u0, c0⟩, f0⟩ := HRow.out.cells (o := k * 3) (by omega)
          obtain ⟨⟨u1, c1⟩, f1⟩ := HRow.out.cells (o := k * 3 + 1) (by omega)
          obtain ⟨⟨u2, c2⟩, f2⟩ := HRow.out.cells (o := k * 3 + 2) (by omega)
          go_wp2_with fail
          have hb3 := Lib.hid (below_sets3 hg w2 (k * 3) (k * 3 + 1) (k * 3 + 2) (.int .i64 x.k) (.int .i64 x.n) (.string x.s))
          have hput : Hid (RowN (((w2.setCell ⟨w1.heap.size, k * 3, none⟩ (.int .i64 x.k)).setCell ⟨w1.heap.size, k * 3 + 1, none⟩ (.int .i64 x.n)).setCell ⟨w1.heap.size, k * 3 + 2, none⟩ (.string x.s)) w1.heap.size c.toNat (acc ++ [x])) := Lib.hid (by
            have h := HRow.out.put x (by rw [HI.out.1]; exact hlt)
            rw [HI.out.1] at h
            exact h)
          go_roundw
          case rel => exact ⟨k + 1, by omega, by go_num, acc ++ [x], r', Lib.hid ⟨by rw [List.length_append, HI.out.1]; rfl, hput.out, HR2.out.below hb3.out hRlt, HK2.out.below hb3.out, HQ.out⟩⟩
          case measure => simp [intOf]; omega
        · have HK2 := Lib.hid (HI.out.2.2.2.1.trans hk2)
          have HQ : Hid (tupQ (c :: r) = none) := Lib.hid (HS'.out.trans (vals_bad hlt HI.out.2.2.2.2 ho))
          clear hk2 ho
          go_wp2_with fail
          exact ⟨rfl, HK2.out, .inr ⟨HQ.out, rfl⟩⟩
      · obtain rfl : k = c.toNat := by omega
        have HQ : Hid (tupQ (c :: r) = some (acc, l')) := Lib.hid (by rw [HS'.out, HI.out.2.2.2.2, Nat.sub_self]; simp [valsQ])
        go_wp2_with fail
        go_ret
        exact ⟨HI.out.2.2.2.1, .inl ⟨acc, l', _, HQ.out, rfl, ⟨w1.heap.size, HK.out.size, by rw [HI.out.1]; rfl, by rw [HI.out.1]; exact HI.out.2.1, by have := HI.out.1; omega⟩, HI.out.2.2.1⟩⟩
end
end Go.Proofs.YtdjhfcopnhcljaaGreatDoor
