/-
  Several sources of counted tuples; what least keeps.
-/
import Derived.Test.YtcfnpbmkcdmafaaMcHK
import Derived.Deep.RegionHeld3
namespace Go.Proofs.Ytcfnpbmkcdmafaa
section
open Go Go.RowKit Go.Shelf

/-- A source: its block, whether its head is taken, what is left. -/
abbrev SrcQC := Nat × Bool × List Ct
/-- The blocks of the first m. -/
def UnF (m : Nat) (F : Nat → Nat → Prop) : Nat → Prop := fun k => ∃ i, i < m ∧ F i k
def updF (F : Nat → Nat → Prop) (i : Nat) (Y : Nat → Prop) : Nat → Nat → Prop := fun j => if j = i then Y else F j
theorem updF_same (F : Nat → Nat → Prop) (i : Nat) (Y : Nat → Prop) : updF F i Y i = Y := if_pos rfl
theorem updF_other (F : Nat → Nat → Prop) {i j : Nat} (Y : Nat → Prop) (h : j ≠ i) : updF F i Y j = F j := if_neg h
/-- Several sources, apart from each other: the i-th in blocks of F i. -/
def SrcsC (n0 : Nat) (Q : List SrcQC) (F : Nat → Nat → Prop) (w : World) : Prop :=
  n0 ≤ w.heap.size ∧ (∀ i (h : i < Q.length), SrcC n0 Q[i].1 Q[i].2.1 (F i) Q[i].2.2 w) ∧ ∀ i j k, i < Q.length → j < Q.length → i ≠ j → F i k → ¬ F j k
section
variable {n0 : Nat} {Q : List SrcQC} {F : Nat → Nat → Prop} {w w' : World}
theorem SrcsC.inside (h : SrcsC n0 Q F w) : ∀ k, UnF Q.length F k → n0 ≤ k ∧ k < w.heap.size := by
  rintro k ⟨i, hi, e⟩
  exact (h.2.1 i hi).inside k e
theorem SrcsC.keep (h : SrcsC n0 Q F w) (hs : w.heap.size ≤ w'.heap.size) (hb : ∀ x, UnF Q.length F x ∨ x < n0 → w'.heap[x]? = w.heap[x]?) : SrcsC n0 Q F w' := by
  obtain ⟨h0, h1, h2⟩ := h
  exact ⟨Nat.le_trans h0 hs, fun i hi => (h1 i hi).keep hs (fun x e => hb x (e.imp_left fun e => ⟨i, hi, e⟩)), h2⟩
theorem SrcsC.below (h : SrcsC n0 Q F w) (hb : Below w.heap.size w w') : SrcsC n0 Q F w' := h.keep hb.size fun x e => hb.block x (by
  rcases e with e | e
  · exact (h.inside x e).2
  · exact Nat.lt_of_lt_of_le e h.1)
theorem SrcsC.set (h : SrcsC n0 Q F w) (i : Nat) (hi : i < Q.length) {tk' : Bool} {Y' : Nat → Prop} {L' : List Ct} (hu : Upd (allOf (F i)) w w') (hs : Sub w.heap.size (F i) Y') (hsrc : SrcC n0 Q[i].1 tk' Y' L' w') :
    Upd (allOf (UnF Q.length F)) w w' ∧ SrcsC n0 (Q.set i (Q[i].1, tk', L')) (updF F i Y') w' := by
  obtain ⟨h0, h1, h2⟩ := h
  refine ⟨hu.allMono fun k e => ⟨i, hi, e⟩, Nat.le_trans h0 hu.size, ?_, ?_⟩
  · intro j hj
    rw [List.length_set] at hj
    by_cases e : j = i
    · subst e
      simp only [List.getElem_set_self, updF_same]
      exact hsrc
    · simp only [List.getElem_set_ne (Ne.symm e), updF_other _ _ e]
      exact (h1 j hj).keep hu.size (fun x ex => hu.block x ((h1 j hj).lt x ex) (fun _ ei => by
        rcases ex with ex | ex
        · exact h2 j i x hj hi e ex ei
        · have := ((h1 i hi).inside x ei).1; omega))
  · intro a b k ha hb hab ea eb
    rw [List.length_set] at ha hb
    by_cases e1 : a = i
    · subst e1
      rw [updF_same] at ea
      rw [updF_other _ _ (Ne.symm hab)] at eb
      rcases hs k ea with h | h
      · exact h2 a b k ha hb hab h eb
      · exact absurd ((h1 b hb).inside k eb).2 (by omega)
    · rw [updF_other _ _ e1] at ea
      by_cases e2 : b = i
      · subst e2
        rw [updF_same] at eb
        rcases hs k eb with h | h
        · exact h2 a b k ha hb hab ea h
        · exact absurd ((h1 a ha).inside k ea).2 (by omega)
      · rw [updF_other _ _ e2] at eb
        exact h2 a b k ha hb hab ea eb
end
/-- What is left of sources. -/
def leftC (Q : List SrcQC) : List (List Ct) := Q.map fun q => q.2.2
def pkC (q : SrcQC) : SrcQC := (q.1, !q.2.2.isEmpty, q.2.2)
theorem leftC_pk (Q : List SrcQC) : leftC (Q.map pkC) = leftC Q := by unfold leftC; rw [List.map_map]; rfl
theorem fstC_pk (Q : List SrcQC) : (Q.map pkC).map (·.1) = Q.map (·.1) := by rw [List.map_map]; rfl
theorem leftC_len (Q : List SrcQC) : (leftC Q).length = Q.length := List.length_map _
/-- Which head is kept behind the first n. -/
def bestC (Ls : List (List Ct)) : Nat → Option (Nat × Ct)
  | 0 => none
  | n + 1 => match Ls[n]? with
    | some (x :: _) => match bestC Ls n with
      | none => some (n, x)
      | some (m, y) => if cmpT x.1 y.1 < 0 then some (n, x) else some (m, y)
    | _ => bestC Ls n
theorem bestC_some {Ls : List (List Ct)} : ∀ {n m : Nat} {y : Ct}, bestC Ls n = some (m, y) → m < n ∧ ∃ r, Ls[m]? = some (y :: r)
  | 0, _, _, h => by cases h
  | n + 1, m, y, h => by
    unfold bestC at h
    split at h
    · rename_i x r hx
      split at h
      · cases h; exact ⟨by omega, r, hx⟩
      · rename_i m' y' hb
        split at h
        · cases h; exact ⟨by omega, r, hx⟩
        · cases h
          obtain ⟨h1, h2⟩ := bestC_some hb
          exact ⟨by omega, h2⟩
    · obtain ⟨h1, h2⟩ := bestC_some h
      exact ⟨by omega, h2⟩
theorem bestC_hit {Ls : List (List Ct)} {n : Nat} {x : Ct} {r : List Ct} (h : Ls[n]? = some (x :: r)) : bestC Ls (n + 1) = match bestC Ls n with
    | none => some (n, x)
    | some (m, y) => if cmpT x.1 y.1 < 0 then some (n, x) else some (m, y) := by
  conv => lhs; unfold bestC
  rw [h]
theorem bestC_miss {Ls : List (List Ct)} {n : Nat} (h : Ls[n]? = some []) : bestC Ls (n + 1) = bestC Ls n := by
  conv => lhs; unfold bestC
  rw [h]
/-- The pointer that least answers. -/
def bestVC (ss : List Nat) : Option (Nat × Ct) → Value
  | none => .pointer none
  | some (m, _) => .pointer (some ⟨ss.getD m 0, 0, none⟩)
/-- What least leaves. -/
def LeastEndC (n0 : Nat) (Q : List SrcQC) (F : Nat → Nat → Prop) (w : World) (e : Ending) (w' : World) : Prop :=
  e = .returned (bestVC (Q.map (·.1)) (bestC (leftC Q) Q.length)) ∧ Upd (allOf (UnF Q.length F)) w w' ∧ ∃ F', (∀ i, i < Q.length → Sub w.heap.size (F i) (F' i)) ∧ SrcsC n0 (Q.map pkC) F' w'
/-- What the loop of least keeps. -/
def LsC (n0 : Nat) (Q : List SrcQC) (F : Nat → Nat → Prop) (w : World) (n : Nat) (w' : World) : Prop :=
  Upd (allOf (UnF Q.length F)) w w' ∧ ∃ F', (∀ i, i < Q.length → Sub w.heap.size (F i) (F' i)) ∧ SrcsC n0 ((Q.take n).map pkC ++ Q.drop n) F' w'
theorem lsC_len (Q : List SrcQC) (n : Nat) : ((Q.take n).map pkC ++ Q.drop n).length = Q.length := by
  rw [List.length_append, List.length_map, List.length_take, List.length_drop]; omega
theorem LsC.below {n0 : Nat} {Q : List SrcQC} {F : Nat → Nat → Prop} {w w1 w2 : World} {n : Nat} (h : LsC n0 Q F w n w1) (hb : Below w1.heap.size w1 w2) : LsC n0 Q F w n w2 := by
  obtain ⟨h1, F', h2, h3⟩ := h
  exact ⟨h1.trans (Upd.of_below hb), F', h2, h3.below hb⟩
theorem LsC.next {n0 : Nat} {Q : List SrcQC} {F : Nat → Nat → Prop} {w w1 : World} {n : Nat} (h : LsC n0 Q F w n w1) (hn : n < Q.length) : ∃ Yi, SrcC n0 Q[n].1 Q[n].2.1 Yi Q[n].2.2 w1 ∧
    ∀ w' Y', Upd (allOf Yi) w1 w' → Sub w1.heap.size Yi Y' → SrcC n0 Q[n].1 (!Q[n].2.2.isEmpty) Y' Q[n].2.2 w' → LsC n0 Q F w (n + 1) w' := by
  obtain ⟨h1, F', h2, h3⟩ := h
  have hl : ((Q.take n).map pkC).length = n := by rw [List.length_map, List.length_take]; omega
  have hd := List.drop_eq_getElem_cons hn
  have hi : n < ((Q.take n).map pkC ++ Q.drop n).length := by rw [lsC_len]; exact hn
  have hq : ((Q.take n).map pkC ++ Q.drop n)[n] = Q[n] := by
    rw [List.getElem_append_right (by omega)]
    simp only [hl, Nat.sub_self, List.getElem_drop, Nat.add_zero]
  have g1 := h3.2.1 n hi
  rw [hq] at g1
  refine ⟨F' n, g1, fun w' Y' hu hs hsrc => ?_⟩
  obtain ⟨k1, k2⟩ := h3.set n hi hu hs (by rw [hq]; exact hsrc)
  have hset : ((Q.take n).map pkC ++ Q.drop n).set n (Q[n].1, !Q[n].2.2.isEmpty, Q[n].2.2) = (Q.take (n + 1)).map pkC ++ Q.drop (n + 1) := by
    rw [List.set_append_right _ _ (by omega), hl, Nat.sub_self, hd, List.set_cons_zero, List.take_succ_eq_append_getElem hn, List.map_append, List.append_assoc]
    rfl
  rw [hq, hset] at k2
  refine ⟨h1.then hu (fun x _ hx e => ?_), updF F' n Y', fun i hi2 => ?_, k2⟩
  · rcases h2 n hn x e with e | e
    · exact ⟨n, hn, e⟩
    · omega
  · intro k e
    by_cases e1 : i = n
    · subst e1
      rw [updF_same] at e
      rcases hs k e with e | e
      · exact h2 i hi2 k e
      · exact .inr (Nat.le_trans h1.size e)
    · rw [updF_other _ _ e1] at e
      exact h2 i hi2 k e
/-- The head of a source that was looked at. -/
theorem LsC.head {n0 : Nat} {Q : List SrcQC} {F : Nat → Nat → Prop} {w w1 : World} {k n m : Nat} {y : Ct} (h : LsC n0 Q F w n w1) (hb : bestC (leftC Q) k = some (m, y)) (hkn : k ≤ n) (hn : n ≤ Q.length) : ∃ s, (Q.map (·.1)).getD m 0 = s ∧ s < w1.heap.size ∧ ∃ hy : Raw, w1.cell? ⟨s, 1, none⟩ = some (rawS hy) ∧ w1.cell? ⟨s, 2, none⟩ = some (.int .i64 hy.2) ∧ TupS (fun _ => True) w1 (rawS hy) y.1 := by
  obtain ⟨hm, r, hr⟩ := bestC_some hb
  have hmQ : m < Q.length := by omega
  have hl : ((Q.take n).map pkC).length = n := by rw [List.length_map, List.length_take]; omega
  obtain ⟨-, F', -, h3⟩ := h
  have h2 := h3.2.1 m (by rw [lsC_len]; exact hmQ)
  have hq : ((Q.take n).map pkC ++ Q.drop n)[m]'(by rw [lsC_len]; exact hmQ) = pkC Q[m] := by
    rw [List.getElem_append_left (by omega), List.getElem_map, List.getElem_take]
  rw [hq] at h2
  have hL : Q[m].2.2 = y :: r := by
    unfold leftC at hr
    rw [List.getElem?_map, List.getElem?_eq_getElem hmQ] at hr
    simpa using hr
  have hin := (h2.inside _ h2.has).2
  obtain ⟨-, -, -, -, -, hy, c1, c2, h4⟩ := h2
  refine ⟨Q[m].1, by simp [List.getD, hmQ], hin, hy, c1, c2, ?_⟩
  rcases h4 with ⟨e, -⟩ | ⟨-, x', r', Ym, e, -, -, -, ht⟩
  · simp [pkC, hL] at e
  · have e' : y :: r = x' :: r' := hL.symm.trans e
    injection e' with e1 e2
    subst e1
    exact ht.keep (fun _ _ _ => trivial) (fun _ _ _ => rfl)
end
section
open Go Go.RowKit Go.Shelf

theorem eqSrcC_nil (W : World) : (binOp .eql 105 (.pointer none) (.pointer none)).run Try.prog W = .ok (.bool true) W := by kernel_rfl
theorem eqSrcC_ptr (s : Nat) (W : World) : (binOp .eql 105 (.pointer (some ⟨s, 0, none⟩)) (.pointer none)).run Try.prog W = .ok (.bool false) W := by kernel_rfl
def FourC (s n : Nat) (hx hy : Raw) (X : World) : Prop := X.cell? ⟨s, 1, none⟩ = some (rawS hy) ∧ X.cell? ⟨s, 2, none⟩ = some (.int .i64 hy.2) ∧ X.cell? ⟨n, 0, none⟩ = some (rawS hx) ∧ X.cell? ⟨n, 1, none⟩ = some (.int .i64 hx.2)
theorem FourC.below {s n : Nat} {x y : Raw} {W W' : World} (hb : Below W.heap.size W W') (h : FourC s n x y W) : FourC s n x y W' := by
  obtain ⟨h1, h2, h3, h4⟩ := h
  have g : ∀ {b o v}, W.cell? ⟨b, o, none⟩ = some v → W'.cell? ⟨b, o, none⟩ = some v := fun {b o v} e => (hb.cell (p := ⟨b, o, none⟩) (World.block_lt_of_cell? W _ e)).trans e
  exact ⟨g h1, g h2, g h3, g h4⟩
set_option maxRecDepth 100000 in
set_option maxHeartbeats 4000000 in
theorem least_anyC {n0 : Nat} {Q : List SrcQC} {F : Nat → Nat → Prop} {S : Nat → Prop} {w : World} {v : Value} (h : SrcsC n0 Q F w) (hv : PtrIn S w v (Q.map (·.1))) (hS : ∀ k, S k → ¬ UnF Q.length F k) (hQ : Q.length ≤ 1000) :
    Calls Try.prog 86 #[byFn, v] w (LeastEndC n0 Q F w) := by
  have H0 := Lib.hid (show LsC n0 Q F w 0 w from ⟨Upd.refl _ _, F, fun _ _ _ e => .inl e, by simpa using h⟩)
  have HV := Lib.hid hv
  obtain ⟨p, c, rfl, hc1, hc2, -⟩ := hv
  rw [List.length_map] at hc1 HV ⊢
  clear h
  have q1 := eqSrcC_nil
  have q2 := eqSrcC_ptr
  have HQ := Lib.hid hQ
  have HSS := Lib.hid hS
  clear hS
  go_enter Try.func86, Try.ntmps86
  go_wp2_with fail
  go_loopw [5, 12] (fun kp i wr => ∃ n : Nat, n ≤ Q.length ∧ i = .int .i64 n ∧ Hid (LsC n0 Q F w n wr) ∧ kp = bestVC (Q.map (·.1)) (bestC (leftC Q) n)) (fun _ i _ => Q.length - (intOf i).toNat)
  case atStart => exact ⟨0, Nat.zero_le _, rfl, H0, rfl⟩
  case round =>
    obtain ⟨n, hn, rfl, HJ, hkp⟩ := hrel
    by_cases hlt : n < Q.length
    · obtain ⟨b, off, rfl, hb, hbl, hcell⟩ := HV.out.row (by intro e; rw [List.map_eq_nil_iff] at e; rw [e] at hlt; simp at hlt)
      obtain ⟨s, hs⟩ : ∃ s, s = Q[n].1 := ⟨_, rfl⟩
      have hcl : wr.cell? ⟨b, off + n, none⟩ = some (.pointer (some ⟨s, 0, none⟩)) := by
        have h1 := hcell n (by simpa using hlt)
        rw [List.getElem_map, ← hs] at h1
        exact (World.cell?_of_block (a := ⟨b, off + n, none⟩) (HJ.out.1.block b hbl (fun _ e => HSS.out b hb e))).trans h1
      obtain ⟨Yi, g1, g2⟩ := HJ.out.next hlt
      rw [← hs] at g1 g2
      have HC := Lib.hid (peek_anyC g1)
      have HG := Lib.hid g2
      clear g1 g2 hcell
      have hlt' : (n : Int) < (Q.length : Int) := by omega
      obtain ⟨L, hL⟩ : ∃ L, L = Q[n].2.2 := ⟨_, rfl⟩
      have HLs := Lib.hid (show (leftC Q)[n]? = some L by unfold leftC; rw [List.getElem?_map, List.getElem?_eq_getElem hlt, hL]; rfl)
      rw [← hL] at HC HG
      have HSn := Lib.hid (show ∀ x, bestVC (Q.map (·.1)) (some (n, x)) = .pointer (some ⟨s, 0, none⟩) from fun x => by unfold bestVC; simp [List.getD, hlt, hs])
      clear hL hs
      go_wp2_with fail
      refine HC.out.mono ?_
      rintro e w1 ⟨⟨⟨xp, xl, xc⟩, xn⟩, ok, rfl, hu, Y', hs', hsrc, hd, -, -⟩
      have HK := Lib.hid hkp
      clear hkp
      cases L with
      | nil =>
        obtain ⟨e1, rfl⟩ := hd
        have HJ1 := Lib.hid (HG.out w1 Y' hu hs' hsrc)
        clear hu hs' hsrc HC HG e1
        have HB := Lib.hid (bestC_miss HLs.out)
        go_wp2_with fail
        go_region
        go_wp2_with fail
        go_roundw
        case rel => exact ⟨n + 1, hlt, by simp, Lib.hid (HJ1.out.below ((Below.refl _ _).alloc (Nat.le_refl _) _).drew), by rw [HB.out]; exact HK.out⟩
        case measure => simp [intOf]; omega
      | cons x r =>
        obtain ⟨e1, e2, ht⟩ := hd
        subst e1
        have HJ1 := Lib.hid (HG.out w1 Y' hu hs' hsrc)
        have HTX := Lib.hid (show TupS (fun _ => True) (w1.alloc (.cells #[.slice xp xl xc, .int .i64 xn] 68)) (rawS ((xp, xl, xc), xn)) x.1 from ht.keep (fun _ _ _ => trivial) (fun k _ hk => Below.heap_alloc _ _ _ (by omega)))
        clear hu hs' hsrc HC HG e2 ht
        have HB := Lib.hid (bestC_hit HLs.out)
        rcases hbn : bestC (leftC Q) n with _ | ⟨m, y⟩
        · have hk := HK.out
          rw [hbn] at hk
          unfold bestVC at hk
          simp only at hk
          have HBn := Lib.hid hbn
          subst hk
          clear hbn
          go_wp2_with fail
          go_region
          go_wp2_with fail
          go_roundw
          case rel => exact ⟨n + 1, hlt, by simp, Lib.hid (HJ1.out.below ((Below.refl _ _).alloc (Nat.le_refl _) _).drew), by rw [HB.out, HBn.out]; exact (HSn.out x).symm⟩
          case measure => simp [intOf]; omega
        · have HBn := Lib.hid hbn
          obtain ⟨sm, es, hsm, ⟨⟨yp, yl, yc⟩, yn⟩, y1, y2, yt⟩ := HJ1.out.head hbn (Nat.le_succ _) hlt
          have hk := HK.out
          rw [hbn] at hk
          unfold bestVC at hk
          simp only [es] at hk
          have HES := Lib.hid es
          clear hbn es
          subst hk
          obtain ⟨z, hz⟩ : ∃ z, z = cmpT x.1 y.1 := ⟨_, rfl⟩
          have HZ := Lib.hid hz
          clear hz
          have y1' := (World.cell?_alloc_lt w1 (.cells #[.slice xp xl xc, .int .i64 xn] 68) ⟨sm, 1, none⟩ hsm).trans y1
          have y2' := (World.cell?_alloc_lt w1 (.cells #[.slice xp xl xc, .int .i64 xn] 68) ⟨sm, 2, none⟩ hsm).trans y2
          have x1' : (w1.alloc (.cells #[.slice xp xl xc, .int .i64 xn] 68)).cell? ⟨w1.heap.size, 0, none⟩ = some (.slice xp xl xc) := by rw [cell_of_row _ w1.heap.size 0 _ _ (0, 0) (heap_alloc_new w1 _)]; rfl
          have x2' : (w1.alloc (.cells #[.slice xp xl xc, .int .i64 xn] 68)).cell? ⟨w1.heap.size, 1, none⟩ = some (.int .i64 xn) := by rw [cell_of_row _ w1.heap.size 1 _ _ (0, 0) (heap_alloc_new w1 _)]; rfl
          have HS := Lib.hid (And.intro y1' (And.intro y2' (And.intro x1' x2')))
          have HTY := Lib.hid (show TupS (fun _ => True) (w1.alloc (.cells #[.slice xp xl xc, .int .i64 xn] 68)) (rawS ((yp, yl, yc), yn)) y.1 from yt.keep (fun _ _ _ => trivial) (fun k _ hk => Below.heap_alloc _ _ _ (by omega)))
          clear y1 y2 y1' y2' x1' x2' yt
          by_cases hz0 : z < 0
          · have HB2 := Lib.hid (show bestC (leftC Q) (n + 1) = some (n, x) by rw [HB.out, HBn.out]; simp only; rw [if_pos (by rw [← HZ.out]; exact hz0)])
            go_wp2_with fail
            go_region_held3 (fun X => X.cell? ⟨sm, 1, none⟩ = some (.slice yp yl yc) ∧ X.cell? ⟨sm, 2, none⟩ = some (.int .i64 yn) ∧ X.cell? ⟨w1.heap.size, 0, none⟩ = some (.slice xp xl xc) ∧ X.cell? ⟨w1.heap.size, 1, none⟩ = some (.int .i64 xn)) (first | exact HS.out | exact HS4.out)
              ((go_at_call 68; refine (byTuple_any ((xp, xl, xc), xn) ((yp, yl, yc), yn) x.1 y.1 _ ?_ ?_).mono ?_; exact HTX.out; exact HTY.out; rintro e w4 ⟨rfl, hb4⟩; rw [← HZ.out]; have HJ4 := Lib.hid (HJ1.out.below ((((Below.refl _ _).alloc (Nat.le_refl _) _).drew).trans (hb4.mono (by simp)))); have HS4 := Lib.hid (FourC.below (x := ((xp, xl, xc), xn)) (y := ((yp, yl, yc), yn)) hb4 HS.out); clear hb4))
            go_wp2_with fail
            go_roundw
            case rel => exact ⟨n + 1, hlt, by simp, HJ4, by rw [HB2.out]; exact (HSn.out x).symm⟩
            case measure => simp [intOf]; omega
          · have HB2 := Lib.hid (show bestC (leftC Q) (n + 1) = some (m, y) by rw [HB.out, HBn.out]; simp only; rw [if_neg (by rw [← HZ.out]; exact hz0)])
            go_wp2_with fail
            go_region_held3 (fun X => X.cell? ⟨sm, 1, none⟩ = some (.slice yp yl yc) ∧ X.cell? ⟨sm, 2, none⟩ = some (.int .i64 yn) ∧ X.cell? ⟨w1.heap.size, 0, none⟩ = some (.slice xp xl xc) ∧ X.cell? ⟨w1.heap.size, 1, none⟩ = some (.int .i64 xn)) (first | exact HS.out | exact HS4.out)
              ((go_at_call 68; refine (byTuple_any ((xp, xl, xc), xn) ((yp, yl, yc), yn) x.1 y.1 _ ?_ ?_).mono ?_; exact HTX.out; exact HTY.out; rintro e w4 ⟨rfl, hb4⟩; rw [← HZ.out]; have HJ4 := Lib.hid (HJ1.out.below ((((Below.refl _ _).alloc (Nat.le_refl _) _).drew).trans (hb4.mono (by simp)))); have HS4 := Lib.hid (FourC.below (x := ((xp, xl, xc), xn)) (y := ((yp, yl, yc), yn)) hb4 HS.out); clear hb4))
            go_wp2_with fail
            go_roundw
            case rel => exact ⟨n + 1, hlt, by simp, HJ4, by rw [HB2.out]; unfold bestVC; simp only [HES.out]⟩
            case measure => simp [intOf]; omega
    · obtain rfl : n = Q.length := by omega
      go_wp2_with fail
      go_ret
      obtain ⟨h0, F', h1, h2⟩ := HJ.out
      rw [List.take_length, List.drop_length, List.append_nil] at h2
      exact ⟨by rw [← hkp]; rfl, h0, F', h1, h2⟩
end
section
open Go Go.RowKit Go.Shelf

def totC (Ls : List (List Ct)) : Nat := (Ls.map List.length).sum
theorem totC_set : ∀ {Ls : List (List Ct)} {m : Nat} {y : Ct} {r : List Ct}, Ls[m]? = some (y :: r) → totC (Ls.set m r) + 1 = totC Ls
  | [], m, y, r, h => by simp at h
  | L :: Ls, 0, y, r, h => by
    simp at h
    subst h
    simp [totC]; omega
  | L :: Ls, m + 1, y, r, h => by
    have := totC_set (Ls := Ls) (m := m) (by simpa using h)
    simp only [totC, List.set_cons_succ, List.map_cons, List.sum_cons] at this ⊢
    omega
def mergeFC : Nat → List (List Ct) → List Ct
  | 0, _ => []
  | f + 1, Ls => match bestC Ls Ls.length with
    | none => []
    | some (m, y) => y :: mergeFC f (Ls.set m (Ls.getD m []).tail)
/-- What several merged tell. -/
def mergeLC (Ls : List (List Ct)) : List Ct := mergeFC (totC Ls) Ls
theorem mergeLC_none {Ls : List (List Ct)} (h : bestC Ls Ls.length = none) : mergeLC Ls = [] := by
  unfold mergeLC
  cases totC Ls with
  | zero => rfl
  | succ f => unfold mergeFC; rw [h]
theorem mergeLC_some {Ls : List (List Ct)} {m : Nat} {y : Ct} (h : bestC Ls Ls.length = some (m, y)) : ∃ r, Ls[m]? = some (y :: r) ∧ mergeLC Ls = y :: mergeLC (Ls.set m r) := by
  obtain ⟨-, r, hr⟩ := bestC_some h
  refine ⟨r, hr, ?_⟩
  have ht := totC_set hr
  unfold mergeLC
  rw [← ht]
  conv => lhs; unfold mergeFC
  rw [h]
  simp only [List.getD, hr, Option.getD_some, List.tail_cons]
/-- What the closure of Merge keeps. -/
def MrC (n0 cc cs : Nat) (Y : Nat → Prop) (M : List Ct) (w : World) : Prop :=
  (∀ k, Y k → n0 ≤ k ∧ k < w.heap.size) ∧ Y cc ∧ Y cs ∧ w.cell? ⟨cc, 0, none⟩ = some byFn ∧
  ∃ (v : Value) (Q : List SrcQC) (F : Nat → Nat → Prop), w.cell? ⟨cs, 0, none⟩ = some v ∧ PtrIn (fun k => Y k ∧ ¬ UnF Q.length F k) w v (Q.map (·.1)) ∧ SrcsC n0 Q F w ∧ (∀ k, UnF Q.length F k → Y k ∧ k ≠ cc ∧ k ≠ cs) ∧ M = mergeLC (leftC Q) ∧ Q.length ≤ 1000
theorem MrC.keep {n0 cc cs : Nat} {Y : Nat → Prop} {M : List Ct} {w w' : World} (h : MrC n0 cc cs Y M w) (hs : w.heap.size ≤ w'.heap.size) (hb : ∀ b, Y b ∨ b < n0 → w'.heap[b]? = w.heap[b]?) : MrC n0 cc cs Y M w' := by
  obtain ⟨h1, h2, h3, h4, v, Q, F, h5, h6, h7, h8, h9⟩ := h
  exact ⟨fun k e => ⟨(h1 k e).1, Nat.lt_of_lt_of_le (h1 k e).2 hs⟩, h2, h3, (World.cell?_of_block (a := ⟨cc, 0, none⟩) (hb cc (.inl h2))).trans h4, v, Q, F, (World.cell?_of_block (a := ⟨cs, 0, none⟩) (hb cs (.inl h3))).trans h5,
    h6.keep hs (fun k e _ => ⟨e, hb k (.inl e.1)⟩), h7.keep hs (fun k e => hb k (e.imp_left fun e => (h8 k e).1)), h8, h9⟩
/-- The blocks behind a step. -/
def StepY (Y : Nat → Prop) (m : Nat) (F F' : Nat → Nat → Prop) : Nat → Prop := fun k => (Y k ∧ ¬ UnF m F k) ∨ UnF m F' k
theorem MrC.step {n0 cc cs : Nat} {Y : Nat → Prop} {F F' : Nat → Nat → Prop} {w w' : World} {v : Value} {Q Q' : List SrcQC} (h1 : ∀ k, Y k → n0 ≤ k ∧ k < w.heap.size) (h2 : Y cc) (h3 : Y cs) (h4 : w.cell? ⟨cc, 0, none⟩ = some byFn) (h5 : w.cell? ⟨cs, 0, none⟩ = some v) (h6 : PtrIn (fun k => Y k ∧ ¬ UnF Q.length F k) w v (Q.map (·.1)))
    (h8 : ∀ k, UnF Q.length F k → Y k ∧ k ≠ cc ∧ k ≠ cs) (hu : Upd (allOf (UnF Q.length F)) w w') (hs : SrcsC n0 Q' F' w') (hq : Q'.map (·.1) = Q.map (·.1)) (hY : ∀ i, i < Q.length → Sub w.heap.size (F i) (F' i)) (hQ : Q.length ≤ 1000) :
    MrC n0 cc cs (StepY Y Q.length F F') (mergeLC (leftC Q')) w' ∧ Sub w.heap.size Y (StepY Y Q.length F F') := by
  have hl : Q'.length = Q.length := by have := congrArg List.length hq; simpa using this
  have off : ∀ k, k < w.heap.size → ¬ UnF Q.length F k → w'.heap[k]? = w.heap[k]? := fun k hk hn => hu.block k hk (fun _ e => hn e)
  have nc : ¬ UnF Q.length F cc := fun e => (h8 cc e).2.1 rfl
  have ns : ¬ UnF Q.length F cs := fun e => (h8 cs e).2.2 rfl
  have un : ∀ k, UnF Q.length F' k → UnF Q.length F k ∨ w.heap.size ≤ k := by
    rintro k ⟨i, hi, e⟩
    exact (hY i hi k e).imp_left fun e => ⟨i, hi, e⟩
  have h6' := h6.keep (w' := w') (S' := fun k => StepY Y Q.length F F' k ∧ ¬ UnF Q.length F' k) hu.size (fun k e hk => ⟨⟨.inl e, fun e' => by
    rcases un k e' with e'' | e''
    · exact e.2 e''
    · omega⟩, off k hk e.2⟩)
  refine ⟨⟨?_, .inl ⟨h2, nc⟩, .inl ⟨h3, ns⟩, (World.cell?_of_block (a := ⟨cc, 0, none⟩) (off cc (h1 cc h2).2 nc)).trans h4, v, Q', F', (World.cell?_of_block (a := ⟨cs, 0, none⟩) (off cs (h1 cs h3).2 ns)).trans h5, by rw [hq, hl]; exact h6', hs, fun k e => ?_, rfl, by omega⟩, ?_⟩
  · rintro k (e | e)
    · exact ⟨(h1 k e.1).1, Nat.lt_of_lt_of_le (h1 k e.1).2 hu.size⟩
    · rw [← hl] at e; exact hs.inside k e
  · rw [hl] at e
    refine ⟨.inr e, ?_⟩
    rcases un k e with e' | e'
    · exact (h8 k e').2
    · exact ⟨fun e'' => by have := h1 cc h2; omega, fun e'' => by have := h1 cs h3; omega⟩
  · rintro k (e | e)
    · exact .inl e.1
    · exact (un k e).imp_left fun e => (h8 k e).1
theorem neqSrc_ptrC (s : Nat) (W : World) : (binOp .neq 105 (.pointer (some ⟨s, 0, none⟩)) (.pointer none)).run Try.prog W = .ok (.bool true) W := by kernel_rfl
set_option maxRecDepth 100000 in
set_option maxHeartbeats 2000000 in
theorem merge1_anyC {n0 cc cs : Nat} {Y : Nat → Prop} {M : List Ct} {w : World} (hn : n0 ≤ w.heap.size) (h : MrC n0 cc cs Y M w) : Calls Try.prog 85 #[.pointer (some ⟨cc, 0, none⟩), .pointer (some ⟨cs, 0, none⟩)] w (TellEndC n0 Y M (MrC n0 cc cs) w) := by
  have HI := Lib.hid (fun k e => (h.1 k e).2)
  have HN0 := Lib.hid hn
  have h' := h.keep (w' := w.alloc (.cells #[.slice none 0 0, .int .i64 0] 68)) (by simp) (fun b e => Below.heap_alloc _ _ _ (lt_of h.1 hn b e))
  have hl1 := (h.1 cc h.2.1).2
  have hl2 := (h.1 cs h.2.2.1).2
  obtain ⟨h1, h2, h3, h4, v, Q, F, h5, h6, h7, h8, rfl, h9⟩ := h'
  have q1 := neqSrc_nilC
  have q2 := neqSrc_ptrC
  have HC := Lib.hid (least_anyC h7 h6 (fun k e => e.2) h9)
  have HL := Lib.hid (fun w' Q' F' hu hs hq hY => MrC.step (w' := w') (Q' := Q') (F' := F') h1 h2 h3 h4 h5 h6 h8 hu hs hq hY h9)
  have H8 := Lib.hid h8
  have H7 := Lib.hid h7
  have H1 := Lib.hid h1
  obtain ⟨p, c, rfl, -, -, -⟩ := h6
  rw [List.length_map] at h5 HC
  clear h h1 h2 h3 h7 h8 h9 hn
  rw [World.cell?_alloc_lt _ _ _ hl1] at h4
  rw [World.cell?_alloc_lt _ _ _ hl2] at h5
  rcases hbn : bestC (leftC Q) Q.length with _ | ⟨m, y⟩
  · have HB := Lib.hid hbn
    go_enter Try.func85, Try.ntmps85
    go_wp2_with fail
    refine HC.out.mono ?_
    rintro e w1 ⟨rfl, hu, F1, hsub, hs⟩
    rw [HB.out]
    obtain ⟨hj, hsb⟩ := HL.out w1 _ _ hu hs (fstC_pk Q) hsub
    rw [leftC_pk] at hj
    have hm0 := mergeLC_none (Ls := leftC Q) (by rw [leftC_len]; exact HB.out)
    have hu' := hu.allMono (Z := Y) fun k e => (H8.out k e).1
    have hc1 := upd_cell HI.out hu'
    have HQ := Lib.hid (told_afterC (P := MrC n0 cc cs) (L0 := []) (h := rawZ) (ok := false) MrC.keep (.slice none 0 0) (.int .i64 0) HN0.out HI.out hu' hsb hj ⟨rfl, rfl⟩)
    have HN2 := Lib.hid (cells_set2 hc1 (.slice none 0 0) (.int .i64 0))
    have c0 := cell_of_row w1 w.heap.size 0 _ _ (0, 0) hc1
    have c1 := cell_of_row w1 w.heap.size 1 _ _ (0, 0) hc1
    have f0 := frozen_of_row w1 w.heap.size 0 _ _ hc1
    have f1 := frozen_of_row w1 w.heap.size 1 _ _ hc1
    have HM := Lib.hid hm0
    unfold bestVC
    clear hu hu' hs hj hm0 hc1 hbn hsub hsb
    go_wp2_with fail
    obtain ⟨n0', n1'⟩ := HN2.out
    refine bodyPost_ret (v := .tuple #[.agg #[.slice none 0 0, .int .i64 0], .bool false]) (by simp [results, Try.results85, go_sem, n0', n1']) rfl ⟨rawZ, false, rfl, ?_⟩
    rw [HM.out] at HQ ⊢
    exact HQ.out
  · have HB := Lib.hid hbn
    clear hbn
    go_enter Try.func85, Try.ntmps85
    go_wp2_with fail
    refine HC.out.mono ?_
    rintro e w1 ⟨rfl, hu, F1, hsub, hs⟩
    rw [HB.out]
    obtain ⟨r, hr, hm1⟩ := mergeLC_some (Ls := leftC Q) (by rw [leftC_len]; exact HB.out)
    have hmQ : m < Q.length := by
      have := (List.getElem?_eq_some_iff.1 hr).1
      rwa [leftC_len] at this
    have hQm : Q[m].2.2 = y :: r := by
      unfold leftC at hr
      rw [List.getElem?_map, List.getElem?_eq_getElem hmQ] at hr
      simpa using hr
    have hpk : (Q.map pkC)[m]'(by simpa using hmQ) = pkC Q[m] := List.getElem_map _
    have g1 := hs.2.1 m (by simpa using hmQ)
    have g3 := fun (w2 : World) (Y2 : Nat → Prop) hu2 hs2 hsrc2 => hs.set (w' := w2) (tk' := false) (Y' := Y2) (L' := r) m (by simpa using hmQ) hu2 hs2 hsrc2
    rw [hpk] at g1 g3
    obtain ⟨s, hs0⟩ : ∃ s, s = Q[m].1 := ⟨_, rfl⟩
    have hpk1 : (pkC Q[m]).1 = s := hs0.symm
    have hpk2 : (pkC Q[m]).2.2 = y :: r := hQm
    rw [hpk1, hpk2] at g1
    rw [hpk1] at g3
    have HT := Lib.hid (take_anyC g1)
    have hbv : bestVC (Q.map (·.1)) (some (m, y)) = .pointer (some ⟨s, 0, none⟩) := by unfold bestVC; simp [List.getD, hmQ, hs0]
    rw [hbv]
    clear hbv g1
    have HG := Lib.hid (And.intro hu (And.intro hr (And.intro hm1 (And.intro hs0 (And.intro hs (And.intro hsub g3))))))
    have HmQ := Lib.hid hmQ
    clear hu hs hr hm1 hs0 hQm g3 hpk hpk1 hpk2 hsub
    go_wp2_with fail
    refine HT.out.mono ?_
    rintro e w2 ⟨⟨⟨hp, hl, hcc⟩, hk⟩, ok, rfl, hu2, Y2, hs2, hsrc2, hd⟩
    have hjj : MrC n0 cc cs (StepY Y Q.length F (updF F1 m Y2)) (mergeLC ((leftC Q).set m r)) w2 ∧ Sub (w.alloc (.cells #[.slice none 0 0, .int .i64 0] 68)).heap.size Y (StepY Y Q.length F (updF F1 m Y2)) ∧ Upd (allOf (UnF Q.length F)) (w.alloc (.cells #[.slice none 0 0, .int .i64 0] 68)) w2 ∧ HdC (SafeC n0 (w.alloc (.cells #[.slice none 0 0, .int .i64 0] 68)).heap.size Y (StepY Y Q.length F (updF F1 m Y2))) w2 (y :: r) ((hp, hl, hcc), hk) ok := by
      obtain ⟨hu, hr, hm1, hs0, hs, hsub, g3⟩ := HG.out
      have hmQ := HmQ.out
      obtain ⟨k1, k2⟩ := g3 w2 Y2 hu2 hs2 hsrc2
      have hu3 := hu.then hu2 (fun x _ hx e => by
        rcases hsub m hmQ x e with e | e
        · exact ⟨m, hmQ, e⟩
        · omega)
      have e1 : leftC ((Q.map pkC).set m (s, false, r)) = (leftC Q).set m r := by
        unfold leftC
        rw [List.map_set, List.map_map]
        rfl
      have e2 : ((Q.map pkC).set m (s, false, r)).map (·.1) = Q.map (·.1) := by
        rw [List.map_set, fstC_pk]
        refine List.ext_getElem (by simp) (fun i h1 h2 => ?_)
        rw [List.getElem_set]
        split
        · rename_i e; subst e; simp [hs0]
        · rfl
      obtain ⟨q1, q2⟩ := HL.out w2 _ _ hu3 k2 e2 (fun i hi k e => by
        by_cases e1 : i = m
        · subst e1
          rw [updF_same] at e
          rcases hs2 k e with e | e
          · exact hsub i hi k e
          · exact .inr (Nat.le_trans hu.size e)
        · rw [updF_other _ _ e1] at e
          exact hsub i hi k e)
      rw [e1] at q1
      refine ⟨q1, q2, hu3, hd.keep (fun b e _ => ?_) (fun _ _ _ => rfl)⟩
      rcases e with e | ⟨e1, e2, e3⟩
      · exact .inl e
      · have hsz := hu.size
        refine .inr ⟨e1, ?_, ?_⟩
        · rcases e2 with e2 | e2
          · exact (hsub m hmQ b e2).imp_left fun e => (H8.out b ⟨m, hmQ, e⟩).1
          · exact .inr (Nat.le_trans hsz e2)
        · rintro (⟨f1, f2⟩ | ⟨i, hi, f⟩)
          · have := (H1.out b f1).2
            rcases e2 with e2 | e2
            · rcases hsub m hmQ b e2 with e | e
              · exact f2 ⟨m, hmQ, e⟩
              · omega
            · omega
          · by_cases ei : i = m
            · subst ei
              rw [updF_same] at f
              exact e3 f
            · rw [updF_other _ _ ei] at f
              rcases e2 with e2 | e2
              · exact hs.2.2 i m b (by simpa using hi) (by simpa using hmQ) ei f e2
              · have := ((hs.2.1 i (by simpa using hi)).inside b f).2; omega
    obtain ⟨hj, hsb, hu, hd'⟩ := hjj
    obtain rfl : ok = true := hd.1
    have hu' := hu.allMono (Z := Y) fun k e => (H8.out k e).1
    have hc1 := upd_cell HI.out hu'
    have HQ := Lib.hid (told_afterC (P := MrC n0 cc cs) MrC.keep (.slice hp hl hcc) (.int .i64 hk) HN0.out HI.out hu' hsb hj hd')
    have HN2 := Lib.hid (cells_set2 hc1 (.slice hp hl hcc) (.int .i64 hk))
    have c0 := cell_of_row w2 w.heap.size 0 _ _ (0, 0) hc1
    have c1 := cell_of_row w2 w.heap.size 1 _ _ (0, 0) hc1
    have f0 := frozen_of_row w2 w.heap.size 0 _ _ hc1
    have f1 := frozen_of_row w2 w.heap.size 1 _ _ hc1
    have HM := Lib.hid HG.out.2.2.1
    clear hu hu' hj hc1 hu2 hs2 hsrc2 HG hd hd' hsb
    go_wp2_with fail
    obtain ⟨n0', n1'⟩ := HN2.out
    refine bodyPost_ret (v := .tuple #[.agg #[.slice hp hl hcc, .int .i64 hk], .bool true]) (by simp [results, Try.results85, go_sem, n0', n1']) rfl ⟨((hp, hl, hcc), hk), true, rfl, ?_⟩
    rw [HM.out]
    exact HQ.out
/-- The closure of Merge tells what its sources tell, merged. -/
theorem MrC.tells {n0 cc cs : Nat} {Y : Nat → Prop} {M : List Ct} {w : World} (hn : n0 ≤ w.heap.size) (h : MrC n0 cc cs Y M w) : TellsC n0 85 #[.pointer (some ⟨cc, 0, none⟩), .pointer (some ⟨cs, 0, none⟩)] Y M w :=
  ⟨h.1, hn, MrC n0 cc cs, Y, fun _ e => e, h, fun _ _ _ h => h.1, fun _ _ _ _ h => h.keep, fun _ _ _ hn h => merge1_anyC hn h⟩
end
end Go.Proofs.Ytcfnpbmkcdmafaa
