/-
  Contract of lex.Words at any text.
-/
import Derived.Test.YtnbaemfkpfmheaaGreatDoorLxG
import Derived.BigRegionIn
namespace Go.Proofs.YtnbaemfkpfmheaaGreatDoor
open Go Go.RowKit Go.Shelf

attribute [local go_sem] Oper.semAt_some

/-- A block that stands. -/
def KeptAt (k : Nat) (W W' : World) : Prop := W'.heap[k]? = W.heap[k]?
set_option maxHeartbeats 400000 in
theorem tokens_any (s : ByteArray) (w : World) : Calls Tryz.prog 74 #[.string s] w fun e w' => e = .returned (.func (.func 92) #[] #[.pointer (some ⟨w.heap.size, 0, none⟩)]) ∧ w.alloc (.cells #[.string s] 9) = w' := by
  go_enter Tryz.func74, Tryz.ntmps74
  go_wp2
  go_ret
  exact ⟨rfl, rfl⟩
/-- Five blocks laid one behind the other. -/
theorem a5_at (w : World) {a b c d e : Obj} (i : Nat) (hi : i < 5) : (((((w.alloc a).alloc b).alloc c).alloc d).alloc e).heap[w.heap.size + i]? = #[a, b, c, d, e][i]? := by
  have h0 : (((((w.alloc a).alloc b).alloc c).alloc d).alloc e).heap = w.heap ++ #[a, b, c, d, e] := by
    apply Array.ext'
    show (((((w.heap.push a).push b).push c).push d).push e).toList = _
    simp
  rw [h0, Array.getElem?_append_right (by omega), Nat.add_sub_cancel_left]
theorem lexS_len {V : List UInt8 → Option VL} : ∀ (N : Nat) (l : List UInt8) (p : Nat), l.length ≤ N → (lexS V l p).1.length ≤ l.length := by
  intro N
  induction N with
  | zero =>
    intro l p hl
    obtain rfl : l = [] := List.eq_nil_of_length_eq_zero (by omega)
    rw [lexS_end (by simp [skC])]
    exact Nat.le_refl _
  | succ N ih =>
    intro l p hl
    cases e : l.drop (skC false l) with
    | nil => rw [lexS_end e]; simp
    | cons c r =>
      have h3 : (l.drop (skC false l)).length = r.length + 1 := by rw [e]; rfl
      rw [List.length_drop] at h3
      rw [lexS_at e]
      cases ht : tokL V (c :: r) with
      | none => rw [lexG_bad ht]; simp
      | some q =>
        obtain ⟨k, n, v⟩ := q
        obtain ⟨h1, h2, -⟩ := tok_len ht
        have i := ih ((c :: r).drop n) (p + skC false l + n) (by rw [List.length_drop, List.length_cons]; omega)
        rw [List.length_drop, List.length_cons] at i
        rw [lexG_tok ht]
        simp only [List.length_cons]
        omega
/-- The words of a text, or where there is none. -/
noncomputable def wordsL (l : List UInt8) : List Wd × Nat × Int :=
  if 65536 < l.length then ([], 0, 2) else match (lexS valL l 0).2 with
    | none => ((lexS valL l 0).1, 0, 0)
    | some n => ([], n, 120)
/-- What the range of Words keeps. -/
structure WdJ (w : World) (s : ByteArray) (rec : Loop) (u : Value) (y z : Int) (P : List Wd) (W : World) : Prop where
  loop : W.heap[w.heap.size + 6]? = some (.loop rec)
  defs : W.heap[w.heap.size + 5]? = some (.deferred (some []))
  box : W.heap[w.heap.size + 4]? = some (.cells #[.string s] 9 (0, 0))
  row : ∃ v, W.heap[w.heap.size + 3]? = some (.cells #[v] 60 (0, 0)) ∧ OwnW (w.heap.size + 7) W v P
  r0 : W.heap[w.heap.size]? = some (.cells #[u] 60 (0, 0))
  r1 : W.heap[w.heap.size + 1]? = some (.cells #[.int .i64 y] 3 (0, 0))
  r2 : W.heap[w.heap.size + 2]? = some (.cells #[.int .i64 z] 28 (0, 0))
  below : Below w.heap.size w W
section
variable {w W W' : World} {s : ByteArray} {rec : Loop} {u : Value} {y z : Int} {P : List Wd}
theorem WdJ.size (h : WdJ w s rec u y z P W) : w.heap.size + 7 ≤ W.heap.size := by
  have := (Array.getElem?_eq_some_iff.1 h.loop).1
  omega
theorem WdJ.keep (h : WdJ w s rec u y z P W) (hb : Below W.heap.size W W') : WdJ w s rec u y z P W' := by
  have k : ∀ {k : Nat} {o : Obj}, W.heap[k]? = some o → W'.heap[k]? = some o := fun h => (hb.block _ (Array.getElem?_eq_some_iff.1 h).1).trans h
  obtain ⟨v, h1, h2⟩ := h.row
  exact ⟨k h.loop, k h.defs, k h.box, ⟨v, k h1, h2.below hb⟩, k h.r0, k h.r1, k h.r2, h.below.trans (hb.mono h.below.size)⟩
theorem WdJ.put (h : WdJ w s rec u y z P W) (rec' : Loop) : WdJ w s rec' u y z P (W.putObj (w.heap.size + 6) (.loop rec')) := by
  have hz := h.size
  obtain ⟨v, h1, h2⟩ := h.row
  have g : ∀ k, k ≠ w.heap.size + 6 → (W.putObj (w.heap.size + 6) (.loop rec')).heap[k]? = W.heap[k]? := fun k e => World.putObj_heap_other e
  exact ⟨World.putObj_heap_same (by omega), (g _ (by omega)).trans h.defs, (g _ (by omega)).trans h.box, ⟨v, (g _ (by omega)).trans h1, h2.keep (fun k e => g k (by have := (h2.lt k e).1; omega))⟩,
    (g _ (by omega)).trans h.r0, (g _ (by omega)).trans h.r1, (g _ (by omega)).trans h.r2, h.below.grown (grownBy_putObj' _ _ _) h.below.size (fun k e => by cases e; omega)⟩
/-- The results have been stored. -/
theorem WdJ.res (h : WdJ w s rec u y z P W) (u' : Value) (y' z' : Int) : WdJ w s rec u' y' z' P (((W.setCell ⟨w.heap.size, 0, none⟩ u').setCell ⟨w.heap.size + 1, 0, none⟩ (.int .i64 y')).setCell ⟨w.heap.size + 2, 0, none⟩ (.int .i64 z')) := by
  have hz := h.size
  obtain ⟨v, h1, h2⟩ := h.row
  have g : ∀ k, k ≠ w.heap.size → k ≠ w.heap.size + 1 → k ≠ w.heap.size + 2 → (((W.setCell ⟨w.heap.size, 0, none⟩ u').setCell ⟨w.heap.size + 1, 0, none⟩ (.int .i64 y')).setCell ⟨w.heap.size + 2, 0, none⟩ (.int .i64 z')).heap[k]? = W.heap[k]? := fun k a b c =>
    ((Below.heap_setCell _ _ _ _ c).trans (Below.heap_setCell _ _ _ _ b)).trans (Below.heap_setCell _ _ _ _ a)
  refine ⟨(g _ (by omega) (by omega) (by omega)).trans h.loop, (g _ (by omega) (by omega) (by omega)).trans h.defs, (g _ (by omega) (by omega) (by omega)).trans h.box, ⟨v, (g _ (by omega) (by omega) (by omega)).trans h1, h2.keep (fun k e => by have := (h2.lt k e).1; exact g k (by omega) (by omega) (by omega))⟩, ?_, ?_, ?_, ?_⟩
  · refine (Below.heap_setCell _ _ _ _ (by simp)).trans ((Below.heap_setCell _ _ _ _ (by simp)).trans ?_)
    rw [Go.heap_setCell_same _ _ _ _ _ _ h.r0]
    rfl
  · refine (Below.heap_setCell _ _ _ _ (by simp)).trans ?_
    rw [Go.heap_setCell_same _ _ _ _ _ _ ((Below.heap_setCell _ _ _ _ (by simp)).trans h.r1)]
    rfl
  · rw [Go.heap_setCell_same _ _ _ _ _ _ ((Below.heap_setCell _ _ _ _ (by simp)).trans ((Below.heap_setCell _ _ _ _ (by simp)).trans h.r2))]
    rfl
  · exact ((h.below.setCell (by simp) _).setCell (by simp) _).setCell (by simp) _
/-- The row has grown, and was stored. -/
theorem WdJ.grown (h : WdJ w s rec u y z P W) {v v' : Value} (hv : W.heap[w.heap.size + 3]? = some (.cells #[v] 60 (0, 0))) {x : Wd} (ho : OwnW (w.heap.size + 7) W' v' (P ++ [x])) (hg : W.grownBy W' v.ownBlock) :
    WdJ w s rec u y z (P ++ [x]) (W'.setCell ⟨w.heap.size + 3, 0, none⟩ v') ∧ ∀ k, k < W.heap.size → w.heap.size + 7 ≤ k → v.ownBlock ≠ some k → (W'.setCell ⟨w.heap.size + 3, 0, none⟩ v').heap[k]? = W.heap[k]? := by
  have hz := h.size
  have hgs := hg.size
  obtain ⟨v1, h1, h2⟩ := h.row
  obtain rfl : v1 = v := by rw [hv] at h1; cases h1; rfl
  have hlt := h2.lt
  have same : ∀ k, k < W.heap.size → k ≠ w.heap.size + 3 → v1.ownBlock ≠ some k → (W'.setCell ⟨w.heap.size + 3, 0, none⟩ v').heap[k]? = W.heap[k]? := fun k a1 a2 a3 =>
    (Below.heap_setCell _ _ _ _ a2).trans (hg.block k a1 (fun e => a3 e.symm))
  have no : ∀ k, k < w.heap.size + 7 → v1.ownBlock ≠ some k := fun k a e => by have := (hlt k e).1; omega
  have hw : W'.heap[w.heap.size + 3]? = some (.cells #[v1] 60 (0, 0)) := (hg.block _ (by omega) (fun e => no _ (by omega) e.symm)).trans h1
  refine ⟨⟨(same _ (by omega) (by omega) (no _ (by omega))).trans h.loop, (same _ (by omega) (by omega) (no _ (by omega))).trans h.defs, (same _ (by omega) (by omega) (no _ (by omega))).trans h.box, ⟨v', ?_, ho.keep (fun k e => Below.heap_setCell _ _ _ _ (fun e' => by have := (ho.lt k e).1; have e'' : k = w.heap.size + 3 := e'; omega))⟩,
    (same _ (by omega) (by omega) (no _ (by omega))).trans h.r0, (same _ (by omega) (by omega) (no _ (by omega))).trans h.r1, (same _ (by omega) (by omega) (no _ (by omega))).trans h.r2, (h.below.grown hg h.below.size (fun k e => (by have := (hlt k e).1; omega))).setCell (by simp) _⟩, fun k a b c => same k a (by omega) c⟩
  rw [Go.heap_setCell_same _ _ _ _ _ _ hw]
  rfl
end
set_option maxRecDepth 100000 in
set_option maxHeartbeats 4000000 in
theorem words_any (s : ByteArray) (w : World) (hm : s.size ≤ 1000000) (G : Glob w) :
    Calls Tryz.prog 44 #[.string s] w fun e w' => (∃ v, e = .returned (.tuple #[v, .int .i64 ((wordsL s.data.toList).2.1 : Int), .int .i64 (wordsL s.data.toList).2.2]) ∧ OwnW w.heap.size w' v (wordsL s.data.toList).1) ∧ Below w.heap.size w w' := by
  by_cases hlong : 65536 < s.size
  · have hl' : (65536 : Int) < (s.size : Int) := by omega
    have HE := Lib.hid (show wordsL s.data.toList = ([], 0, 2) by unfold wordsL; rw [if_pos (by rw [← Lib.size_eq]; exact hlong)])
    rw [HE.out]
    clear G
    go_enter Tryz.func44, Tryz.ntmps44
    go_wp2_with fail
    refine bodyPost_ret (v := .tuple #[.slice none 0 0, .int .i64 0, .int .i64 2]) (by simp [results, Tryz.results44, go_sem]) rfl ⟨⟨_, rfl, OwnW.nil _ _⟩, ?_⟩
    exact ((Below.refl _ _).alloc (Nat.le_refl _) _).alloc (by simp) _ |>.alloc (by simp; omega) _
  have hshort : ¬ (65536 : Int) < (s.size : Int) := by omega
  obtain ⟨D0, hD0⟩ : ∃ D0, D0 = lexS valL s.data.toList 0 := ⟨_, rfl⟩
  have HD0 := Lib.hid hD0
  have HL0 := Lib.hid (show wordsL s.data.toList = match D0.2 with | none => (D0.1, 0, 0) | some n => ([], n, 120) by
    unfold wordsL
    rw [if_neg (by rw [← Lib.size_eq]; exact hlong), hD0])
  obtain ⟨R, hR⟩ : ∃ R, R = wordsL s.data.toList := ⟨_, rfl⟩
  rw [← hR] at HL0 ⊢
  clear hR
  have HLen := Lib.hid (show D0.1.length ≤ 1000000 by rw [hD0]; have := lexS_len (V := valL) _ s.data.toList 0 (Nat.le_refl _); rw [← Lib.size_eq] at this; omega)
  have HG := Lib.hid G
  clear hD0 G
  refine (callsIn_wide (n := 9)).1 ?_
  refine callsIn_of_wp_marks Tryz.func44 rfl trivial ?_ rfl
  simp only [Tryz.ntmps44, List.size_toArray, List.length_cons, List.length_nil, Nat.reduceAdd, Nat.reduceSub, Array.replicate_succ, Array.replicate_zero, List.push_toArray, List.append_toArray, List.nil_append, List.cons_append]
  gi_wp2_with fail
  refine ⟨trivial, (callsIn_wide.2 (tokens_any s _)).mono ?_⟩
  rintro e w3 ⟨rfl, hw3⟩
  gi_wp2_with fail
  have hs3 : w3.heap.size = w.heap.size + 5 := by rw [← hw3]; simp
  obtain ⟨F, HF⟩ : ∃ F : Below w.heap.size w w3 ∧ w3.heap[w.heap.size]? = some (.cells #[.slice none 0 0] 60 (0, 0)) ∧ w3.heap[w.heap.size + 1]? = some (.cells #[.int .i64 0] 3 (0, 0)) ∧ w3.heap[w.heap.size + 2]? = some (.cells #[.int .i64 0] 28 (0, 0)) ∧
      w3.heap[w.heap.size + 3]? = some (.cells #[.slice none 0 0] 60 (0, 0)) ∧ w3.heap[w.heap.size + 4]? = some (.cells #[.string s] 9 (0, 0)), True := ⟨by
    rw [← hw3]
    refine ⟨(((((Below.refl _ _).alloc (Nat.le_refl _) _).alloc (by simp) _).alloc (by simp; omega) _).alloc (by simp; omega) _).alloc (by simp; omega) _, ?_, ?_, ?_, ?_, ?_⟩
    · exact a5_at w 0 (by omega)
    · exact a5_at w 1 (by omega)
    · exact a5_at w 2 (by omega)
    · exact a5_at w 3 (by omega)
    · exact a5_at w 4 (by omega), trivial⟩
  obtain ⟨hb3, f0, f1, f2, f3, f4⟩ := F
  clear hw3 HF
  refine range_ret (gf := 92) (lb := #[.pointer (some ⟨w.heap.size + 4, 0, none⟩)]) rfl (enters_of Tryz.func92 (by kernel_rfl) rfl) ?_
  intro rc r1 r2 r3 r4 r5 r6
  rw [hs3]
  have hl0 : ((w3.alloc (.deferred (some []))).alloc (.loop rc)).heap[w.heap.size + 6]? = some (.loop rc) := by
    have := World.alloc_heap_new (w3.alloc (.deferred (some []))) (.loop rc)
    rwa [World.size_alloc, hs3] at this
  have hd0 : ((w3.alloc (.deferred (some []))).alloc (.loop rc)).heap[w.heap.size + 5]? = some (.deferred (some [])) := by
    have := World.alloc_heap_new w3 (.deferred (some []))
    rw [hs3] at this
    exact (Below.heap_alloc _ _ _ (by rw [World.size_alloc]; omega)).trans this
  have hbb : Below w3.heap.size w3 ((w3.alloc (.deferred (some []))).alloc (.loop rc)) := ((Below.refl _ _).alloc (Nat.le_refl _) _).alloc (by simp) _
  have kk : ∀ {k : Nat} {o : Obj}, w3.heap[k]? = some o → ((w3.alloc (.deferred (some []))).alloc (.loop rc)).heap[k]? = some o := fun h => (hbb.block _ (Array.getElem?_eq_some_iff.1 h).1).trans h
  have hS : WdJ w s rc (.slice none 0 0) 0 0 [] ((w3.alloc (.deferred (some []))).alloc (.loop rc)) := ⟨hl0, hd0, kk f4, ⟨_, kk f3, OwnW.nil _ _⟩, kk f0, kk f1, kk f2, hb3.trans (hbb.mono hb3.size)⟩
  have HGb := Lib.hid (fun W (h : Below w.heap.size w W) => HG.out.below h)
  refine (tokens1_in 8 (by decide) (w.heap.size + 6) (w.heap.size + 4) s hm (fun D W => ∃ P, (P ++ D.1, D.2) = D0 ∧ WdJ w s rc (.slice none 0 0) 0 0 P W) (fun n W => ∃ P, D0.2 = some n ∧ WdJ w s (doneR rc) (.slice none 0 0) n 120 P W)
    (fun D A B h hb => by obtain ⟨P, a1, a3⟩ := h; exact ⟨P, a1, a3.keep hb⟩) (fun D A h => by obtain ⟨P, a1, a3⟩ := h; exact HGb.out A a3.below) (fun D A h => by obtain ⟨P, a1, a3⟩ := h; exact a3.box) ?_ ?_ _ ⟨[], by rw [HD0.out]; rfl, hS⟩).mono ?_
  · clear hl0 hd0 hbb kk hS f0 f1 f2 f3 f4 hb3
    rintro x D A W k ⟨P, hP, hJ⟩ hb hk1 hk2
    obtain ⟨v, hv, ho⟩ := hJ.row
    have hvk : v.ownBlock ≠ some k := fun e => by have := (ho.lt k e).2; omega
    have hJW := hJ.keep hb
    have hvW := (hb.block _ (Array.getElem?_eq_some_iff.1 hv).1).trans hv
    have hoW := ho.below hb
    have hz := hJ.size
    have hzW := hb.size
    have hyr : YieldAt Fence.wide 7 Tryz.prog (w.heap.size + 6) #[wordV x, .bool true] W fun e W' => (e = .returned (.bool true) ∧ (∃ P, (P ++ D.1, D.2) = D0 ∧ WdJ w s rc (.slice none 0 0) 0 0 P W') ∧ KeptAt k W W') ∨ (e = .returned (.bool false) ∧ False) := by
      refine yield_ret hJW.loop r1 r2 (by rw [r3]; rfl) ?_
      unfold wordV
      rw [r3, r4, r5, r6]
      clear r1 r2 r3 r4 r5 r6
      gi_wp2_with fail
      have hJ1 := hJW.keep ((Below.refl _ _).alloc (Nat.le_refl _) (.cells #[.int .i64 x.kind, .string ⟨x.text.toArray⟩, .int .i64 x.val.1, .int .i64 x.val.2.1, .string x.val.2.2, .int .i64 x.pos] 107))
      refine ⟨hJ1.loop, ?_⟩
      have hJ2 := hJ1.put (busyR rc)
      have hx : ((W.alloc (.cells #[.int .i64 x.kind, .string ⟨x.text.toArray⟩, .int .i64 x.val.1, .int .i64 x.val.2.1, .string x.val.2.2, .int .i64 x.pos] 107)).putObj (w.heap.size + 6) (.loop (busyR rc))).heap[W.heap.size]? = some (.cells #[.int .i64 x.kind, .string ⟨x.text.toArray⟩, .int .i64 x.val.1, .int .i64 x.val.2.1, .string x.val.2.2, .int .i64 x.pos] 107 (0, 0)) := (World.putObj_heap_other (by omega)).trans (World.alloc_heap_new W _)
      have hkk : ((W.alloc (.cells #[.int .i64 x.kind, .string ⟨x.text.toArray⟩, .int .i64 x.val.1, .int .i64 x.val.2.1, .string x.val.2.2, .int .i64 x.pos] 107)).putObj (w.heap.size + 6) (.loop (busyR rc))).heap[k]? = W.heap[k]? := (World.putObj_heap_other (by omega)).trans (Below.heap_alloc _ _ _ hk2)
      have hv2 : ((W.alloc (.cells #[.int .i64 x.kind, .string ⟨x.text.toArray⟩, .int .i64 x.val.1, .int .i64 x.val.2.1, .string x.val.2.2, .int .i64 x.pos] 107)).putObj (w.heap.size + 6) (.loop (busyR rc))).heap[w.heap.size + 3]? = some (.cells #[v] 60 (0, 0)) := (World.putObj_heap_other (by omega)).trans ((Below.heap_alloc _ _ _ (by omega)).trans hvW)
      have ho2 : OwnW (w.heap.size + 7) ((W.alloc (.cells #[.int .i64 x.kind, .string ⟨x.text.toArray⟩, .int .i64 x.val.1, .int .i64 x.val.2.1, .string x.val.2.2, .int .i64 x.pos] 107)).putObj (w.heap.size + 6) (.loop (busyR rc))) v P := (hoW.alloc _).keep (fun j e => World.putObj_heap_other (by have := (ho.lt j e).1; omega))
      obtain ⟨W2, hW2⟩ : ∃ W2, W2 = (W.alloc (.cells #[.int .i64 x.kind, .string ⟨x.text.toArray⟩, .int .i64 x.val.1, .int .i64 x.val.2.1, .string x.val.2.2, .int .i64 x.pos] 107)).putObj (w.heap.size + 6) (.loop (busyR rc)) := ⟨_, rfl⟩
      have hs2 : W2.heap.size = W.heap.size + 1 := by rw [hW2]; simp
      rw [← hW2] at hJ2 hx hkk hv2 ho2 ⊢
      clear hW2 hJ1
      have HJ2 := Lib.hid hJ2
      have k0 := cell_of_row W2 _ 0 _ _ (0, 0) hv2
      have q0 := cell_of_row W2 _ 0 _ _ (0, 0) hx
      have q1 := cell_of_row W2 _ 1 _ _ (0, 0) hx
      have q2 := cell_of_row W2 _ 2 _ _ (0, 0) hx
      have q3 := cell_of_row W2 _ 3 _ _ (0, 0) hx
      have q4 := cell_of_row W2 _ 4 _ _ (0, 0) hx
      have q5 := cell_of_row W2 _ 5 _ _ (0, 0) hx
      have hPl : P.length ≤ 1000000 := by
        have := HLen.out
        have h2 := congrArg (fun q => q.1.length) hP
        simp only [List.length_append] at h2
        omega
      have HPl := Lib.hid hPl
      have hv3 : (W2.alloc (.cells #[.int .i64 x.kind, .string ⟨x.text.toArray⟩, .int .i64 x.val.1, .int .i64 x.val.2.1, .string x.val.2.2, .int .i64 x.pos] 107)).heap[w.heap.size + 3]? = some (.cells #[v] 60 (0, 0)) := (Below.heap_alloc _ _ _ (by omega)).trans hv2
      have HV3 := Lib.hid hv3
      have HJ3 := Lib.hid (hJ2.keep ((Below.refl _ _).alloc (Nat.le_refl _) (.cells #[.int .i64 x.kind, .string ⟨x.text.toArray⟩, .int .i64 x.val.1, .int .i64 x.val.2.1, .string x.val.2.2, .int .i64 x.pos] 107)))
      have HO3 := Lib.hid (ho2.alloc (.cells #[.int .i64 x.kind, .string ⟨x.text.toArray⟩, .int .i64 x.val.1, .int .i64 x.val.2.1, .string x.val.2.2, .int .i64 x.pos] 107))
      have HQ : Hid (((P ++ [x]) ++ D.1, D.2) = D0) := Lib.hid (by rw [← hP, List.append_assoc]; rfl)
      have HK := Lib.hid (show ∀ W' : World, (∀ j, j < (W2.alloc (.cells #[.int .i64 x.kind, .string ⟨x.text.toArray⟩, .int .i64 x.val.1, .int .i64 x.val.2.1, .string x.val.2.2, .int .i64 x.pos] 107)).heap.size → w.heap.size + 7 ≤ j → v.ownBlock ≠ some j → W'.heap[j]? = (W2.alloc (.cells #[.int .i64 x.kind, .string ⟨x.text.toArray⟩, .int .i64 x.val.1, .int .i64 x.val.2.1, .string x.val.2.2, .int .i64 x.pos] 107)).heap[j]?) → (W'.putObj (w.heap.size + 6) (.loop rc)).heap[k]? = W.heap[k]? from fun W' h => (World.putObj_heap_other (by omega)).trans ((h k (by rw [World.size_alloc]; omega) (by omega) hvk).trans ((Below.heap_alloc _ _ _ (by omega)).trans hkk)))
      have hlit := litW_in W2 x
      rw [hs2] at hlit
      have HLit := Lib.hid hlit
      have HOl := Lib.hid (fun k e => (ho.lt k e))
      clear hlit hv ho hx hPl hv3 hkk hv2 ho2 hvk hP hJ2 hJW hvW hoW hb hJ
      gi_wp2_with (gi_at_builtin; refine wpListIn_appW rfl (.tmp 19) (.tmp 21) rfl (w.heap.size + 7) v P x (W.heap.size + 1) 1 rfl rfl HO3.out HLit.out HPl.out (by simp; omega) ?_; intro v5 w5 ho5 hg5 hv5; have HG5 := Lib.hid (HJ3.out.grown HV3.out ho5 hg5); obtain ⟨p5, c5, e5, -⟩ := ho5.in_ (fun _ => True) (fun _ _ => trivial); have hc5 := (hg5.block _ (Array.getElem?_eq_some_iff.1 HV3.out).1 (fun e => by have := (HOl.out _ e.symm).1; omega)).trans HV3.out; have q5 := cell_of_row w5 _ 0 _ _ (0, 0) hc5; have f5 := frozen_of_row w5 _ 0 _ _ hc5; clear ho5 hg5 hv5 hc5; rw [List.length_append, List.length_singleton] at e5; subst e5)
      exact ⟨HG5.out.1.loop, ⟨P ++ [x], HQ.out, HG5.out.1.put rc⟩, HK.out _ HG5.out.2⟩
    obtain ⟨fn, tmps, assign, body, hy, hR⟩ := hyr
    refine ⟨fn, tmps, assign, body, hy, hR.mono ?_⟩
    rintro e W' (⟨rfl, h1, h2⟩ | ⟨-, h⟩)
    · exact ⟨rfl, h1, h2⟩
    · exact h.elim
  · clear hl0 hd0 hbb kk hS f0 f1 f2 f3 f4 hb3
    rintro x A W ⟨P, hP, hJ⟩ hb
    have hJW := hJ.keep hb
    have hD2 : D0.2 = some x.pos := by rw [← hP]
    have HD2 := Lib.hid hD2
    have hz := hJW.size
    have hyr : YieldAt Fence.wide 7 Tryz.prog (w.heap.size + 6) #[wordV x, .bool false] W fun e W' => (e = .returned (.bool true) ∧ False) ∨ (e = .returned (.bool false) ∧ WdJ w s (doneR rc) (.slice none 0 0) x.pos 120 P W') := by
      refine yield_ret hJW.loop r1 r2 (by rw [r3]; rfl) ?_
      unfold wordV
      rw [r3, r4, r5, r6]
      clear r1 r2 r3 r4 r5 r6
      gi_wp2_with fail
      have hJ1 := hJW.keep ((Below.refl _ _).alloc (Nat.le_refl _) (.cells #[.int .i64 x.kind, .string ⟨x.text.toArray⟩, .int .i64 x.val.1, .int .i64 x.val.2.1, .string x.val.2.2, .int .i64 x.pos] 107))
      refine ⟨hJ1.loop, ?_⟩
      have hJ2 := hJ1.put (busyR rc)
      have hx : ((W.alloc (.cells #[.int .i64 x.kind, .string ⟨x.text.toArray⟩, .int .i64 x.val.1, .int .i64 x.val.2.1, .string x.val.2.2, .int .i64 x.pos] 107)).putObj (w.heap.size + 6) (.loop (busyR rc))).heap[W.heap.size]? = some (.cells #[.int .i64 x.kind, .string ⟨x.text.toArray⟩, .int .i64 x.val.1, .int .i64 x.val.2.1, .string x.val.2.2, .int .i64 x.pos] 107 (0, 0)) := (World.putObj_heap_other (by omega)).trans (World.alloc_heap_new W _)
      obtain ⟨W2, hW2⟩ : ∃ W2, W2 = (W.alloc (.cells #[.int .i64 x.kind, .string ⟨x.text.toArray⟩, .int .i64 x.val.1, .int .i64 x.val.2.1, .string x.val.2.2, .int .i64 x.pos] 107)).putObj (w.heap.size + 6) (.loop (busyR rc)) := ⟨_, rfl⟩
      rw [← hW2] at hJ2 hx ⊢
      have HJ2 := Lib.hid hJ2
      have q5 := cell_of_row W2 _ 5 _ _ (0, 0) hx
      have c0 := cell_of_row W2 _ 0 _ _ (0, 0) hJ2.r0
      have c1 := cell_of_row W2 _ 0 _ _ (0, 0) hJ2.r1
      have c2 := cell_of_row W2 _ 0 _ _ (0, 0) hJ2.r2
      have g0 := frozen_of_row W2 _ 0 _ _ hJ2.r0
      have g1 := frozen_of_row W2 _ 0 _ _ hJ2.r1
      have g2 := frozen_of_row W2 _ 0 _ _ hJ2.r2
      clear hW2 hJ1 hx hJ2 hJW hJ hP hb hD2
      gi_wp2_with fail
      gi_region
      all_goals (gi_wp2_with fail)
      all_goals (have h6 := (HJ2.out.res (.slice none 0 0) x.pos 120).keep ((Below.refl _ _).drew); exact ⟨h6.loop, h6.put (doneR rc)⟩)
    obtain ⟨fn, tmps, assign, body, hy, hR⟩ := hyr
    refine ⟨fn, tmps, assign, body, hy, hR.mono ?_⟩
    rintro e W' (⟨-, h⟩ | ⟨rfl, h1⟩)
    · exact h.elim
    · exact ⟨rfl, P, HD2.out, h1⟩
  · rintro e w4 ⟨⟨vr, rfl⟩, ⟨P, hP, hJ4⟩ | ⟨n, -, P, hn2, hJ4⟩⟩
    · refine ⟨⟨_, rfl⟩, rc, hJ4.loop, by rw [r1]; simp, .inl ⟨r2, ?_⟩⟩
      have hJ5 := hJ4.put { rc with state := .exhausted }
      have HE := Lib.hid (show R = (P, 0, 0) by rw [HL0.out, ← hP]; simp)
      obtain ⟨w5, hw5⟩ : ∃ w5, w5 = w4.putObj (w.heap.size + 6) (.loop { rc with state := .exhausted }) := ⟨_, rfl⟩
      rw [← hw5] at hJ5 ⊢
      have HJ5 := Lib.hid hJ5
      obtain ⟨v, hv, ho⟩ := hJ5.row
      have HO := Lib.hid ho
      have k0 := cell_of_row w5 _ 0 _ _ (0, 0) hv
      have c0 := cell_of_row w5 _ 0 _ _ (0, 0) hJ5.r0
      have c1 := cell_of_row w5 _ 0 _ _ (0, 0) hJ5.r1
      have c2 := cell_of_row w5 _ 0 _ _ (0, 0) hJ5.r2
      have g0 := frozen_of_row w5 _ 0 _ _ hJ5.r0
      have g1 := frozen_of_row w5 _ 0 _ _ hJ5.r1
      have g2 := frozen_of_row w5 _ 0 _ _ hJ5.r2
      clear hw5 hJ4 hJ5 hl0 hd0 hbb kk hS f0 f1 f2 f3 f4 hb3 r1 r2 r3 r4 r5 r6 hP hv ho
      obtain ⟨p5, c5, e5, -⟩ := HO.out.in_ (fun _ => True) (fun _ _ => trivial)
      subst e5
      gi_wp2_with fail
      have h6 := HJ5.out.res (.slice p5 P.length c5) 0 0
      have hz6 := h6.size
      have d0 := (World.putObj_heap_other (o := .deferred none) (show w.heap.size ≠ w.heap.size + 5 by omega)).trans h6.r0
      have d1 := (World.putObj_heap_other (o := .deferred none) (show w.heap.size + 1 ≠ w.heap.size + 5 by omega)).trans h6.r1
      have d2 := (World.putObj_heap_other (o := .deferred none) (show w.heap.size + 2 ≠ w.heap.size + 5 by omega)).trans h6.r2
      have n0 := cell_of_row _ _ 0 _ _ (0, 0) d0
      have n1 := cell_of_row _ _ 0 _ _ (0, 0) d1
      have n2 := cell_of_row _ _ 0 _ _ (0, 0) d2
      have HF : OwnW w.heap.size ((((w5.setCell ⟨w.heap.size, 0, none⟩ (.slice p5 P.length c5)).setCell ⟨w.heap.size + 1, 0, none⟩ (.int .i64 0)).setCell ⟨w.heap.size + 2, 0, none⟩ (.int .i64 0)).putObj (w.heap.size + 5) (.deferred none)) (.slice p5 P.length c5) P := (HO.out.mono (by omega)).keep (fun k e => by
        have := (HO.out.lt k e).1
        refine (World.putObj_heap_other (by omega)).trans ?_
        exact ((Below.heap_setCell _ _ _ _ (show k ≠ w.heap.size + 2 by omega)).trans (Below.heap_setCell _ _ _ _ (show k ≠ w.heap.size + 1 by omega))).trans (Below.heap_setCell _ _ _ _ (show k ≠ w.heap.size by omega)))
      refine ⟨by simp, .inl ⟨_, _, rfl, run_takeDeferred h6.defs, ?_⟩⟩
      refine ⟨.tuple #[.slice p5 P.length c5, .int .i64 0, .int .i64 0], by simp [results, Tryz.results44, go_sem, n0, n1, n2], ⟨_, by rw [HE.out]; rfl, by rw [HE.out]; exact HF⟩, ?_⟩
      exact h6.below.grown (grownBy_putObj' _ _ _) h6.below.size (fun k e => by cases e; omega)
    · refine ⟨⟨_, rfl⟩, doneR rc, hJ4.loop, by simp [doneR], .inr ⟨rfl, ?_⟩⟩
      have hJ5 := hJ4.put { doneR rc with state := .exhausted }
      have HE := Lib.hid (show R = ([], n, 120) by rw [HL0.out, hn2])
      obtain ⟨w5, hw5⟩ : ∃ w5, w5 = w4.putObj (w.heap.size + 6) (.loop { doneR rc with state := .exhausted }) := ⟨_, rfl⟩
      rw [← hw5] at hJ5 ⊢
      have HJ5 := Lib.hid hJ5
      clear hw5 hJ4 hJ5 hl0 hd0 hbb kk hS f0 f1 f2 f3 f4 hb3 r1 r2 r3 r4 r5 r6 hn2
      gi_wp2_with fail
      have h6 := HJ5.out
      have hz6 := h6.size
      have d0 := (World.putObj_heap_other (o := .deferred none) (show w.heap.size ≠ w.heap.size + 5 by omega)).trans h6.r0
      have d1 := (World.putObj_heap_other (o := .deferred none) (show w.heap.size + 1 ≠ w.heap.size + 5 by omega)).trans h6.r1
      have d2 := (World.putObj_heap_other (o := .deferred none) (show w.heap.size + 2 ≠ w.heap.size + 5 by omega)).trans h6.r2
      have n0 := cell_of_row _ _ 0 _ _ (0, 0) d0
      have n1 := cell_of_row _ _ 0 _ _ (0, 0) d1
      have n2 := cell_of_row _ _ 0 _ _ (0, 0) d2
      refine ⟨by simp, .inl ⟨_, _, rfl, run_takeDeferred h6.defs, ?_⟩⟩
      refine ⟨.tuple #[.slice none 0 0, .int .i64 n, .int .i64 120], by simp [results, Tryz.results44, go_sem, n0, n1, n2], ⟨_, by rw [HE.out], by rw [HE.out]; exact OwnW.nil _ _⟩, ?_⟩
      exact h6.below.grown (grownBy_putObj' _ _ _) h6.below.size (fun k e => by cases e; omega)
end Go.Proofs.YtnbaemfkpfmheaaGreatDoor
