/-
  Contracts of merge.byTuple, slices.Clone at a tuple, and merge.copied.
-/
import Derived.Test.YtcfnpbmkcdmafaaMcB
import Derived.Test.YtcfnpbmkcdmafaaTupCW
import Derived.Test.YtcfnpbmkcdmafaaTupO
import Derived.Deep.RegionWith
import Derived.Test.YtcfnpbmkcdmafaaMcC
import Derived.Test.YtcfnpbmkcdmafaaMcG
namespace Go.Proofs.Ytcfnpbmkcdmafaa
section
open Go Go.RowKit Go.Shelf

set_option maxRecDepth 100000 in
theorem byTuple_any (h1 h2 : Raw) (T1 T2 : List V3) (w : World) (g1 : TupS (fun _ => True) w (rawS h1) T1) (g2 : TupS (fun _ => True) w (rawS h2) T2) :
    Calls Try.prog 68 #[rawV h1, rawV h2] w fun e w' => e = .returned (.int .i64 (cmpT T1 T2)) ∧ Below w.heap.size w w' := by
  obtain ⟨⟨p1, l1, c1⟩, n1⟩ := h1
  obtain ⟨⟨p2, l2, c2⟩, n2⟩ := h2
  have hb : Below w.heap.size w ((w.alloc (.cells #[.slice p1 l1 c1, .int .i64 n1] 68)).alloc (.cells #[.slice p2 l2 c2, .int .i64 n2] 68)) := ((Below.refl _ _).alloc (Nat.le_refl _) _).alloc (by simp) _
  have HC := Lib.hid (tcompareS_any _ _ T1 T2 _ (g1.keep (S' := fun k => k < ((w.alloc (.cells #[.slice p1 l1 c1, .int .i64 n1] 68)).alloc (.cells #[.slice p2 l2 c2, .int .i64 n2] 68)).heap.size) (fun k _ hk => by simp; omega) (fun k _ hk => hb.block k hk)) (g2.keep (fun k _ hk => by simp; omega) (fun k _ hk => hb.block k hk)))
  have HB := Lib.hid hb
  clear g1 g2 hb
  go_enter Try.func68, Try.ntmps68
  go_wp2_with fail
  refine HC.out.mono ?_
  rintro e w1 ⟨rfl, hg⟩
  have HB1 := Lib.hid (HB.out.trans (hg.below.mono HB.out.size))
  clear hg
  go_wp2_with fail
  go_ret
  exact ⟨rfl, HB1.out⟩
/-- A tuple of the call's own reads as one. -/
theorem own_tupS {B : Nat} {w : World} {v : Value} {T : List V3} (h : w.ownsRow B 102 3 v T.length (rowV T)) (hl : T.length ≤ 4398046510976) : ∃ p l c, v = .slice p l c ∧ TupS (fun b => B ≤ b) w v T := by
  rcases Nat.eq_zero_or_pos T.length with h0 | h0
  · obtain rfl := List.eq_nil_of_length_eq_zero h0
    rcases h.2 with ⟨rfl, -⟩ | ⟨g, cap, cur, rfl, -⟩
    · exact ⟨none, 0, 0, rfl, none, 0, rfl, by simp, .inl rfl⟩
    · exact ⟨_, _, _, rfl, _, cap, rfl, by simp, .inl rfl⟩
  · obtain ⟨g, cap, rfl, hB, -⟩ := World.ownsRow.form h h0
    refine ⟨_, _, _, rfl, _, cap, rfl, hl, .inr ⟨g, 0, rfl, hB, fun j hj => ?_⟩⟩
    obtain ⟨q1, q2, q3⟩ := rowV_at T j hj
    have at_ : ∀ o u, (rowV T)[o]? = some u → w.cell? ⟨g, 0 + o, none⟩ = some u := fun o u hu => by
      have hc := World.ownsRow.cells h (g := g) rfl o u hu
      rw [addr_add] at hc
      exact hc
    exact ⟨at_ _ _ q1, by rw [Nat.add_assoc]; exact at_ _ _ q2, by rw [Nat.add_assoc]; exact at_ _ _ q3⟩
set_option maxRecDepth 100000 in
/-- An append of a tuple onto an empty one of the call's own, at the operation. -/
theorem wpList_appTS {ops : Array Oper} {rest : List Oper} {o : Oper} {a : Act} {w : World} {Q : Exit → Act → World → Prop} (hgd : o.guard = none) (s x : Operand)
    (ho : o.op = .call { callee := .builtin .append, args := #[s, x], argTypes := #[66, 66] }) (B : Nat) (v : Value) (ad : Addr) (c : Nat) (T : List V3) (hs : a.eval s = v) (hx : a.eval x = .slice (some ad) T.length c)
    (hown : w.ownsRow B 102 3 v 0 []) (hT : TupS (fun _ => True) w (.slice (some ad) T.length c) T) (hB : B ≤ w.heap.size)
    (h : ∀ v' w', w'.ownsRow B 102 3 v' T.length (rowV T) → w.grownBy w' v.ownBlock → wpList Try.prog ops Q rest (a.put o.dst v') w') : wpList Try.prog ops Q (o :: rest) a w := by
  refine wpList_plain hgd fun K hK => ?_
  obtain ⟨i0, hi, hz0, hz1, hz2⟩ := info_parts Try.infoV
  obtain ⟨p, c', e, hl, hc⟩ := hT
  have hcell : ∀ j u, (rowV T)[j]? = some u → w.cell? (ad.add j) = some u := fun j u hu => by
    rcases hc with rfl | ⟨b, off, rfl, -, hc⟩
    · simp [rowV] at hu
    · injection e with e
      injection e with e
      subst e
      rw [addr_add]
      exact cells_row T off hc j u hu
  obtain ⟨v', w', hr, h2, h3, -⟩ := run_append_own_at (P := Try.prog) w B 66 o.type 102 i0 (.agg #[.int .i64 0, .int .i64 0, .string ⟨#[]⟩]) 3 32 Try.underlying66 hi hz0 hz1 hz2 rfl (by decide) v 0 [] hown ad T.length c (rowV T) (rowV_len T) hcell (rowV_one T) (by unfold maxLen; omega) (by omega) hB
  rw [Nat.zero_add, List.nil_append] at h2
  unfold Oper.wp execOp
  simp only [ho, resolve, invoke, builtin, Sem.run_bind, Sem.run_pure, Result.andThen_ok, List.map_toArray, List.map_cons, List.map_nil, hs, hx, hr]
  exact hK _ _ (h v' w' h2 h3)
theorem eqlTupNone (l c : Nat) (W : World) : (binOp .eql 66 (.slice none l c) (.slice none 0 0)).run Try.prog W = .ok (.bool true) W := by kernel_rfl
theorem eqlTupSome (ad : Addr) (l c : Nat) (W : World) : (binOp .eql 66 (.slice (some ad) l c) (.slice none 0 0)).run Try.prog W = .ok (.bool false) W := by kernel_rfl
/-- What Clone leaves. -/
def CloneS (T : List V3) (w : World) (e : Ending) (w' : World) : Prop := ∃ p l c, e = .returned (.slice p l c) ∧ TupS (fun b => w.heap.size ≤ b) w' (.slice p l c) T ∧ Below w.heap.size w w'
set_option maxRecDepth 100000 in
theorem cloneT_any (p : Option Addr) (l c : Nat) (T : List V3) (w : World) (g : TupS (fun _ => True) w (.slice p l c) T) : Calls Try.prog 84 #[.slice p l c] w (CloneS T w) := by
  obtain ⟨p', c', e, hl, hc⟩ := id g
  injection e with e1 e2 e3
  subst e1 e2 e3
  cases p with
  | none =>
    obtain rfl : T = [] := by
      rcases hc with h | ⟨b, off, h, -⟩
      · exact h
      · cases h
    have q := eqlTupNone 0 c
    go_enter Try.func84, Try.ntmps84
    go_wp2_with fail
    go_ret
    exact ⟨none, 0, 0, rfl, ⟨none, 0, rfl, by simp, .inl rfl⟩, Below.refl _ _⟩
  | some ad =>
    have HO := Lib.hid (show (w.alloc (.cells #[] 102)).ownsRow w.heap.size 102 3 (.slice (some ⟨w.heap.size, 0, none⟩) 0 0) 0 [] from ⟨rfl, .inr ⟨w.heap.size, 0, #[], rfl, Nat.le_refl _, heap_alloc_new w _, Nat.le_refl _, Nat.zero_le _, rfl, rfl⟩⟩)
    have HT := Lib.hid (g.keep (w' := w.alloc (.cells #[] 102)) (S' := fun _ => True) (fun _ _ _ => trivial) (fun k _ hk => Below.heap_alloc _ _ _ (by omega)))
    have HB := Lib.hid (below_new' w (.cells #[] 102))
    have HL := Lib.hid hl
    have q := eqlTupSome ad T.length c
    clear g hc hl
    go_enter Try.func84, Try.ntmps84
    go_wp2_with (at_builtin; refine wpList_appTS rfl (.tmp 5) (.tmp 6) rfl w.heap.size _ ad c T rfl rfl HO.out HT.out HB.out.size ?_; intro v5 w5 ho5 hg5; obtain ⟨p5, l5, c5, rfl, ht5⟩ := own_tupS ho5 HL.out; have HN := Lib.hid (And.intro ht5 (HB.out.grown hg5 HB.out.size (fun k e => by cases e; exact Nat.le_refl _))); clear ho5 hg5 ht5)
    go_ret
    exact ⟨p5, l5, c5, rfl, HN.out⟩
end
section
open Go Go.RowKit Go.Shelf

/-- What copied leaves. -/
def CopiedS (n : Int) (T : List V3) (w : World) (e : Ending) (w' : World) : Prop := ∃ h : Raw, e = .returned (rawV h) ∧ h.2 = n ∧ TupS (fun b => w.heap.size ≤ b) w' (rawS h) T ∧ Below w.heap.size w w'
set_option maxRecDepth 100000 in
set_option maxHeartbeats 1000000 in
theorem copied_any (h : Raw) (T : List V3) (w : World) (g : TupS (fun _ => True) w (rawS h) T) : Calls Try.prog 65 #[rawV h] w (CopiedS h.2 T w) := by
  obtain ⟨⟨p, l, c⟩, n⟩ := h
  have hb : Below w.heap.size w ((w.alloc (.cells #[.slice p l c, .int .i64 n] 68)).alloc (.cells #[.slice none 0 0, .int .i64 0] 68)) := ((Below.refl _ _).alloc (Nat.le_refl _) _).alloc (by simp) _
  have HC := Lib.hid (fun W (hW : Below w.heap.size w W) => cloneT_any p l c T W (g.keep (S' := fun _ => True) (fun _ _ _ => trivial) (fun k _ hk => hW.block k hk)))
  have HB := Lib.hid hb
  clear g hb
  go_enter Try.func65, Try.ntmps65
  go_wp2_with fail
  obtain ⟨w2, hw2⟩ : ∃ w2, w2 = (w.alloc (.cells #[.slice p l c, .int .i64 n] 68)).alloc (.cells #[.slice none 0 0, .int .i64 0] 68) := ⟨_, rfl⟩
  have hs2 : w2.heap.size = w.heap.size + 2 := by rw [hw2]; simp
  have hx2 : w2.heap[w.heap.size]? = some (.cells #[.slice p l c, .int .i64 n] 68 (0, 0)) := by rw [hw2]; exact (Below.heap_alloc _ _ _ (by simp)).trans (heap_alloc_new w _)
  have hr2 : w2.heap[w.heap.size + 1]? = some (.cells #[.slice none 0 0, .int .i64 0] 68 (0, 0)) := by rw [hw2]; simpa using heap_alloc_new (w.alloc (.cells #[.slice p l c, .int .i64 n] 68)) (.cells #[.slice none 0 0, .int .i64 0] 68)
  have HB2 := Lib.hid (show Below w.heap.size w w2 by rw [hw2]; exact HB.out)
  rw [← hw2]
  have HW := Lib.hid (And.intro hs2 (And.intro hx2 hr2))
  have k0 := cell_of_row w2 w.heap.size 0 _ _ (0, 0) hx2
  have k1 := cell_of_row w2 w.heap.size 1 _ _ (0, 0) hx2
  have r0 := cell_of_row w2 (w.heap.size + 1) 0 _ _ (0, 0) hr2
  have r1 := cell_of_row w2 (w.heap.size + 1) 1 _ _ (0, 0) hr2
  have f0 := frozen_of_row w2 (w.heap.size + 1) 0 _ _ hr2
  have f1 := frozen_of_row w2 (w.heap.size + 1) 1 _ _ hr2
  clear hw2 hx2 hr2 hs2 HB
  go_region_with (go_at_call 84; refine (HC.out _ ?_).mono ?_; exact HB2.out.drew; rintro e w1 ⟨p1, l1, c1, rfl, ht1, hb1⟩; have HT1 := Lib.hid ht1; have HB1 := Lib.hid hb1; have hx1 := (hb1.block w.heap.size (by have := HW.out.1; simp; omega)).trans HW.out.2.1; have hr1 := (hb1.block (w.heap.size + 1) (by have := HW.out.1; simp; omega)).trans HW.out.2.2; have k1' := cell_of_row w1 w.heap.size 1 _ _ (0, 0) hx1; have r0' := cell_of_row w1 (w.heap.size + 1) 0 _ _ (0, 0) hr1; have r1' := cell_of_row w1 (w.heap.size + 1) 1 _ _ (0, 0) hr1; have f0' := frozen_of_row w1 (w.heap.size + 1) 0 _ _ hr1; have f1' := frozen_of_row w1 (w.heap.size + 1) 1 _ _ hr1; have HR1 := Lib.hid hr1; clear ht1 hb1 hx1 hr1)
  all_goals go_wp2_with fail
  all_goals
    obtain ⟨n0', n1'⟩ := cells_set2 HR1.out (.slice p1 l1 c1) (.int .i64 n)
    obtain ⟨z1, z2, z3⟩ := HW.out
    have zs : w2.drew.heap.size = w.heap.size + 2 := by simpa using z1
    refine bodyPost_ret (v := .agg #[.slice p1 l1 c1, .int .i64 n]) (by simp [results, Try.results65, go_sem, n0', n1']) rfl ⟨((p1, l1, c1), n), rfl, rfl, HT1.out.keep (fun k hk _ => by rw [zs] at hk; omega) (fun k hk _ => ?_), ?_⟩
    · rw [zs] at hk
      have ke : w.heap.size + 1 ≠ k := by omega
      have ke' : k ≠ w.heap.size + 1 := by omega
      exact (Below.heap_setCell _ _ _ _ (by first | exact ke | exact ke')).trans (Below.heap_setCell _ _ _ _ (by first | exact ke | exact ke'))
    · exact ((HB2.out.drew.trans (HB1.out.mono (by rw [zs]; omega))).setCell (p := ⟨w.heap.size + 1, 0, none⟩) (Nat.le_succ _) _).setCell (p := ⟨w.heap.size + 1, 1, none⟩) (Nat.le_succ _) _
end
section
open Go Go.RowKit Go.Shelf

abbrev copFn : Value := .func (.func 65) #[] #[]
/-- What the closure of Turn keeps. -/
def TuJC (n0 r cf : Nat) (Y : Nat → Prop) (M : List Ct) (w : World) : Prop :=
  (∀ k, Y k → n0 ≤ k ∧ k < w.heap.size) ∧ Y cf ∧ w.cell? ⟨cf, 0, none⟩ = some copFn ∧ ∃ Yr, MadeC n0 r Yr M w ∧ ∀ k, Yr k → Y k ∧ k ≠ cf
theorem TuJC.keep {n0 r cf : Nat} {Y : Nat → Prop} {M : List Ct} {w w' : World} (h : TuJC n0 r cf Y M w) (hs : w.heap.size ≤ w'.heap.size) (hb : ∀ b, Y b ∨ b < n0 → w'.heap[b]? = w.heap[b]?) : TuJC n0 r cf Y M w' := by
  obtain ⟨h1, h2, h3, Yr, h4, h5⟩ := h
  exact ⟨fun k e => ⟨(h1 k e).1, Nat.lt_of_lt_of_le (h1 k e).2 hs⟩, h2, (World.cell?_of_block (a := ⟨cf, 0, none⟩) (hb cf (.inl h2))).trans h3, Yr, h4.keep hs (fun k e => hb k (e.imp_left fun e => (h5 k e).1)), h5⟩
theorem TuJC.alloc {n0 r cf : Nat} {Y : Nat → Prop} {M : List Ct} {w w0 : World} (h : TuJC n0 r cf Y M w) (_hn : n0 ≤ w0.heap.size) (o : Obj) : TuJC n0 r cf Y M (w.alloc o) := by
  refine h.keep (by simp) (fun b e => Below.heap_alloc _ _ _ ?_)
  rcases e with e | e
  · exact (h.1 b e).2
  · obtain ⟨h1, h2, -⟩ := h
    have := h1 _ h2
    omega
theorem turn_afterC {n0 r cf : Nat} {Y Yr Y' : Nat → Prop} {M' : List Ct} {w w1 w2 : World} {o : Obj} (h1 : ∀ k, Y k → n0 ≤ k ∧ k < w.heap.size) (hn : n0 ≤ w.heap.size) (h2 : Y cf) (h3 : w.cell? ⟨cf, 0, none⟩ = some copFn) (h5 : ∀ k, Yr k → Y k ∧ k ≠ cf)
    (hu : Upd (allOf Yr) (w.alloc o) w1) (hs : Sub (w.alloc o).heap.size Yr Y') (hm : MadeC n0 r Y' M' w1) (hb : Below w1.heap.size w1 w2) (u v : Value) :
    w1.cell? ⟨cf, 0, none⟩ = some copFn ∧ Upd (allOf Y) w ((w2.setCell ⟨w.heap.size, 0, none⟩ u).setCell ⟨w.heap.size, 1, none⟩ v) ∧ Sub w.heap.size Y (fun k => k = cf ∨ Y' k) ∧
      TuJC n0 r cf (fun k => k = cf ∨ Y' k) M' ((w2.setCell ⟨w.heap.size, 0, none⟩ u).setCell ⟨w.heap.size, 1, none⟩ v) := by
  have lcf := h1 _ h2
  have hcf0 : (w.alloc o).heap[cf]? = w.heap[cf]? := Below.heap_alloc _ _ _ (by omega)
  have hcf : w1.heap[cf]? = w.heap[cf]? := (hu.block cf (by simp; omega) (fun _ e => (h5 cf e).2 rfl)).trans hcf0
  have hc := (World.cell?_of_block (a := ⟨cf, 0, none⟩) hcf).trans h3
  have hsz := hu.size
  simp at hsz
  have hb2 := hb.size
  have hne : ∀ k, Y' k ∨ k < n0 → w.heap.size ≠ k := by
    rintro k (e | e) rfl
    · rcases hs _ e with e' | e'
      · have := h1 _ (h5 _ e').1; omega
      · simp at e'; omega
    · omega
  have hY : ∀ k, Y' k → k ≠ cf := by
    rintro k e rfl
    rcases hs _ e with e' | e'
    · exact (h5 _ e').2 rfl
    · simp at e'; omega
  have heap2 : ∀ k, w.heap.size ≠ k → ((w2.setCell ⟨w.heap.size, 0, none⟩ u).setCell ⟨w.heap.size, 1, none⟩ v).heap[k]? = w2.heap[k]? := fun k e => by
    have e' : k ≠ w.heap.size := fun h => e h.symm
    exact (Below.heap_setCell _ _ _ _ (by first | exact e | exact e')).trans (Below.heap_setCell _ _ _ _ (by first | exact e | exact e'))
  have size2 : ((w2.setCell ⟨w.heap.size, 0, none⟩ u).setCell ⟨w.heap.size, 1, none⟩ v).heap.size = w2.heap.size := by simp [World.setCell]
  refine ⟨hc, (((((Upd.refl (allOf Y) w).alloc o).trans (hu.allMono fun k e => (h5 k e).1)).trans (Upd.of_below hb)).setCell _ _ _ (fun h => absurd h (Nat.lt_irrefl _))).setCell _ _ _ (fun h => absurd h (Nat.lt_irrefl _)), ?_, ?_, .inl rfl, ?_, Y', hm.keep (by rw [size2]; exact hb2) (fun k e => (heap2 k (hne k e)).trans (hb.block k (hm.lt k e))), fun k e => ⟨.inr e, hY k e⟩⟩
  · rintro k (rfl | e)
    · exact .inl h2
    · rcases hs k e with e' | e'
      · exact .inl (h5 k e').1
      · simp at e'; exact .inr (by omega)
  · rw [size2]
    rintro k (rfl | e)
    · omega
    · have := hm.inside k e; omega
  · exact (World.cell?_of_block (a := ⟨cf, 0, none⟩) ((heap2 cf (by omega)).trans ((hb.block cf (by omega)).trans hcf))).trans h3
set_option maxRecDepth 100000 in
set_option maxHeartbeats 1000000 in
theorem turn1_anyC {n0 r cf : Nat} {Y : Nat → Prop} {M : List Ct} {w : World} (hn : n0 ≤ w.heap.size) (h : TuJC n0 r cf Y M w) :
    Calls Try.prog 82 #[.pointer (some ⟨r, 0, none⟩), .pointer (some ⟨cf, 0, none⟩)] w (TellEndC n0 Y M (TuJC n0 r cf) w) := by
  obtain ⟨h1, h2, h3, Yr, h4, h5⟩ := h
  have HC := Lib.hid (next_anyC (h4.alloc (.cells #[.slice none 0 0, .int .i64 0] 68)))
  have HE := Lib.hid (fun w1 w2 Y' M' (hu : Upd (allOf Yr) (w.alloc (.cells #[.slice none 0 0, .int .i64 0] 68)) w1) hs (hm : MadeC n0 r Y' M' w1) (hb : Below w1.heap.size w1 w2) u v => turn_afterC h1 hn h2 h3 h5 hu hs hm hb u v)
  have HI := Lib.hid (show ∀ x, Yr x → x < w.heap.size from fun x e => (h1 x (h5 x e).1).2)
  have lcf := (h1 _ h2).2
  have HN := Lib.hid hn
  clear h1 h2 h3 h4 h5 hn
  go_enter Try.func82, Try.ntmps82
  go_wp2_with fail
  refine HC.out.mono ?_
  rintro e w1 ⟨h, ok, rfl, hu, Y', hs, hm, hd⟩
  have hc1 := upd_cell HI.out hu
  have hsz : w.heap.size < w1.heap.size := (Array.getElem?_eq_some_iff.1 hc1).1
  cases M with
  | nil =>
    obtain ⟨rfl, rfl⟩ := hd
    have HQ := Lib.hid (HE.out w1 _ Y' _ hu hs hm (Below.refl _ _) (.slice none 0 0) (.int .i64 0))
    have HN2 := Lib.hid (cells_set2 hc1 (.slice none 0 0) (.int .i64 0))
    have c0 := cell_of_row w1 w.heap.size 0 _ _ (0, 0) hc1
    have c1 := cell_of_row w1 w.heap.size 1 _ _ (0, 0) hc1
    have f0 := frozen_of_row w1 w.heap.size 0 _ _ hc1
    have f1 := frozen_of_row w1 w.heap.size 1 _ _ hc1
    clear hu hs hm hc1 HC HE
    go_wp2_with fail
    obtain ⟨n0', n1'⟩ := HN2.out
    refine bodyPost_ret (v := .tuple #[.agg #[.slice none 0 0, .int .i64 0], .bool false]) (by simp [results, Try.results82, go_sem, n0', n1', hsz]) rfl ⟨rawZ, false, rfl, HQ.out.2.1.alloc _, _, HQ.out.2.2.1, HQ.out.2.2.2.alloc HN.out _, rfl, rfl⟩
  | cons x r' =>
    obtain ⟨⟨hp, hl, hc⟩, hk⟩ := h
    obtain ⟨e1, e2, e3⟩ := hd
    subst e1
    have hcf := (HE.out w1 w1 Y' _ hu hs hm (Below.refl _ _) (.slice none 0 0) (.int .i64 0)).1
    have HQ := Lib.hid (fun w2 hb u v => HE.out w1 w2 Y' _ hu hs hm hb u v)
    have HX := Lib.hid e2
    have HP := Lib.hid (copied_any ((hp, hl, hc), hk) x.1 (w1.alloc (.cells #[.slice hp hl hc, .int .i64 hk] 68)) (e3.keep (S' := fun _ => True) (fun _ _ _ => trivial) (fun k _ hk => Below.heap_alloc _ _ _ (by omega))))
    have HR1 := Lib.hid hc1
    have HY := Lib.hid hm.inside
    have lcf1 : cf < w1.heap.size := by omega
    clear hu hs hm hc1 HC HE e2 e3
    go_wp2_with fail
    refine HP.out.mono ?_
    rintro e w2 ⟨⟨⟨hp2, hl2, hc2⟩, hk2⟩, rfl, q1, q2, hb2⟩
    have hB := (below_new' w1 (.cells #[.slice hp hl hc, .int .i64 hk] 68)).trans (hb2.mono (by simp))
    have hc1 := (hB.block w.heap.size (by omega)).trans HR1.out
    have HN2 := Lib.hid (cells_set2 hc1 (.slice hp2 hl2 hc2) (.int .i64 hk2))
    have c0 := cell_of_row w2 w.heap.size 0 _ _ (0, 0) hc1
    have c1 := cell_of_row w2 w.heap.size 1 _ _ (0, 0) hc1
    have f0 := frozen_of_row w2 w.heap.size 0 _ _ hc1
    have f1 := frozen_of_row w2 w.heap.size 1 _ _ hc1
    have HZ := Lib.hid (HQ.out w2 hB (.slice hp2 hl2 hc2) (.int .i64 hk2))
    have HT := Lib.hid q2
    have HK := Lib.hid q1
    clear hb2 hB hc1 q1 q2
    go_wp2_with fail
    obtain ⟨n0', n1'⟩ := HN2.out
    obtain ⟨-, y1, y2, y3⟩ := HZ.out
    refine bodyPost_ret (v := .tuple #[.agg #[.slice hp2 hl2 hc2, .int .i64 hk2], .bool true]) (by simp [results, Try.results82, go_sem, n0', n1']) rfl ⟨((hp2, hl2, hc2), hk2), true, rfl, y1, _, y2, y3, rfl, HK.out.trans HX.out, HT.out.keep (fun k e _ => ?_) (fun k e _ => ?_)⟩
    · simp at e
      refine .inr ⟨by have := HN.out; omega, .inr (by omega), ?_⟩
      rintro (rfl | e')
      · omega
      · have := HY.out k e'; omega
    · simp at e
      have ke : w.heap.size ≠ k := by omega
      have ke' : k ≠ w.heap.size := by omega
      exact (Below.heap_setCell _ _ _ _ (by first | exact ke | exact ke')).trans (Below.heap_setCell _ _ _ _ (by first | exact ke | exact ke'))
end
section
open Go Go.RowKit Go.Shelf

theorem TuJC.tells {n0 r cf : Nat} {Y : Nat → Prop} {M : List Ct} {w : World} (hn : n0 ≤ w.heap.size) (h : TuJC n0 r cf Y M w) :
    TellsC n0 82 #[.pointer (some ⟨r, 0, none⟩), .pointer (some ⟨cf, 0, none⟩)] Y M w :=
  ⟨h.1, hn, TuJC n0 r cf, Y, fun _ e => e, h, fun _ _ _ h => h.1, fun _ _ _ _ h => h.keep, fun _ _ _ hn h => turn1_anyC hn h⟩
theorem eqlTurnC (W : World) : (binOp .eql 104 copFn .nilFunc).run Try.prog W = .ok (.bool false) W := by kernel_rfl
set_option maxRecDepth 100000 in
set_option maxHeartbeats 1000000 in
theorem turn_anyC {n0 b : Nat} {F : Nat → Prop} {L : List Ct} {w : World} (h : MadeC n0 b F L w) : Calls Try.prog 64 #[copFn, curVC b] w (OverC n0 F L w) := by
  have hmf : ∀ (fn : Fn) (first cap : Array Value) (w : World), (Instr.makeFunc fn first cap).run Try.prog w = .ok (.func fn first cap) w := fun _ _ _ _ => rfl
  have q := eqlTurnC
  have HF := Lib.hid (from_anyC b (w.alloc (.cells #[copFn] 104)))
  go_enter Try.func64, Try.ntmps64
  go_wp2_with fail
  refine HF.out.mono ?_
  rintro e w1 ⟨rfl, hw1⟩
  have hs1 : w1.heap.size = w.heap.size + 2 := by rw [← hw1]; simp
  have hb1 : Below w.heap.size w w1 := by rw [← hw1]; exact ((Below.refl _ _).alloc (Nat.le_refl _) _).alloc (by simp) _
  have hcf : w1.heap[w.heap.size]? = some (.cells #[copFn] 104 (0, 0)) := by rw [← hw1]; exact (Below.heap_alloc _ _ _ (by simp)).trans (heap_alloc_new w _)
  have HQ := Lib.hid (And.intro hs1 (And.intro hb1 hcf))
  clear hw1 hs1 hb1 hcf HF
  go_wp2_with fail
  refine (cursor_anyC _ _ _).mono ?_
  rintro e w2 ⟨rfl, rfl⟩
  go_wp2_with fail
  go_ret
  obtain ⟨hs1, hb1, hcf⟩ := HQ.out
  have hbase := h.base
  have hm := made_newC 122 (FvC.next b) ((h.below hb1).tells)
  obtain ⟨w3, hw3⟩ : ∃ w3, w3 = w1.alloc (.cells #[nextVC b] 122) := ⟨_, rfl⟩
  rw [← hw3] at hm ⊢
  have hs3 : w3.heap.size = w1.heap.size + 1 := by rw [hw3]; simp
  have hb3 : Below w.heap.size w w3 := by rw [hw3]; exact hb1.alloc hb1.size _
  have hcf3 : w3.heap[w.heap.size]? = some (.cells #[copFn] 104 (0, 0)) := by rw [hw3]; exact (Below.heap_alloc _ _ _ (by omega)).trans hcf
  have hT : TuJC n0 w1.heap.size w.heap.size (fun k => k = w.heap.size ∨ k = w1.heap.size ∨ F k) L w3 := by
    refine ⟨?_, .inl rfl, cell_of_row _ _ 0 _ _ (0, 0) hcf3, _, hm, ?_⟩
    · rintro k (rfl | rfl | e)
      · omega
      · omega
      · have := h.inside k e; omega
    · rintro k (rfl | e)
      · exact ⟨.inr (.inl rfl), by omega⟩
      · have := h.inside k e
        exact ⟨.inr (.inr e), by omega⟩
  have hmn := made_newC 122 (FvC.clo _ _ (enters_of Try.func82 (by kernel_rfl) rfl)) (hT.tells (by omega))
  refine ⟨w3.heap.size, _, by rw [hs3]; rfl, hmn, ?_, hb3.alloc hb3.size _⟩
  rintro k (rfl | rfl | rfl | e)
  · exact .inr hb3.size
  · exact .inr (Nat.le_refl _)
  · exact .inr hb1.size
  · exact .inl e
end
end Go.Proofs.Ytcfnpbmkcdmafaa
