/-
  Lists of places: emptyList, last, lead, leave, places.
-/
import Derived.Test.YtdjebcfpodfhhaaChN
namespace Go.Proofs.Ytdjebcfpodfhhaa
open Go Go.RowKit

abbrev ptr (b : Nat) : Value := .pointer (some ⟨b, 0, none⟩)
set_option maxRecDepth 100000 in
theorem emptyList_any (w : World) : Calls Try.prog 25 #[] w fun e w' => e = .returned (.agg #[ptr (w.heap.size + 1)]) ∧ Below w.heap.size w w' ∧ w'.heap.size = w.heap.size + 2 ∧
    w'.heap[w.heap.size + 1]? = some (.cells #[.string ⟨#[]⟩, .int .i64 0, .slice none 0 0, ptr (w.heap.size + 1), ptr (w.heap.size + 1)] 81 (0, 0)) := by
  go_enter Try.func25, Try.ntmps25
  go_wp2_with fail
  refine bodyPost_ret (v := .agg #[ptr (w.heap.size + 1)]) (by simp [results, Try.results25, go_sem]) rfl ⟨rfl, ?_, ?_, ?_⟩
  · exact ((Below.refl _ _).alloc (Nat.le_refl _) _).alloc (by simp) _
  · simp
  · exact (by simpa using heap_alloc_new (w.alloc (.cells #[ptr (w.heap.size + 1)] 65)) (.cells #[.string ⟨#[]⟩, .int .i64 0, .slice none 0 0, ptr (w.heap.size + 1), ptr (w.heap.size + 1)] 81))
set_option maxRecDepth 100000 in
theorem last_any (w : World) (s x : Nat) (hs : s < w.heap.size) (hx : w.cell? ⟨s, 3, none⟩ = some (ptr x)) : Tells 32 #[.agg #[ptr s]] w (ptr x) := by
  go_enter Try.func32, Try.ntmps32
  go_wp2_with fail
  go_ret
  exact ⟨rfl, (Below.refl _ _).alloc (Nat.le_refl _) _⟩
set_option maxRecDepth 100000 in
theorem places_any (w : World) (s : Nat) : Calls Try.prog 30 #[.agg #[ptr s]] w fun e w' => e = .returned (.func (.func 39) #[] #[ptr w.heap.size]) ∧ w' = w.alloc (.cells #[ptr s] 65) := by
  go_enter Try.func30, Try.ntmps30
  go_wp2_with fail
  go_ret
  exact ⟨rfl, rfl⟩
/-- What a place that leaves leaves behind. -/
structure LeaveW (w w' : World) (x y : Nat) : Prop where
  upd : Upd (fun b o => (b = x ∧ o = 4) ∨ (b = y ∧ o = 3)) w w'
  next : w'.cell? ⟨x, 4, none⟩ = some (ptr y)
  prev : w'.cell? ⟨y, 3, none⟩ = some (ptr x)
theorem leaveW_mk {w : World} {x y : Nat} (hx : Bk w x 81 5) (hy : Bk w y 81 5) : LeaveW w ((w.setCell ⟨x, 4, none⟩ (ptr y)).setCell ⟨y, 3, none⟩ (ptr x)).drew x y := by
  refine ⟨(((Upd.refl _ w).setCell x 4 _ (fun _ => .inl ⟨rfl, rfl⟩)).setCell y 3 _ (fun _ => .inr ⟨rfl, rfl⟩)).drew, ?_, ?_⟩
  · show World.cell? ((w.setCell ⟨x, 4, none⟩ (ptr y)).setCell ⟨y, 3, none⟩ (ptr x)) _ = _
    rw [World.cell?_setCell_other _ _ _ _ (fun e => by injection e with _ e; cases e)]
    exact World.cell?_setCell_same' _ _ _ (hx.there (by decide))
  · exact World.cell?_setCell_same' _ _ _ ((hy.setCell x 4 _).there (by decide))
set_option maxRecDepth 100000 in
set_option maxHeartbeats 4000000 in
theorem leave_any (w : World) (p x y : Nat) (hx : Bk w x 81 5) (hy : Bk w y 81 5) (c3 : w.cell? ⟨p, 3, none⟩ = some (ptr x)) (c4 : w.cell? ⟨p, 4, none⟩ = some (ptr y)) :
    Calls Try.prog 35 #[ptr p] w fun e w' => e = .returned (.tuple #[]) ∧ LeaveW w w' x y := by
  have fx := hx.free 4
  have fy := hy.free 3
  have HE := Lib.hid (leaveW_mk hx hy)
  obtain ⟨u, hu⟩ := Option.isSome_iff_exists.1 (hx.there (o := 4) (by decide))
  obtain ⟨v, hv⟩ := Option.isSome_iff_exists.1 (hy.there (o := 3) (by decide))
  clear hx hy
  go_enter Try.func35, Try.ntmps35
  go_wp2_with fail
  go_region
  go_end0
  exact ⟨rfl, HE.out⟩
/-- What a place that comes to the front leaves behind. -/
structure LeadW (w w' : World) (s f p : Nat) : Prop where
  upd : Upd (fun b o => (b = p ∧ (o = 3 ∨ o = 4)) ∨ (b = s ∧ o = 4) ∨ (b = f ∧ o = 3)) w w'
  next : w'.cell? ⟨s, 4, none⟩ = some (ptr p)
  prevP : w'.cell? ⟨p, 3, none⟩ = some (ptr s)
  nextP : w'.cell? ⟨p, 4, none⟩ = some (ptr f)
  prev : w'.cell? ⟨f, 3, none⟩ = some (ptr p)
theorem cell_box {W : World} {o : Obj} {b j : Nat} (h : b < W.heap.size) : ((W.alloc o).drew.drew).cell? ⟨b, j, none⟩ = W.cell? ⟨b, j, none⟩ := by
  show (W.alloc o).cell? _ = _
  exact World.cell?_alloc_lt _ _ _ h
theorem leadW_mk {w : World} {s f p : Nat} {o : Obj} (hs : Bk w s 81 5) (hf : Bk w f 81 5) (hp : Bk w p 81 5) (hps : p ≠ s) (hpf : p ≠ f) :
    LeadW w (((((w.setCell ⟨p, 3, none⟩ (ptr s)).setCell ⟨p, 4, none⟩ (ptr f)).setCell ⟨s, 4, none⟩ (ptr p)).setCell ⟨f, 3, none⟩ (ptr p)).alloc o).drew.drew s f p := by
  have h1 := fun {b n : Nat} {t : TypeId} (h : Bk w b t n) => h.setCell p 3 (ptr s)
  have h2 := fun {b n : Nat} {t : TypeId} (h : Bk w b t n) => (h1 h).setCell p 4 (ptr f)
  have h3 := fun {b n : Nat} {t : TypeId} (h : Bk w b t n) => (h2 h).setCell s 4 (ptr p)
  have sz : ∀ {b n : Nat} {t : TypeId}, Bk w b t n → b < ((((w.setCell ⟨p, 3, none⟩ (ptr s)).setCell ⟨p, 4, none⟩ (ptr f)).setCell ⟨s, 4, none⟩ (ptr p)).setCell ⟨f, 3, none⟩ (ptr p)).heap.size := fun h => ((h3 h).setCell f 3 (ptr p)).lt
  refine ⟨((((((Upd.refl _ w).setCell p 3 _ (fun _ => .inl ⟨rfl, .inl rfl⟩)).setCell p 4 _ (fun _ => .inl ⟨rfl, .inr rfl⟩)).setCell s 4 _ (fun _ => .inr (.inl ⟨rfl, rfl⟩))).setCell f 3 _ (fun _ => .inr (.inr ⟨rfl, rfl⟩))).alloc o).drew.drew, ?_, ?_, ?_, ?_⟩
  · refine (cell_box (sz hs)).trans ?_
    rw [World.cell?_setCell_other _ _ _ _ (fun e => by injection e with _ e; cases e)]
    exact World.cell?_setCell_same' _ _ _ ((h2 hs).there (by decide))
  · refine (cell_box (sz hp)).trans ?_
    rw [World.cell?_setCell_other _ _ _ _ (fun e => by injection e with e; exact hpf e.symm), World.cell?_setCell_other _ _ _ _ (fun e => by injection e with _ e; cases e), World.cell?_setCell_other _ _ _ _ (fun e => by injection e with _ e; cases e)]
    exact World.cell?_setCell_same' _ _ _ (hp.there (by decide))
  · refine (cell_box (sz hp)).trans ?_
    rw [World.cell?_setCell_other _ _ _ _ (fun e => by injection e with _ e; cases e), World.cell?_setCell_other _ _ _ _ (fun e => by injection e with e; exact hps e.symm)]
    exact World.cell?_setCell_same' _ _ _ ((h1 hp).there (by decide))
  · refine (cell_box (sz hf)).trans ?_
    exact World.cell?_setCell_same' _ _ _ ((h3 hf).there (by decide))
set_option maxRecDepth 100000 in
set_option maxHeartbeats 4000000 in
theorem lead_any (w : World) (s f p : Nat) (hs : Bk w s 81 5) (hf : Bk w f 81 5) (hp : Bk w p 81 5) (hps : p ≠ s) (hpf : p ≠ f) (c4 : w.cell? ⟨s, 4, none⟩ = some (ptr f)) :
    Calls Try.prog 34 #[.agg #[ptr s], ptr p] w fun e w' => e = .returned (.tuple #[]) ∧ LeadW w w' s f p := by
  have fs := hs.free 4
  have ff := hf.free 3
  have fp3 := hp.free 3
  have fp4 := hp.free 4
  have ls := hs.lt
  have lf := hf.lt
  have lp := hp.lt
  obtain ⟨u, hu⟩ := Option.isSome_iff_exists.1 (hf.there (o := 3) (by decide))
  obtain ⟨v3, hv3⟩ := Option.isSome_iff_exists.1 (hp.there (o := 3) (by decide))
  obtain ⟨v4, hv4⟩ := Option.isSome_iff_exists.1 (hp.there (o := 4) (by decide))
  have HP := Lib.hid (And.intro hs (And.intro hf hp))
  clear hs hf hp
  go_enter Try.func34, Try.ntmps34
  go_wp2_with fail
  go_region
  go_wp2_with fail
  have hsp : s ≠ p := fun e => hps e.symm
  have hfp : f ≠ p := fun e => hpf e.symm
  go_region
  go_end0
  exact ⟨rfl, leadW_mk HP.out.1 HP.out.2.1 HP.out.2.2 hps hpf⟩
end Go.Proofs.Ytdjebcfpodfhhaa
