/-
  The closures of MergeCuts; words for its walk.
-/
import Derived.Test.YtemfglpjokmioaaMgFi
import Derived.Test.YtemfglpjokmioaaMgTj
import Derived.Test.YtemfglpjokmioaaMgRo
namespace Go.Proofs.Ytemfglpjokmioaa
open Go Go.RowKit Go.Shelf

/-- The state of the law's condition: its variable. -/
def LeHs (z : Nat) (least : Int) : Unit → (Nat → Prop) → World → Prop := fun _ Y w => (∀ k, Y k → k < w.heap.size) ∧ Y z ∧ w.heap[z]? = some (.cells #[.int .i8 least] 26 (0, 0))
def leStep (least : Int) : Unit → Th → Bool × Unit := fun _ x => (decide (least ≤ x.1), ())
set_option maxRecDepth 100000 in
theorem cuts1_any {z : Nat} {least : Int} {Y : Nat → Prop} {w : World} (x : Th) (h : LeHs z least () Y w) : Calls Try.prog 30 #[thV x, .pointer (some ⟨z, 0, none⟩)] w fun e w' =>
    e = .returned (.bool (leStep least () x).1) ∧ Upd (allOf Y) w w' ∧ ∃ Y', Sub w.heap.size Y Y' ∧ LeHs z least () Y' w' := by
  obtain ⟨h1, h2, h3b⟩ := h
  have hl := h1 _ h2
  have h3 := cell_of_row _ _ 0 _ _ (0, 0) h3b
  have hb := (Below.refl w.heap.size w).alloc (Nat.le_refl _) (.cells #[.int .i8 x.1, .int .i64 x.2] 28)
  have HB := Lib.hid (show Upd (allOf Y) w (w.alloc (.cells #[.int .i8 x.1, .int .i64 x.2] 28)) ∧ ∃ Y', Sub w.heap.size Y Y' ∧ LeHs z least () Y' (w.alloc (.cells #[.int .i8 x.1, .int .i64 x.2] 28)) from
    ⟨Upd.of_below hb, Y, fun k e => .inl e, fun k e => Nat.lt_of_lt_of_le (h1 k e) hb.size, h2, (hb.block z hl).trans h3b⟩)
  clear h1 h2 hb h3b
  unfold leStep
  go_enter Try.func30, Try.ntmps30
  go_wp2_with fail
  go_ret
  exact ⟨rfl, HB.out⟩
theorem le_holds (z : Nat) (least : Int) : HoldsOk 30 #[.pointer (some ⟨z, 0, none⟩)] (LeHs z least) (leStep least) where
  enter := enters_of Try.func30 (by kernel_rfl) rfl
  inside h := h.1
  keep h hs hb := ⟨fun k e => Nat.lt_of_lt_of_le (h.1 k e) hs, h.2.1, (hb z h.2.1).trans h.2.2⟩
  call x h := cuts1_any x h
theorem only_le (least : Int) : ∀ A : List Th, onlyL (leStep least) () A = A.filter fun x => decide (least ≤ x.1)
  | [] => rfl
  | x :: r => by
    unfold onlyL leStep
    simp only [List.filter_cons]
    split <;> (have := only_le least r; unfold leStep at this; simp_all)
theorem filter_take {p : Th → Bool} {A : List Th} {n : Nat} (h : n < A.length) : (A.take (n + 1)).filter p = if p A[n] then (A.take n).filter p ++ [A[n]] else (A.take n).filter p := by
  rw [List.take_succ_eq_append_getElem h, List.filter_append]
  by_cases e : p A[n] <;> simp [e]
theorem ThIn.take {S : Nat → Prop} {w : World} {p : Option Addr} {c n : Nat} {L : List Th} (h : ThIn S w (.slice p L.length c) L) (hn : n ≤ L.length) : ThIn S w (.slice p n c) (L.take n) := by
  obtain ⟨p', c', e, h1, h2, h3⟩ := h
  injection e with e1 e2 e3
  subst e1 e3
  refine ⟨_, c, by rw [List.length_take, Nat.min_eq_left hn], by rw [List.length_take]; omega, h2, ?_⟩
  rcases h3 with h3 | ⟨b, off, rfl, g1, g2, g3⟩
  · exact .inl (by rw [h3, List.take_nil])
  · refine .inr ⟨b, off, rfl, g1, g2, fun j hj => ?_⟩
    rw [List.length_take] at hj
    rw [List.getElem_take]
    exact g3 j (by omega)
theorem ThIn.drop1 {S : Nat → Prop} {w : World} {p : Option Addr} {c n : Nat} {L : List Th} (h : ThIn S w (.slice p L.length c) L) (hn : n ≤ L.length) : ThIn S w (.slice (Option.map (fun x => x.add (n * 2)) p) (L.length - n) (c - n)) (L.drop n) := by
  obtain ⟨p', c', e, h1, h2, h3⟩ := h
  injection e with e1 e2 e3
  subst e1 e3
  refine ⟨_, c - n, by rw [List.length_drop], by rw [List.length_drop]; omega, by omega, ?_⟩
  rcases h3 with h3 | ⟨b, off, rfl, g1, g2, g3⟩
  · exact .inl (by rw [h3, List.drop_nil])
  · refine .inr ⟨b, off + n * 2, by rw [Option.map_some, addr_add], g1, g2, fun j hj => ?_⟩
    rw [List.length_drop] at hj
    have g := g3 (n + j) (by omega)
    rw [show off + (n + j) * 2 = off + n * 2 + j * 2 by omega] at g
    rw [List.getElem_drop]
    exact g
theorem ThIn.drop2 {S : Nat → Prop} {w : World} {p : Option Addr} {n : Nat} {L : List Th} (hn : n = L.length) : ThIn S w (.slice p 0 0) (L.drop n) := by
  subst hn
  rw [List.drop_length]
  exact ⟨p, 0, rfl, Nat.le_refl _, Nat.zero_le _, .inl rfl⟩
end Go.Proofs.Ytemfglpjokmioaa
