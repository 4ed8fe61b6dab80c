/-
  Contract of tuple.listOf at rows of tuples that are not empty: put in order, each run of alike ones once.
-/
import Derived.Test.YtdfepeeicbpicaaGreatDoorTupS
import Derived.RangeFuncBox
import Derived.Laws.EntriesVeiled
namespace Go.Proofs.YtdfepeeicbpicaaGreatDoor
open Go Go.RowKit

/-- What listOf leaves. -/
def ListEnd (w : World) (P : List (Value × List V3)) (e : Ending) (w' : World) : Prop :=
  ∃ (P' : List (Value × List V3)) (g cap : Nat), e = .returned (.agg #[.func (.func 56) #[] #[], .slice (some ⟨g, 0, none⟩) (dedup likeT P').length cap]) ∧ P'.Perm P ∧ SortedP P' ∧
    w'.ownsRow w.heap.size 23 1 (.slice (some ⟨g, 0, none⟩) (dedup likeT P').length cap) (dedup likeT P').length ((dedup likeT P').map (·.1)) ∧ Below w.heap.size w w'
theorem own_mono {w : World} {base base' : Nat} {e : TypeId} {size : Nat} {v : Value} {n : Nat} {xs : List Value} (h : w.ownsRow base e size v n xs) (hb : base' ≤ base) : w.ownsRow base' e size v n xs := by
  obtain ⟨hl, h' | ⟨g, cap, cur, hv, hbb, hg, r⟩⟩ := h
  · exact ⟨hl, .inl h'⟩
  · exact ⟨hl, .inr ⟨g, cap, cur, hv, Nat.le_trans hb hbb, hg, r⟩⟩
theorem own_other {w : World} {base : Nat} {e : TypeId} {size : Nat} {v : Value} {n : Nat} {xs : List Value} (h : w.ownsRow base e size v n xs) (b o : Nat) (u : Value) (hne : v.ownBlock ≠ some b) : (w.setCell ⟨b, o, none⟩ u).ownsRow base e size v n xs :=
  h.kept (row := some b) ⟨rfl, rfl, rfl, by simp, fun k _ hk => heap_setCell_other w ⟨b, o, none⟩ k u (fun e => hk (by simp [e]))⟩ (.inr hne)
theorem RowAt.below {W W' : World} {n b off : Nat} {P : List (Value × List V3)} (h : RowAt W b off P) (hb : Below n W W') (hl : b < n) : RowAt W' b off P := fun j hj => (hb.cell (p := ⟨b, off + j, none⟩) hl).trans (h j hj)
theorem AllIn.below {n₀ : Nat} {W W' : World} {P : List (Value × List V3)} (h : AllIn n₀ W P) (hb : Below n₀ W W') : AllIn n₀ W' P := fun x hx => (h x hx).below hb
theorem AllIn.mono {n₀ n₁ : Nat} {W : World} {P : List (Value × List V3)} (h : AllIn n₀ W P) (hn : n₀ ≤ n₁) : AllIn n₁ W P := fun x hx => (h x hx).mono hn
theorem AllIn.perm {n₀ : Nat} {W : World} {P P' : List (Value × List V3)} (h : AllIn n₀ W P) (hp : P'.Perm P) : AllIn n₀ W P' := fun x hx => h x (hp.mem_iff.1 hx)

set_option maxHeartbeats 1000000 in
set_option maxRecDepth 100000 in
theorem listOf_any (w : World) (n₀ b off c : Nat) (P : List (Value × List V3)) (hP : AllIn n₀ w P) (hrow : RowAt w b off P) (hb : b < w.heap.size) (h1 : 1 ≤ P.length) (hlen : P.length ≤ 1000000) (hn₀ : n₀ ≤ w.heap.size) :
    Calls Tryz.prog 55 #[.func (.func 56) #[] #[], .slice (some ⟨b, off, none⟩) P.length c] w (ListEnd w P) := by
  have HP := Lib.hid hP
  have HR := Lib.hid hrow
  clear hP hrow
  go_enter Tryz.func55, Tryz.ntmps55
  go_wp2_with fail
  have hg0 : Below w.heap.size w ((w.alloc (.cells #[.func (.func 56) #[] #[]] 49)).alloc (.cells #[.nilFunc, .slice none 0 0] 90)) := (below_new _ _).alloc (by simp) _
  refine (clone_any _ n₀ b off c P (HP.out.below (hg0.mono hn₀)) (HR.out.below hg0 hb) (by simp; omega) h1 hlen).mono ?_
  rintro e w1 ⟨g, cap, rfl, hown1, hb1⟩
  have hB1 : Below w.heap.size w w1 := hg0.trans (hb1.mono (by simp; omega))
  have hz1 : w.heap.size + 2 ≤ w1.heap.size := by have := hb1.size; simpa using this
  have c1 : w1.cell? ⟨w.heap.size, 0, none⟩ = some (.func (.func 56) #[] #[]) := (hb1.cell (p := ⟨w.heap.size, 0, none⟩) (by simp; omega)).trans (by simp)
  have d1 : w1.cell? ⟨w.heap.size + 1, 0, none⟩ = some .nilFunc := (hb1.cell (p := ⟨w.heap.size + 1, 0, none⟩) (by simp)).trans (by simp)
  have d2 : w1.cell? ⟨w.heap.size + 1, 1, none⟩ = some (.slice none 0 0) := (hb1.cell (p := ⟨w.heap.size + 1, 1, none⟩) (by simp)).trans (by simp)
  have f1 : w1.frozen? ⟨w.heap.size + 1, 0, none⟩ = false := (hb1.frozen (p := ⟨w.heap.size + 1, 0, none⟩) (by simp)).trans (by simp)
  have f2 : w1.frozen? ⟨w.heap.size + 1, 1, none⟩ = false := (hb1.frozen (p := ⟨w.heap.size + 1, 1, none⟩) (by simp)).trans (by simp)
  have e0 : ((w.alloc (.cells #[.func (.func 56) #[] #[]] 49)).alloc (.cells #[.nilFunc, .slice none 0 0] 90)).heap.size = w.heap.size + 2 := by simp
  rw [e0] at hown1
  clear hb1 hg0 e0
  obtain ⟨hg, hgl⟩ := hown1.lt g rfl
  have HS := Lib.hid (sort_any w1 (w.heap.size + 2) n₀ g cap P hown1 (HP.out.below (hB1.mono hn₀)) (by omega) hlen hz1)
  clear hown1
  go_wp2_with fail
  refine HS.out.mono ?_
  rintro e w2 ⟨rfl, P', hperm, hsort, hown2, hby2⟩
  have hB2 : Below (w.heap.size + 2) w1 w2 := by_below hby2 hg hz1
  have c2 : w2.cell? ⟨w.heap.size, 0, none⟩ = some (.func (.func 56) #[] #[]) := (hB2.cell (p := ⟨w.heap.size, 0, none⟩) (by simp)).trans c1
  have hz2 : w.heap.size + 2 ≤ w2.heap.size := Nat.le_trans hz1 hB2.size
  have hll : P'.length = P.length := hperm.length_eq
  have HC := Lib.hid (compactF_any w2 (w.heap.size + 2) g cap w.heap.size P' hown2 ((((HP.out.perm hperm).below (hB1.mono hn₀)).mono (by omega : n₀ ≤ w.heap.size + 2)).below hB2) (by omega) hz2 c2 (by omega) (by omega))
  rw [hll] at HC
  have HN := Lib.hid (And.intro hperm hsort)
  have HB := Lib.hid (hB1.trans (hB2.mono (by omega)))
  have x1 := (hB2.cell (p := ⟨w.heap.size + 1, 0, none⟩) (by simp)).trans d1
  have x2 := (hB2.cell (p := ⟨w.heap.size + 1, 1, none⟩) (by simp)).trans d2
  have y1 := (hB2.frozen (p := ⟨w.heap.size + 1, 0, none⟩) (by simp)).trans f1
  have y2 := (hB2.frozen (p := ⟨w.heap.size + 1, 1, none⟩) (by simp)).trans f2
  clear hown2 hby2 hB2 hperm hsort c1 d1 d2 f1 f2 hll
  go_wp2_with fail
  refine HC.out.mono ?_
  rintro e w3 ⟨rfl, hown3, hby3⟩
  have hB3 : Below (w.heap.size + 2) w2 w3 := by_below hby3 hg hz2
  have z1 := (hB3.cell (p := ⟨w.heap.size + 1, 0, none⟩) (by simp)).trans x1
  have z2 := (hB3.cell (p := ⟨w.heap.size + 1, 1, none⟩) (by simp)).trans x2
  have u1 := (hB3.frozen (p := ⟨w.heap.size + 1, 0, none⟩) (by simp)).trans y1
  have u2 := (hB3.frozen (p := ⟨w.heap.size + 1, 1, none⟩) (by simp)).trans y2
  have c3 := (hB3.cell (p := ⟨w.heap.size, 0, none⟩) (by simp)).trans c2
  have HO := Lib.hid hown3
  have HB3 := Lib.hid (HB.out.trans (hB3.mono (by omega)))
  have hz3 : w.heap.size + 2 ≤ w3.heap.size := Nat.le_trans hz2 hB3.size
  clear hown3 hby3 hB3 x1 x2 y1 y2 c2
  go_wp2_with fail
  refine bodyPost_ret (v := .agg #[.func (.func 56) #[] #[], .slice (some ⟨g, 0, none⟩) (dedup likeT P').length cap]) (by simp [results, Tryz.results55, go_sem, z1, z2]) rfl ?_
  refine ⟨P', g, cap, rfl, HN.out.1, HN.out.2, ?_, ?_⟩
  · have hne : w.heap.size + 1 ≠ g := by omega
    exact own_other (own_other (own_mono HO.out (by omega)) _ _ _ (by simpa [Value.ownBlock] using Ne.symm hne)) _ _ _ (by simpa [Value.ownBlock] using Ne.symm hne)
  · exact (HB3.out.setCell (by simp) _).setCell (by simp) _
end Go.Proofs.YtdfepeeicbpicaaGreatDoor
