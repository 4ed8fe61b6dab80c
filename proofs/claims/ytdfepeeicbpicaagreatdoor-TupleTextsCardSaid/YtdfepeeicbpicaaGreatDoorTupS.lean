/-
  slices.SortFunc at tuples, by the library's contract: a row of one's own, put in order.
-/
import Derived.Test.YtdfepeeicbpicaaGreatDoorTupE
import Derived.Test.YtdfepeeicbpicaaGreatDoorShelfC
namespace Go.Proofs.YtdfepeeicbpicaaGreatDoor
open Go Go.RowKit

theorem sortW_heap {α : Type} [Inhabited α] (enc : α → Value) (w : World) (g m : Nat) (d : Array α) (os : Array Obj) (k : Nat) (hk : k < w.heap.size) (hne : k ≠ g) : (sortWorld enc w g 0 m d os).heap[k]? = w.heap[k]? := by
  unfold sortWorld Sort.grow Sort.putRow Sort.mapBlock Sort.ahead
  simp only
  rw [Array.getElem?_append_left (by simpa using hk), Array.getElem?_modify, if_neg (Ne.symm hne)]
theorem sortW_row {α : Type} [Inhabited α] (enc : α → Value) (w : World) (g m : Nat) (d : Array α) (os : Array Obj) {cur : Array Value} {e : TypeId} {fr : Nat × Nat} (h : w.heap[g]? = some (.cells cur e fr)) : (sortWorld enc w g 0 m d os).heap[g]? = some (.cells (Sort.putCells enc 0 d cur) e fr) := by
  have hk : g < w.heap.size := (Array.getElem?_eq_some_iff.1 h).1
  unfold sortWorld Sort.grow Sort.putRow Sort.mapBlock Sort.ahead
  simp only
  rw [Array.getElem?_append_left (by simpa using hk), Array.getElem?_modify, if_pos rfl, h]
  rfl
theorem sortW_size {α : Type} [Inhabited α] (enc : α → Value) (w : World) (g m : Nat) (d : Array α) (os : Array Obj) : w.heap.size ≤ (sortWorld enc w g 0 m d os).heap.size := by
  unfold sortWorld Sort.grow Sort.putRow Sort.mapBlock Sort.ahead
  simp
theorem sortW_by {α : Type} [Inhabited α] (enc : α → Value) (w : World) (g m : Nat) (d : Array α) (os : Array Obj) : w.grownBy (sortWorld enc w g 0 m d os) (some g) :=
  ⟨rfl, rfl, rfl, sortW_size enc w g m d os, fun k hk hne => sortW_heap enc w g m d os k hk (fun e => hne (by rw [e]))⟩
theorem putCells_take {α : Type} [Inhabited α] (enc : α → Value) (d : Array α) (cur : Array Value) (h : d.size ≤ cur.size) : (Sort.putCells enc 0 d cur).toList.take d.size = d.toList.map enc := by
  apply List.ext_getElem?
  intro j
  by_cases hj : j < d.size
  · have hc : j < cur.size := by omega
    simp [Sort.putCells, hj, hc]
  · simp [List.getElem?_take, hj]
theorem sortW_own {α : Type} [Inhabited α] (enc : α → Value) (w : World) (base g cap m : Nat) (e : TypeId) (d d' : Array α) (os : Array Obj) (hs : d'.size = d.size) (h : w.ownsRow base e 1 (.slice (some ⟨g, 0, none⟩) d.size cap) d.size (d.toList.map enc)) :
    (sortWorld enc w g 0 m d' os).ownsRow base e 1 (.slice (some ⟨g, 0, none⟩) d.size cap) d.size (d'.toList.map enc) := by
  obtain ⟨hl, h' | ⟨g', cap', cur, h', hb, hg, hnc, hcm, hcs, htake⟩⟩ := h
  · simp at h'
  · simp only [Value.slice.injEq, Option.some.injEq, Addr.mk.injEq, and_true, true_and] at h'
    obtain ⟨rfl, rfl⟩ := h'
    refine ⟨by simp [hs], .inr ⟨g, cap, _, rfl, hb, sortW_row enc w g m d' os hg, hnc, hcm, by simp [Sort.putCells]; omega, ?_⟩⟩
    rw [Nat.mul_one, ← hs]
    exact putCells_take enc d' cur (by omega)

/-- In order: none ahead of one that is less. -/
def SortedP (P : List (Value × List V3)) : Prop := P.Pairwise fun x y => cmpT x.2 y.2 ≤ 0
/-- A tuple that reads in a world. -/
def El (n₀ : Nat) (w : World) : Type := { x : Value × List V3 // TupIn n₀ w x.1 x.2 }
instance (n₀ : Nat) (w : World) : Inhabited (El n₀ w) := ⟨⟨(.slice none 0 0, []), ⟨none, 0, rfl, by simp, .inl rfl⟩⟩⟩
def encE {n₀ : Nat} {w : World} (x : El n₀ w) : Value := x.1.1

/-- What SortFunc leaves. -/
def SortEnd (w : World) (base g cap : Nat) (P : List (Value × List V3)) (e : Ending) (w' : World) : Prop :=
  e = .returned (.tuple #[]) ∧ ∃ P', P'.Perm P ∧ SortedP P' ∧ w'.ownsRow base 23 1 (.slice (some ⟨g, 0, none⟩) P'.length cap) P'.length (P'.map (·.1)) ∧ w.grownBy w' (some g)
theorem sort_any (w : World) (base n₀ g cap : Nat) (P : List (Value × List V3)) (hown : w.ownsRow base 23 1 (.slice (some ⟨g, 0, none⟩) P.length cap) P.length (P.map (·.1))) (hP : AllIn n₀ w P) (hn₀ : n₀ ≤ base) (hlen : P.length ≤ 1000000) (hb : base ≤ w.heap.size) :
    Calls Tryz.prog 69 #[.slice (some ⟨g, 0, none⟩) P.length cap, .func (.func 56) #[] #[]] w (SortEnd w base g cap P) := by
  obtain ⟨hg0, hg1⟩ := hown.lt g rfl
  let d : Array (El n₀ w) := (P.attach.map fun x => (⟨x.1, hP x.1 x.2⟩ : El n₀ w)).toArray
  have hds : d.size = P.length := by
    show (P.attach.map fun x => (⟨x.1, hP x.1 x.2⟩ : El n₀ w)).toArray.size = _
    rw [List.size_toArray, List.length_map, List.length_attach]
  have hdl : d.toList.map (fun x => x.1) = P := by
    show ((P.attach.map fun x => (⟨x.1, hP x.1 x.2⟩ : El n₀ w)).toArray.toList.map fun x => x.1) = P
    rw [List.toList_toArray, List.map_map]
    exact List.attach_map_subtype_val P
  have hde : d.toList.map encE = P.map (·.1) := by
    rw [← hdl, List.map_map]
    rfl
  have hown' := hown
  rw [← hds, ← hde] at hown'
  have h1 : OneCell (encE (n₀ := n₀) (w := w)) := by
    intro x
    obtain ⟨p, c, e, -⟩ := x.2
    show x.1.1.oneCell' = true
    rw [e]
    rfl
  have hget : ∀ j (hj : j < P.length), encE d[j]! = P[j].1 := by
    intro j hj
    have e1 : d[j]! = d[j]'(by omega) := getElem!_pos d j (by omega)
    have e2 : (d.toList.map encE)[j]? = (P.map (·.1))[j]? := by rw [hde]
    rw [List.getElem?_map, List.getElem?_map, List.getElem?_eq_getElem (by rw [Array.length_toList]; omega), List.getElem?_eq_getElem hj] at e2
    simp only [Option.map_some, Option.some.injEq] at e2
    rw [e1]
    exact e2
  have hH : Sort.Holds encE w g 0 d := by
    intro j hj
    have hj' : j < P.length := by omega
    rw [Nat.zero_add]
    refine ⟨?_, hown.frozenAt j⟩
    rw [hown.cellAt j (by omega), hget j hj']
    simp [hj']
  have hC : CmpLays1 Tryz.prog 56 #[] (encE (n₀ := n₀) (w := w)) (fun x y => cmpT x.1.2 y.1.2) g 0 d.size w := by
    intro m os dk hdk x y
    have hB : Below n₀ w (sortWorld encE w g 0 m dk os) := ⟨rfl, rfl, rfl, sortW_size _ _ _ _ _ _, fun k hk => sortW_heap _ _ _ _ _ _ k (by omega) (by omega)⟩
    exact tcompare_any _ _ _ _ n₀ _ (x.2.below hB) (y.2.below hB) (by have := hB.size; omega)
  have h := Any.slices_SortFunc (α := El n₀ w) Tryz.sortL encE h1 (fun x y => cmpT x.1.2 y.1.2) (swoT fun x : El n₀ w => x.1.2) 56 #[] g 0 cap d w
    (enters_of Tryz.func56 (by kernel_rfl) rfl) hC hH hg1 (by omega)
  rw [hds] at h
  refine h.mono ?_
  rintro e w' ⟨he, d', m, os, hperm, hsort, rfl⟩
  obtain ⟨hsz, -, hp⟩ := hperm
  have hl' : (d'.toList.map fun x => x.1).length = P.length := by simp; omega
  refine ⟨he, d'.toList.map fun x => x.1, ?_, ?_, ?_, sortW_by _ _ _ _ _ _⟩
  · have e1 : (d'.extract 0 P.length).toList = d'.toList := by rw [Array.extract_eq_self_of_le (by omega)]
    have e2 : (d.extract 0 P.length).toList = d.toList := by rw [Array.extract_eq_self_of_le (by omega)]
    rw [e1, e2] at hp
    have := hp.map fun x => x.1
    rwa [hdl] at this
  · rw [SortedP, List.pairwise_map, List.pairwise_iff_getElem]
    intro i j hi hj hij
    have hi' : i < d'.size := by simpa using hi
    have hj' : j < d'.size := by simpa using hj
    have h2 := hsort i j (Nat.zero_le _) hij (by omega)
    rw [getElem!_pos d' i hi', getElem!_pos d' j hj'] at h2
    simp only [ltOf, decide_eq_false_iff_not] at h2
    have e3 := cmpT_neg (d'.toList[i]).1.2 (d'.toList[j]).1.2
    simp only [Array.getElem_toList] at e3 ⊢
    omega
  · have h3 := sortW_own encE w base g cap m _ d d' os (by omega) hown'
    rw [hl', ← hds, List.map_map]
    exact h3
end Go.Proofs.YtdfepeeicbpicaaGreatDoor
