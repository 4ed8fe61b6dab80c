/-
  slices.SortFunc at any row of sectors of file 0: the sectors are the same.
-/
import Derived.Test.YtnmeehhjfcciiaaDsJ
import Derived.Test.YtnmeehhjfcciiaaShelfK
namespace Go.Proofs.Ytnmeehhjfcciiaa
open Go Go.RowKit Go.Maps Go.WideMaps Go.Shelf

theorem sortW_heap {α : Type} [Inhabited α] (enc : α → Value) (w : World) (g m : Nat) (d : Array α) (os : Array Obj) (k : Nat) (hk : k < w.heap.size) (hne : k ≠ g) : (sortWorld enc w g 0 m d os).heap[k]? = w.heap[k]? := by
  unfold sortWorld Sort.grow Sort.putRow Sort.mapBlock Sort.ahead
  simp only
  rw [Array.getElem?_append_left (by simpa using hk), Array.getElem?_modify, if_neg (Ne.symm hne)]
theorem sortW_row {α : Type} [Inhabited α] (enc : α → Value) (w : World) (g m : Nat) (d : Array α) (os : Array Obj) {cur : Array Value} {e : TypeId} {fr : Nat × Nat} (h : w.heap[g]? = some (.cells cur e fr)) : (sortWorld enc w g 0 m d os).heap[g]? = some (.cells (Sort.putCells enc 0 d cur) e fr) := by
  have hk : g < w.heap.size := (Array.getElem?_eq_some_iff.1 h).1
  unfold sortWorld Sort.grow Sort.putRow Sort.mapBlock Sort.ahead
  simp only
  rw [Array.getElem?_append_left (by simpa using hk), Array.getElem?_modify, if_pos rfl, h]
  rfl
theorem sortW_size {α : Type} [Inhabited α] (enc : α → Value) (w : World) (g m : Nat) (d : Array α) (os : Array Obj) : w.heap.size ≤ (sortWorld enc w g 0 m d os).heap.size := by
  unfold sortWorld Sort.grow Sort.putRow Sort.mapBlock Sort.ahead
  simp
theorem sortW_by {α : Type} [Inhabited α] (enc : α → Value) (w : World) (g m : Nat) (d : Array α) (os : Array Obj) : w.grownBy (sortWorld enc w g 0 m d os) (some g) :=
  ⟨rfl, rfl, rfl, sortW_size enc w g m d os, fun k hk hne => sortW_heap enc w g m d os k hk (fun e => hne (by rw [e]))⟩
theorem putCells_take {α : Type} [Inhabited α] (enc : α → Value) (d : Array α) (cur : Array Value) (h : d.size ≤ cur.size) : (Sort.putCells enc 0 d cur).toList.take d.size = d.toList.map enc := by
  apply List.ext_getElem?
  intro j
  by_cases hj : j < d.size
  · have hc : j < cur.size := by omega
    simp [Sort.putCells, hj, hc]
  · simp [List.getElem?_take, hj]
def encS (i : Nat) : List Value := [.int .i64 0, .int .i64 (i : Int)]
theorem flat_spc (d : Array Nat) : (Sort.flatK encS 2 d).toList = spc d.toList := by
  apply List.ext_getElem?
  intro j
  have hl : (spc d.toList).length = d.size * 2 := by
    unfold spc
    rw [← Array.length_toList]
    generalize d.toList = l
    induction l with
    | nil => rfl
    | cons a l ih => simp only [List.flatMap_cons, List.length_append, ih, List.length_cons, List.length_nil]; omega
  by_cases hj : j < d.size * 2
  · have e1 : (Sort.flatK encS 2 d).toList[j]? = some ((encS d[j / 2]!)[j % 2]!) := by
      rw [← Sort.get_flatK encS 2 d j hj, getElem!_pos _ j (by rw [Sort.size_flatK]; exact hj), ← Array.getElem_toList, List.getElem?_eq_getElem]
    rw [e1]
    have hd : j / 2 < d.size := by omega
    rw [getElem!_pos d (j / 2) hd, ← Array.getElem_toList]
    have hd' : j / 2 < d.toList.length := by simpa using hd
    clear e1 hj hl
    have g : ∀ (l : List Nat) (j : Nat) (h : j / 2 < l.length), some ((encS l[j / 2])[j % 2]!) = (spc l)[j]? := by
      intro l
      induction l with
      | nil => intro j h; cases h
      | cons a l ih =>
        intro j h
        rcases j with _ | _ | j
        · rfl
        · rfl
        · have e2 : (j + 1 + 1) / 2 = j / 2 + 1 := by omega
          have e3 : (j + 1 + 1) % 2 = j % 2 := by omega
          have h' : j / 2 < l.length := by rw [e2] at h; simpa using h
          have := ih j h'
          simp only [e2, e3, List.getElem_cons_succ]
          rw [this]
          rfl
    exact g d.toList j hd'
  · rw [List.getElem?_eq_none (by rw [Array.length_toList, Sort.size_flatK]; omega), List.getElem?_eq_none (by omega)]
theorem cmpI_lt (x y : Nat) : ltOf (fun x y : Nat => cmpI (x : Int) (y : Int)) x y = decide (x < y) := by
  unfold ltOf cmpI
  by_cases h1 : x < y
  · simp [h1]
  · by_cases h2 : y < x <;> simp [h1, h2]
theorem swoS : Sort.SWO (ltOf fun x y : Nat => cmpI (x : Int) (y : Int)) where
  irrefl x := by rw [cmpI_lt]; simp
  trans x y z h1 h2 := by rw [cmpI_lt] at *; simp at *; omega
  ntrans x y z h1 h2 := by rw [cmpI_lt] at *; simp at *; omega
theorem cmpLaysS (blk off size : Nat) (w : World) : CmpLays Try.prog 49 #[] encS 2 (fun x y => cmpI (x : Int) (y : Int)) blk off size w := by
  intro m os dk _ x y
  exact loose1_any _ _ _
theorem isAggS : ∀ w, (isAgg 92).run Try.prog w = .ok true w := fun w => by simp [isAgg, go_sem]
theorem sizeOfS : ∀ w, (Go.sizeOf 92).run Try.prog w = .ok 2 w := fun w => by
  simp [Go.sizeOf, go_sem]
  kernel_rfl
/-- What the sort leaves. -/
def SortG (w : World) (base : Nat) (P : List Nat) (e : Ending) (w' : World) (v : Value) (row : Option Nat) : Prop :=
  e = .returned (.tuple #[]) ∧ ∃ P', P'.Perm P ∧ w'.ownsRow base 92 2 v P'.length (spc P') ∧ w.grownBy w' row
theorem sortS_any (w : World) (base g cap : Nat) (P : List Nat) (hown : w.ownsRow base 92 2 (.slice (some ⟨g, 0, none⟩) P.length cap) P.length (spc P)) (hlen : P.length ≤ 1000000) :
    Calls Try.prog 55 #[.slice (some ⟨g, 0, none⟩) P.length cap, .func (.func 49) #[] #[]] w (fun e w' => SortG w base P e w' (.slice (some ⟨g, 0, none⟩) P.length cap) (some g)) := by
  obtain ⟨hg0, hg1⟩ := hown.lt g rfl
  have hfl : (Sort.flatK encS 2 P.toArray).toList = spc P := flat_spc _
  obtain ⟨hl, h' | ⟨g', cap', cur, h', hb, hg, hnc, hcm, hcs, htake⟩⟩ := hown
  · simp at h'
  simp only [Value.slice.injEq, Option.some.injEq, Addr.mk.injEq, and_true, true_and] at h'
  obtain ⟨rfl, rfl⟩ := h'
  have hfs : (Sort.flatK encS 2 P.toArray).size = P.length * 2 := by rw [Sort.size_flatK, List.size_toArray]
  have hH : Sort.HoldsK encS 2 w g 0 P.toArray := by
    intro j hj
    rw [hfs] at hj
    rw [Nat.zero_add]
    refine ⟨?_, frozen_of_row w g j _ _ hg⟩
    rw [cell_of_row w g j _ _ (0, 0) hg]
    have e1 : cur[j]? = (spc P)[j]? := by
      rw [← htake, List.getElem?_take, if_pos (by omega), Array.getElem?_toList]
    rw [e1, ← hfl, Array.getElem?_toList, Array.getElem?_eq_getElem (by omega), getElem!_pos _ j (by omega)]
    rfl
  have h := AnyQ.slices_SortFunc (α := Nat) Try.sortSp 2 isAggS sizeOfS encS (fun _ => rfl) (fun x v hv => by simp [encS] at hv; rcases hv with rfl | rfl <;> rfl) (fun x y => cmpI (x : Int) (y : Int)) swoS 49 #[] g 0 cap P.toArray w
    (enters_of Try.func49 (by kernel_rfl) rfl) (cmpLaysS _ _ _ _) hH hg1 (by rw [List.size_toArray]; omega)
  rw [List.size_toArray] at h
  refine h.mono ?_
  rintro e w' ⟨he, d', m, os, hperm, -, rfl⟩
  obtain ⟨hsz, -, hp⟩ := hperm
  have hsz : d'.size = P.length := by simpa using hsz
  have e1 : (d'.extract 0 P.length).toList = d'.toList := by rw [Array.extract_eq_self_of_le (Nat.le_of_eq hsz)]
  have e2 : (P.toArray.extract 0 P.length).toList = P := by rw [Array.extract_eq_self_of_le (by simp)]
  rw [e1, e2] at hp
  refine ⟨he, d'.toList, hp, ?_, sortW_by id w g m (Sort.flatK encS 2 d') os⟩
  have hfl' : (Sort.flatK encS 2 d').toList = spc d'.toList := flat_spc _
  have hfs' : (Sort.flatK encS 2 d').size = P.length * 2 := by rw [Sort.size_flatK, hsz]
  have hdl : d'.toList.length = P.length := by rw [Array.length_toList]; exact hsz
  show World.ownsRow _ _ _ _ _ d'.toList.length _
  rw [hdl]
  refine ⟨?_, .inr ⟨g, cap, _, rfl, hb, sortW_row id w g m (Sort.flatK encS 2 d') os hg, hnc, hcm, by simp [Sort.putCells]; exact hcs, ?_⟩⟩
  · rw [← hfl', Array.length_toList, hfs']
  · rw [← hfs', putCells_take id _ cur (by omega), ← hfl', List.map_id_fun, id]
set_option maxRecDepth 100000 in
theorem insS_none (w : World) : Calls Try.prog 76 #[.slice none 0 0, .int .i64 0, .int .i64 0, .func (.func 49) #[] #[]] w fun e w' => e = .returned (.tuple #[]) ∧ w = w' := by
  go_enter Try.func76, Try.ntmps76
  go_wp2_with fail
  refine wp_loop_rounds 1 ?_
  rw [rounds_succ]
  go_wp2_with fail
  exact bodyPost_end (results_none rfl _ _ _) rfl ⟨rfl, rfl⟩
set_option maxRecDepth 100000 in
theorem pdqS_none (v : Value) (w : World) : Calls Try.prog 70 #[.slice none 0 0, .int .i64 0, .int .i64 0, v, .func (.func 49) #[] #[]] w fun e w' => e = .returned (.tuple #[]) ∧ w = w' := by
  go_enter Try.func70, Try.ntmps70
  go_wp2_with fail
  refine wp_loop_rounds 1 ?_
  rw [rounds_succ]
  go_wp2_with fail
  refine (insS_none _).mono ?_
  rintro e w1 ⟨rfl, rfl⟩
  go_wp2_with fail
  exact bodyPost_ret (results_none rfl _ _ _) rfl ⟨rfl, rfl⟩
set_option maxRecDepth 100000 in
theorem len64_none (w : World) : Calls Try.prog 68 #[.int .u64 0] w fun e w' => (∃ v : Int, e = .returned (.int .i64 v)) ∧ w = w' := by
  go_enter Try.func68, Try.ntmps68
  go_wp2_with fail
  go_ret
  exact ⟨⟨_, rfl⟩, rfl⟩
set_option maxRecDepth 100000 in
theorem len_none (w : World) : Calls Try.prog 53 #[.int .u64 0] w fun e w' => (∃ v : Int, e = .returned (.int .i64 v)) ∧ w = w' := by
  go_enter Try.func53, Try.ntmps53
  go_wp2_with fail
  refine (len64_none w).mono ?_
  rintro e w1 ⟨⟨v, rfl⟩, rfl⟩
  go_wp2_with fail
  go_ret
  exact ⟨⟨_, rfl⟩, rfl⟩
set_option maxRecDepth 100000 in
theorem sortS_none (w : World) : Calls Try.prog 55 #[.slice none 0 0, .func (.func 49) #[] #[]] w fun e w' => e = .returned (.tuple #[]) ∧ w = w' := by
  go_enter Try.func55, Try.ntmps55
  go_wp2_with fail
  refine (len_none w).mono ?_
  rintro e w1 ⟨⟨v, rfl⟩, rfl⟩
  go_wp2_with fail
  refine (pdqS_none _ _).mono ?_
  rintro e w1 ⟨rfl, rfl⟩
  go_wp2_with fail
  exact bodyPost_end (results_none rfl _ _ _) rfl ⟨rfl, rfl⟩
end Go.Proofs.Ytnmeehhjfcciiaa
