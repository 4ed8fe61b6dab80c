/-
  Contract of tuple.Sorted at rows of tuples that are not empty: in order, each once, each in memory of its own.
-/
import Derived.Test.YtdfepeeicbpicaaGreatDoorTupW
namespace Go.Proofs.YtdfepeeicbpicaaGreatDoor
open Go Go.RowKit

theorem keptFrom_mem {α : Type} (q : α → α → Bool) : ∀ (l : List α) (p x : α), x ∈ keptFrom q p l → x ∈ l
  | [], _, _, h => by cases h
  | y :: r, p, x, h => by
    unfold keptFrom at h
    split at h
    · exact List.mem_cons_of_mem _ (keptFrom_mem q r y x h)
    · rcases List.mem_cons.1 h with rfl | h
      · exact List.mem_cons_self
      · exact List.mem_cons_of_mem _ (keptFrom_mem q r y x h)
theorem dedup_mem {α : Type} (q : α → α → Bool) {l : List α} {x : α} (h : x ∈ dedup q l) : x ∈ l := by
  cases l with
  | nil => cases h
  | cons y r =>
    rcases List.mem_cons.1 h with rfl | h
    · exact List.mem_cons_self
    · exact List.mem_cons_of_mem _ (keptFrom_mem q r y x h)

set_option maxHeartbeats 1000000 in
set_option maxRecDepth 100000 in
theorem rising_any (w : World) (n₀ b off c : Nat) (P : List (Value × List V3)) (hP : AllIn n₀ w P) (hrow : RowAt w b off P) (hb : b < w.heap.size) (h1 : 1 ≤ P.length) (hlen : P.length ≤ 1000000) (hn₀ : n₀ ≤ w.heap.size) :
    Calls Tryz.prog 43 #[.slice (some ⟨b, off, none⟩) P.length c] w (ListEnd w P) := by
  have HP := Lib.hid hP
  have HR := Lib.hid hrow
  clear hP hrow
  go_enter Tryz.func43, Tryz.ntmps43
  go_wp2_with fail
  have hB0 := below_new w (.cells #[.nilFunc, .slice none 0 0] 90)
  refine (listOf_any _ n₀ b off c P (HP.out.below (hB0.mono hn₀)) (HR.out.below hB0 hb) (by simp; omega) h1 hlen (by simp; omega)).mono ?_
  rintro e w1 ⟨P', g, cap, rfl, hperm, hsort, hown, hB1⟩
  have d1 : w1.cell? ⟨w.heap.size, 0, none⟩ = some .nilFunc := (hB1.cell (p := ⟨w.heap.size, 0, none⟩) (by simp)).trans (by simp)
  have d2 : w1.cell? ⟨w.heap.size, 1, none⟩ = some (.slice none 0 0) := (hB1.cell (p := ⟨w.heap.size, 1, none⟩) (by simp)).trans (by simp)
  have f1 : w1.frozen? ⟨w.heap.size, 0, none⟩ = false := (hB1.frozen (p := ⟨w.heap.size, 0, none⟩) (by simp)).trans (by simp)
  have f2 : w1.frozen? ⟨w.heap.size, 1, none⟩ = false := (hB1.frozen (p := ⟨w.heap.size, 1, none⟩) (by simp)).trans (by simp)
  have HN := Lib.hid (And.intro hperm hsort)
  have hgl := (hown.lt g rfl).1
  simp only [World.size_alloc] at hgl
  have HO := Lib.hid hown
  have HB := Lib.hid (hB0.trans (hB1.mono (by simp)))
  clear hperm hsort hown hB0 hB1
  go_wp2_with fail
  refine bodyPost_ret (v := .agg #[.func (.func 56) #[] #[], .slice (some ⟨g, 0, none⟩) (dedup likeT P').length cap]) (by simp [results, Tryz.results43, go_sem, d1, d2]) rfl ?_
  refine ⟨P', g, cap, rfl, HN.out.1, HN.out.2, ?_, ?_⟩
  · have hne : w.heap.size ≠ g := by omega
    exact own_other (own_other (own_mono HO.out (by simp)) _ _ _ (by simpa [Value.ownBlock] using Ne.symm hne)) _ _ _ (by simpa [Value.ownBlock] using Ne.symm hne)
  · exact (HB.out.setCell (by simp) _).setCell (by simp) _

set_option maxHeartbeats 400000 in
theorem all_any (f : Value) (a : Option Addr) (len cap : Nat) (hf : ∃ g, f = .func (.func g) #[] #[]) (w : World) :
    Calls Tryz.prog 44 #[.agg #[f, .slice a len cap]] w fun e w' => e = .returned (.func (.func 74) #[] #[.pointer (some ⟨w.heap.size + 1, 0, none⟩)]) ∧ (w.alloc (.cells #[f, .slice a len cap] 90)).alloc (.cells #[.slice a len cap] 50) = w' := by
  obtain ⟨g, rfl⟩ := hf
  go_enter Tryz.func44, Tryz.ntmps44
  go_wp2_with (go_at_call 57; refine (values_any _ _ _ _).mono ?_; rintro e w' ⟨rfl, rfl⟩)
  go_ret
  exact ⟨by simp, rfl⟩
theorem ev_list {n₀ : Nat} {w : World} (L : List (Value × List V3)) (h : ∀ x ∈ L, TupIn n₀ w x.1 x.2 ∧ x.2 ≠ []) : ∃ xs : List (Ev n₀ w), xs.map encV = L.map (·.1) ∧ xs.map tupV = L.map (·.2) := by
  induction L with
  | nil => exact ⟨[], rfl, rfl⟩
  | cons x r ih =>
    obtain ⟨xs, e1, e2⟩ := ih fun y hy => h y (List.mem_cons_of_mem _ hy)
    refine ⟨⟨x, h x List.mem_cons_self⟩ :: xs, ?_, ?_⟩
    · exact congrArg (x.1 :: ·) e1
    · exact congrArg (x.2 :: ·) e2
/-- What Sorted leaves. -/
def SortedEnd (w : World) (P : List (Value × List V3)) (e : Ending) (w' : World) : Prop :=
  ∃ P' : List (Value × List V3), P'.Perm P ∧ SortedP P' ∧ ∃ (v : Value) (Q : List (Value × List V3)), e = .returned v ∧ w'.ownsRow w.heap.size 23 1 v Q.length (Q.map (·.1)) ∧ Q.map (·.2) = (dedup likeT P').map (·.2) ∧ (∀ y ∈ Q, OwnT w.heap.size w' y) ∧ Below w.heap.size w w'
theorem OwnT.mono {D D' : Nat} {W : World} {y : Value × List V3} (h : OwnT D W y) (hD : D' ≤ D) : OwnT D' W y := ⟨own_mono h.1 hD, h.2⟩
set_option maxHeartbeats 1000000 in
set_option maxRecDepth 100000 in
theorem sorted_any (w : World) (n₀ b off c : Nat) (P : List (Value × List V3)) (hP : AllIn n₀ w P) (hne : ∀ x ∈ P, x.2 ≠ []) (hrow : RowAt w b off P) (hb : b < w.heap.size) (h1 : 1 ≤ P.length) (hlen : P.length ≤ 1000000) (hn₀ : n₀ ≤ w.heap.size) :
    Calls Tryz.prog 23 #[.slice (some ⟨b, off, none⟩) P.length c] w (SortedEnd w P) := by
  have HP := Lib.hid hP
  have HE := Lib.hid hne
  have HS := Lib.hid (rising_any w n₀ b off c P hP hrow hb h1 hlen hn₀)
  clear hP hrow hne
  go_enter Tryz.func23, Tryz.ntmps23
  go_wp2_with fail
  refine HS.out.mono ?_
  rintro e w1 ⟨P', g, cap, rfl, hperm, hsort, hown, hB1⟩
  have HN := Lib.hid (And.intro hperm hsort)
  have HO := Lib.hid hown
  have HB := Lib.hid hB1
  have hz1 := hB1.size
  clear hperm hsort hown hB1
  go_wp2_with (go_at_call 44; refine (all_any _ _ _ _ ⟨_, rfl⟩ _).mono ?_; rintro e w' ⟨rfl, rfl⟩)
  have hdl : (dedup likeT P').length ≤ 1000000 := by
    have := dedup_len likeT P'
    have := HN.out.1.length_eq
    omega
  obtain ⟨xs, hx1, hx2⟩ := ev_list (n₀ := n₀) (w := w) (dedup likeT P') fun x hx => ⟨HP.out x (HN.out.1.mem_iff.1 (dedup_mem likeT hx)), HE.out x (HN.out.1.mem_iff.1 (dedup_mem likeT hx))⟩
  have hxl : xs.length = (dedup likeT P').length := by simpa using congrArg List.length hx1
  have hgl := HO.out.lt g rfl
  have hB2 : Below w1.heap.size w1 ((w1.alloc (.cells #[.func (.func 56) #[] #[], .slice (some ⟨g, 0, none⟩) (dedup likeT P').length cap] 90)).alloc (.cells #[.slice (some ⟨g, 0, none⟩) (dedup likeT P').length cap] 50)) := (below_new _ _).alloc (by simp) _
  have hC := copies_in Fence.wide 3 trivial trivial rfl (by omega) ((w1.alloc (.cells #[.func (.func 56) #[] #[], .slice (some ⟨g, 0, none⟩) (dedup likeT P').length cap] 90)).alloc (.cells #[.slice (some ⟨g, 0, none⟩) (dedup likeT P').length cap] 50)) w n₀ (w1.heap.size + 1) g cap xs (by omega)
    ((HB.out.mono hn₀).trans (hB2.mono (by omega))) (by simp; omega) (by simp) (by simp; omega) (by rw [hxl]; simp) (fun j hj => by
      rw [Nat.zero_add, hB2.cell (p := ⟨g, j, none⟩) hgl.2, HO.out.cellAt j (by omega)]
      have := congrArg (fun z : List Value => z[j]?) hx1
      simp only [List.getElem?_map, List.getElem?_eq_getElem hj, Option.map_some] at this
      rw [List.getElem?_map]
      exact this.symm)
  have HC := Lib.hid (callsIn_wide.1 hC)
  have HX := Lib.hid hx2
  have HB2 := Lib.hid (HB.out.trans (hB2.mono hz1))
  have hz2 : w.heap.size ≤ ((w1.alloc (.cells #[.func (.func 56) #[] #[], .slice (some ⟨g, 0, none⟩) (dedup likeT P').length cap] 90)).alloc (.cells #[.slice (some ⟨g, 0, none⟩) (dedup likeT P').length cap] 50)).heap.size := by simp; omega
  clear hC hx1 hx2 hxl hgl hB2 hdl
  refine HC.out.mono ?_
  rintro e w3 ⟨v, Q, rfl, hown, hq, hall, hB3⟩
  have HR := Lib.hid (show SortedEnd w P (.returned v) w3 from ⟨P', HN.out.1, HN.out.2, v, Q, rfl, own_mono hown hz2, hq.trans HX.out, fun y hy => (hall y hy).mono hz2, HB2.out.trans (hB3.mono hz2)⟩)
  clear hown hq hall hB3 hz2
  go_wp2_with fail
  go_ret
  exact HR.out
end Go.Proofs.YtdfepeeicbpicaaGreatDoor
