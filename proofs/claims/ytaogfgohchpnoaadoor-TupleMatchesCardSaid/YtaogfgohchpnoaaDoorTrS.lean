/-
  listOf, rising and Sorted at any row of tuples, nil rows and empty tuples too.
-/
import Derived.Test.YtaogfgohchpnoaaDoorTrZ
namespace Go.Proofs.YtaogfgohchpnoaaDoor
open Go Go.RowKit

/-- A row of one's own behind n, or of none. -/
def RowNew (n : Nat) (w : World) (v : Value) (L : List (Value × List V3)) : Prop :=
  ∃ a cap, v = .slice a L.length cap ∧ (L = [] ∨ ∃ g, a = some ⟨g, 0, none⟩ ∧ n ≤ g ∧ g < w.heap.size ∧ RowAt w g 0 L ∧ L.length ≤ cap ∧ cap ≤ maxLen)
theorem RowNew.mono {n n' : Nat} {w : World} {v : Value} {L : List (Value × List V3)} (h : RowNew n w v L) (hn : n' ≤ n) : RowNew n' w v L := by
  obtain ⟨a, cap, rfl, h⟩ := h
  refine ⟨a, cap, rfl, ?_⟩
  rcases h with h | ⟨g, rfl, h1, h2, h3⟩
  · exact .inl h
  · exact .inr ⟨g, rfl, Nat.le_trans hn h1, h2, h3⟩
theorem RowNew.setCell {n : Nat} {w : World} {v : Value} {L : List (Value × List V3)} (h : RowNew n w v L) {b : Nat} (hb : b < n) (o : Nat) (u : Value) : RowNew n (w.setCell ⟨b, o, none⟩ u) v L := by
  obtain ⟨a, cap, rfl, h⟩ := h
  refine ⟨a, cap, rfl, ?_⟩
  rcases h with h | ⟨g, rfl, h1, h2, h3⟩
  · exact .inl h
  · exact .inr ⟨g, rfl, h1, by simpa using h2, fun j hj => (World.cell?_of_block (a := ⟨g, 0 + j, none⟩) (heap_setCell_other w ⟨b, o, none⟩ g u (by simp; omega))).trans (h3.1 j hj), h3.2⟩
theorem RowNew.below {n m : Nat} {w w' : World} {v : Value} {L : List (Value × List V3)} (h : RowNew n w v L) (hb : Below m w w') (hm : w.heap.size ≤ m) : RowNew n w' v L := by
  obtain ⟨a, cap, rfl, h⟩ := h
  refine ⟨a, cap, rfl, ?_⟩
  rcases h with h | ⟨g, rfl, h1, h2, h3⟩
  · exact .inl h
  · exact .inr ⟨g, rfl, h1, Nat.lt_of_lt_of_le h2 hb.size, h3.1.below hb (Nat.lt_of_lt_of_le h2 hm), h3.2⟩
/-- What listOf and rising leave: the elements in order, each once. -/
def ListsEnd (w : World) (P : List (Value × List V3)) (e : Ending) (w' : World) : Prop :=
  ∃ (P' : List (Value × List V3)) (v : Value), e = .returned (.agg #[.func (.func 48) #[] #[], v]) ∧ P'.Perm P ∧ SortedP P' ∧ RowNew w.heap.size w' v (dedup likeT P') ∧ Below w.heap.size w w'
theorem lists_end {w w' : World} {P : List (Value × List V3)} {e : Ending} (h : ListEnd w P e w') : ListsEnd w P e w' := by
  obtain ⟨P', g, cap, rfl, hp, hs, ho, hb⟩ := h
  have hcap : (dedup likeT P').length ≤ cap ∧ cap ≤ maxLen := by
    rcases ho.2 with ⟨h, -⟩ | ⟨g', cap', cur, h, -, -, h1, h2, -⟩
    · cases h
    · cases h; exact ⟨h1, h2⟩
  refine ⟨P', _, rfl, hp, hs, ⟨_, _, rfl, .inr ⟨g, rfl, (ho.lt g rfl).1, (ho.lt g rfl).2, fun j hj => ?_, hcap⟩⟩, hb⟩
  rw [Nat.zero_add, ho.cellAt j (by omega)]
  simp [hj]
theorem lists_in {w w' : World} {P P' : List (Value × List V3)} {v : Value} (hP : AllIn w.heap.size w P) (hlen : P.length ≤ 1000000) (hp : P'.Perm P) (h : RowNew w.heap.size w' v (dedup likeT P')) (hb : Below w.heap.size w w') : RowsIn w'.heap.size w' v (dedup likeT P') := by
  obtain ⟨a, cap, rfl, h⟩ := h
  refine ⟨a, cap, rfl, ?_, ?_, fun x hx => ((hP.perm hp x (dedup_mem likeT hx)).below hb).mono hb.size⟩
  · have := dedup_len likeT P'
    have := hp.length_eq
    omega
  · rcases h with h | ⟨g, rfl, h1, h2, h3⟩
    · exact .inl h
    · exact .inr ⟨g, 0, rfl, h2, h3.1⟩
theorem listOf_rows (w : World) (v : Value) (P : List (Value × List V3)) (h : RowsIn w.heap.size w v P) :
    Calls Tryd.prog 49 #[.func (.func 48) #[] #[], v] w (ListsEnd w P) := by
  obtain ⟨a, cap, rfl, hlen, hrow, hall⟩ := h
  cases P with
  | nil =>
    refine (listOf_none a cap w).mono ?_
    rintro e w' ⟨a', c', rfl, hb⟩
    exact ⟨[], _, rfl, List.Perm.refl _, List.Pairwise.nil, ⟨_, _, rfl, .inl rfl⟩, hb⟩
  | cons x r =>
    rcases hrow with hrow | ⟨b, off, rfl, hb, hrow⟩
    · cases hrow
    · exact (listOf_any w w.heap.size b off cap (x :: r) hall hrow hb (by simp) hlen (Nat.le_refl _)).mono fun e w' he => lists_end he
theorem RowsIn.form {n : Nat} {w : World} {v : Value} {P : List (Value × List V3)} (h : RowsIn n w v P) : ∃ a cap, v = .slice a P.length cap ∧ P.length ≤ 1000000 := by
  obtain ⟨a, cap, rfl, h, -⟩ := h
  exact ⟨a, cap, rfl, h⟩
theorem RowsIn.step {w w' : World} {v : Value} {P : List (Value × List V3)} (h : RowsIn w.heap.size w v P) (hb : Below w.heap.size w w') : RowsIn w'.heap.size w' v P := (h.below hb).mono hb.size

set_option maxHeartbeats 1000000 in
set_option maxRecDepth 100000 in
theorem rising_rows (w : World) (v : Value) (P : List (Value × List V3)) (h : RowsIn w.heap.size w v P) :
    Calls Tryd.prog 33 #[v] w (ListsEnd w P) := by
  have HR := Lib.hid h
  obtain ⟨a, cap, rfl, -⟩ := h.form
  clear h
  go_enter Tryd.func33, Tryd.ntmps33
  go_wp2_with fail
  have hB0 := below_new w (.cells #[.nilFunc, .slice none 0 0] 58)
  refine (listOf_rows _ _ P (HR.out.step hB0)).mono ?_
  rintro e w1 ⟨P', v1, rfl, hperm, hsort, hown, hB1⟩
  have d1 : w1.cell? ⟨w.heap.size, 0, none⟩ = some .nilFunc := (hB1.cell (p := ⟨w.heap.size, 0, none⟩) (by simp)).trans (by simp)
  have d2 : w1.cell? ⟨w.heap.size, 1, none⟩ = some (.slice none 0 0) := (hB1.cell (p := ⟨w.heap.size, 1, none⟩) (by simp)).trans (by simp)
  have f1 : w1.frozen? ⟨w.heap.size, 0, none⟩ = false := (hB1.frozen (p := ⟨w.heap.size, 0, none⟩) (by simp)).trans (by simp)
  have f2 : w1.frozen? ⟨w.heap.size, 1, none⟩ = false := (hB1.frozen (p := ⟨w.heap.size, 1, none⟩) (by simp)).trans (by simp)
  have HN := Lib.hid (And.intro hperm hsort)
  have HO := Lib.hid hown
  have HB := Lib.hid (hB0.trans (hB1.mono (by simp)))
  obtain ⟨a1, c1, e1, -⟩ := hown
  subst e1
  clear hperm hsort hB0 hB1
  go_wp2_with fail
  refine bodyPost_ret (v := .agg #[.func (.func 48) #[] #[], .slice a1 (dedup likeT P').length c1]) (by simp [results, Tryd.results33, go_sem, d1, d2]) rfl ?_
  refine ⟨P', _, rfl, HN.out.1, HN.out.2, ?_, (HB.out.setCell (by simp) _).setCell (by simp) _⟩
  exact ((HO.out.setCell (by simp) _ _).setCell (by simp) _ _).mono (by simp)
/-- What Sorted leaves. -/
def SortEndU (w : World) (P : List (Value × List V3)) (e : Ending) (w' : World) : Prop :=
  ∃ P' : List (Value × List V3), P'.Perm P ∧ SortedP P' ∧ CopG w ((dedup likeT P').map (·.2)) e w'
theorem CopG.back {w0 w1 : World} {Ts : List (List V3)} {e : Ending} {w' : World} (h : CopG w1 Ts e w') (hb : Below w0.heap.size w0 w1) : CopG w0 Ts e w' := by
  obtain ⟨v, Q, he, h1, h2, h3, h4⟩ := h
  exact ⟨v, Q, he, own_mono h1 hb.size, h2, fun y hy => ⟨own_mono (h3 y hy).1 hb.size, (h3 y hy).2⟩, hb.trans (h4.mono hb.size)⟩
set_option maxHeartbeats 1000000 in
set_option maxRecDepth 100000 in
/-- copies of the elements of a list. -/
theorem sorted_rows (w : World) (v : Value) (P : List (Value × List V3)) (h : RowsIn w.heap.size w v P) :
    Calls Tryd.prog 27 #[v] w (SortEndU w P) := by
  have HR := Lib.hid h
  have HS := Lib.hid (rising_rows w v P h)
  obtain ⟨a, cap, rfl, -⟩ := h.form
  clear h
  go_enter Tryd.func27, Tryd.ntmps27
  go_wp2_with fail
  refine HS.out.mono ?_
  rintro e w1 ⟨P', v1, rfl, hperm, hsort, hown, hB1⟩
  have HN := Lib.hid (And.intro hperm hsort)
  have HI := Lib.hid (show RowsIn w1.heap.size w1 v1 (dedup likeT P') by
    obtain ⟨_, _, -, hl, -, ha⟩ := HR.out
    exact lists_in ha hl hperm hown hB1)
  have HB := Lib.hid hB1
  obtain ⟨a1, c1, e1, -⟩ := hown
  subst e1
  clear hperm hsort hB1
  go_wp2_with (go_at_call 36; refine (all_any _ _ _ _ ⟨_, rfl⟩ _).mono ?_; rintro e w' ⟨rfl, rfl⟩)
  have hB2 : Below w1.heap.size w1 ((w1.alloc (.cells #[.func (.func 48) #[] #[], .slice a1 (dedup likeT P').length c1] 58)).alloc (.cells #[.slice a1 (dedup likeT P').length c1] 22)) := (below_new _ _).alloc (by simp) _
  have HC := Lib.hid (copies_any _ _ _ _ (fun _ _ => by kernel_rfl) (vals_seq _ (w1.heap.size + 1) _ _ (HI.out.step hB2) (by simp) (by simp)))
  have HB2 := Lib.hid (HB.out.trans (hB2.mono HB.out.size))
  clear hB2
  go_wp2_with fail
  refine HC.out.mono ?_
  rintro e w4 hE
  have hE' := hE.back HB2.out
  obtain ⟨v4, Q4, rfl, -⟩ := id hE
  go_wp2_with fail
  go_ret
  exact ⟨P', HN.out.1, HN.out.2, hE'⟩
end Go.Proofs.YtaogfgohchpnoaaDoor
