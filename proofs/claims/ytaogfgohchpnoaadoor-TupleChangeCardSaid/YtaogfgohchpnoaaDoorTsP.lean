/-
  Plain facts: two rising rows merged, each tuple with the side where it is; what is picked of them; rows as sets.
-/
import Derived.Test.YtaogfgohchpnoaaDoorTrP
namespace Go.Proofs.YtaogfgohchpnoaaDoor

/-- Two rising rows merged: -1 the first alone, 0 both, 1 the second alone. -/
def mrg : List (List V3) → List (List V3) → List (List V3 × Int)
  | [], [] => []
  | x :: X, [] => (x, -1) :: mrg X []
  | [], y :: Y => (y, 1) :: mrg [] Y
  | x :: X, y :: Y => if cmpT x y = 0 then (x, 0) :: mrg X Y else if cmpT x y < 0 then (x, -1) :: mrg X (y :: Y) else (y, 1) :: mrg (x :: X) Y
termination_by A B => A.length + B.length
theorem mrg_nil : mrg [] [] = [] := by unfold mrg; rfl
theorem mrg_left (x : List V3) (X : List (List V3)) : mrg (x :: X) [] = (x, -1) :: mrg X [] := by rw [mrg]
theorem mrg_right (y : List V3) (Y : List (List V3)) : mrg [] (y :: Y) = (y, 1) :: mrg [] Y := by rw [mrg]
theorem mrg_lt {x y : List V3} (X Y : List (List V3)) (h : cmpT x y = -1) : mrg (x :: X) (y :: Y) = (x, -1) :: mrg X (y :: Y) := by rw [mrg, h]; rfl
theorem mrg_eq {x y : List V3} (X Y : List (List V3)) (h : cmpT x y = 0) : mrg (x :: X) (y :: Y) = (x, 0) :: mrg X Y := by rw [mrg, h]; rfl
theorem mrg_gt {x y : List V3} (X Y : List (List V3)) (h : cmpT x y = 1) : mrg (x :: X) (y :: Y) = (y, 1) :: mrg (x :: X) Y := by rw [mrg, h]; rfl
theorem mrg_len : ∀ A B : List (List V3), (mrg A B).length ≤ A.length + B.length
  | [], [] => by simp [mrg_nil]
  | x :: X, [] => by have := mrg_len X []; simp [mrg_left] at this ⊢; omega
  | [], y :: Y => by have := mrg_len [] Y; simp [mrg_right] at this ⊢; omega
  | x :: X, y :: Y => by
    rcases cmpT_cases x y with h | h | h
    · have := mrg_len X (y :: Y); rw [mrg_lt X Y h]; simp at this ⊢; omega
    · have := mrg_len X Y; rw [mrg_eq X Y h]; simp at this ⊢; omega
    · have := mrg_len (x :: X) Y; rw [mrg_gt X Y h]; simp at this ⊢; omega
termination_by A B => A.length + B.length
theorem not_head {x : List V3} {X : List (List V3)} (h : Ris (x :: X)) : x ∉ X := fun hx => lt_irr x (ris_head h x hx)
theorem below_all {x y : List V3} {Y : List (List V3)} (h : Ris (y :: Y)) (hl : cmpT x y < 0) : x ∉ y :: Y := fun hx => by
  rcases List.mem_cons.1 hx with rfl | hx
  · exact lt_irr x hl
  · exact lt_irr x (cmpT_trans_lt x y x hl (by have := ris_head h x hx; omega))
/-- What is told, and with which side. -/
theorem mrg_mem : ∀ {A B : List (List V3)}, Ris A → Ris B → ∀ (z : List V3) (s : Int), (z, s) ∈ mrg A B ↔ (s = -1 ∧ z ∈ A ∧ z ∉ B) ∨ (s = 0 ∧ z ∈ A ∧ z ∈ B) ∨ (s = 1 ∧ z ∉ A ∧ z ∈ B)
  | [], [], _, _, z, s => by simp [mrg_nil]
  | x :: X, [], hA, hB, z, s => by
    have ih := mrg_mem (ris_tail hA) hB z s
    rw [mrg_left, List.mem_cons, ih, Prod.mk.injEq]
    simp
    constructor
    · rintro (⟨rfl, rfl⟩ | ⟨rfl, h⟩)
      · exact ⟨rfl, .inl rfl⟩
      · exact ⟨rfl, .inr h⟩
    · rintro ⟨rfl, rfl | h⟩
      · exact .inl ⟨rfl, rfl⟩
      · exact .inr ⟨rfl, h⟩
  | [], y :: Y, hA, hB, z, s => by
    have ih := mrg_mem hA (ris_tail hB) z s
    rw [mrg_right, List.mem_cons, ih, Prod.mk.injEq]
    simp
    constructor
    · rintro (⟨rfl, rfl⟩ | ⟨rfl, h⟩)
      · exact ⟨rfl, .inl rfl⟩
      · exact ⟨rfl, .inr h⟩
    · rintro ⟨rfl, rfl | h⟩
      · exact .inl ⟨rfl, rfl⟩
      · exact .inr ⟨rfl, h⟩
  | x :: X, y :: Y, hA, hB, z, s => by
    have nx := not_head hA
    have ny := not_head hB
    rcases cmpT_cases x y with h | h | h
    · have hx : x ∉ y :: Y := below_all hB (by omega)
      have ih := mrg_mem (ris_tail hA) hB z s
      rw [mrg_lt X Y h, List.mem_cons, ih, Prod.mk.injEq, List.mem_cons (a := z) (b := x)]
      by_cases e : z = x
      · subst e
        simp [nx, hx]
      · simp [e]
    · obtain rfl := (cmpT_zero x y).1 h
      have ih := mrg_mem (ris_tail hA) (ris_tail hB) z s
      rw [mrg_eq X Y h, List.mem_cons, ih, Prod.mk.injEq, List.mem_cons, List.mem_cons]
      by_cases e : z = x
      · subst e
        simp [nx, ny]
      · simp [e]
    · have hy : y ∉ x :: X := below_all hA (by have := cmpT_neg x y; omega)
      have ih := mrg_mem hA (ris_tail hB) z s
      rw [mrg_gt X Y h, List.mem_cons, ih, Prod.mk.injEq, List.mem_cons (a := z) (b := y)]
      by_cases e : z = y
      · subst e
        simp [ny, hy]
      · simp [e]
termination_by A B => A.length + B.length
theorem mrg_fst {A B : List (List V3)} (hA : Ris A) (hB : Ris B) {z : List V3} {s : Int} (h : (z, s) ∈ mrg A B) : z ∈ A ∨ z ∈ B := by
  rcases (mrg_mem hA hB z s).1 h with h | h | h
  · exact .inl h.2.1
  · exact .inl h.2.1
  · exact .inr h.2.2
theorem mrg_ris : ∀ {A B : List (List V3)}, Ris A → Ris B → Ris ((mrg A B).map (·.1))
  | [], [], _, _ => by simp [mrg_nil, Ris]
  | x :: X, [], hA, hB => by
    rw [mrg_left, List.map_cons]
    refine List.pairwise_cons.2 ⟨fun u hu => ?_, mrg_ris (ris_tail hA) hB⟩
    obtain ⟨⟨z, s⟩, hz, rfl⟩ := List.mem_map.1 hu
    rcases mrg_fst (ris_tail hA) hB hz with h | h
    · exact ris_head hA z h
    · cases h
  | [], y :: Y, hA, hB => by
    rw [mrg_right, List.map_cons]
    refine List.pairwise_cons.2 ⟨fun u hu => ?_, mrg_ris hA (ris_tail hB)⟩
    obtain ⟨⟨z, s⟩, hz, rfl⟩ := List.mem_map.1 hu
    rcases mrg_fst hA (ris_tail hB) hz with h | h
    · cases h
    · exact ris_head hB z h
  | x :: X, y :: Y, hA, hB => by
    have lt : ∀ {a b : List V3} {L : List (List V3)}, cmpT a b < 0 → Ris (b :: L) → ∀ z ∈ b :: L, cmpT a z < 0 := fun h hL z hz => by
      rcases List.mem_cons.1 hz with rfl | hz
      · exact h
      · exact cmpT_trans_lt _ _ _ h (by have := ris_head hL z hz; omega)
    rcases cmpT_cases x y with h | h | h
    · rw [mrg_lt X Y h, List.map_cons]
      refine List.pairwise_cons.2 ⟨fun u hu => ?_, mrg_ris (ris_tail hA) hB⟩
      obtain ⟨⟨z, s⟩, hz, rfl⟩ := List.mem_map.1 hu
      rcases mrg_fst (ris_tail hA) hB hz with h' | h'
      · exact ris_head hA z h'
      · exact lt (show cmpT x y < 0 by omega) hB z h'
    · obtain rfl := (cmpT_zero x y).1 h
      rw [mrg_eq X Y h, List.map_cons]
      refine List.pairwise_cons.2 ⟨fun u hu => ?_, mrg_ris (ris_tail hA) (ris_tail hB)⟩
      obtain ⟨⟨z, s⟩, hz, rfl⟩ := List.mem_map.1 hu
      rcases mrg_fst (ris_tail hA) (ris_tail hB) hz with h' | h'
      · exact ris_head hA z h'
      · exact ris_head hB z h'
    · rw [mrg_gt X Y h, List.map_cons]
      refine List.pairwise_cons.2 ⟨fun u hu => ?_, mrg_ris hA (ris_tail hB)⟩
      obtain ⟨⟨z, s⟩, hz, rfl⟩ := List.mem_map.1 hu
      rcases mrg_fst hA (ris_tail hB) hz with h' | h'
      · exact lt (show cmpT y x < 0 by have := cmpT_neg x y; omega) hA z h'
      · exact ris_head hB z h'
termination_by A B => A.length + B.length
/-- Those of two rising rows that are on one of the sides. -/
def pickL (S : List Int) (A B : List (List V3)) : List (List V3) := ((mrg A B).filter fun p => S.contains p.2).map (·.1)
theorem pick_ris (S : List Int) {A B : List (List V3)} (hA : Ris A) (hB : Ris B) : Ris (pickL S A B) :=
  List.Pairwise.sublist (List.Sublist.map _ List.filter_sublist) (mrg_ris hA hB)
theorem pick_mem (S : List Int) {A B : List (List V3)} (hA : Ris A) (hB : Ris B) (z : List V3) :
    z ∈ pickL S A B ↔ ((-1) ∈ S ∧ z ∈ A ∧ z ∉ B) ∨ (0 ∈ S ∧ z ∈ A ∧ z ∈ B) ∨ (1 ∈ S ∧ z ∉ A ∧ z ∈ B) := by
  unfold pickL
  rw [List.mem_map]
  constructor
  · rintro ⟨⟨z', s⟩, hf, rfl⟩
    obtain ⟨h1, h2⟩ := List.mem_filter.1 hf
    have hs : s ∈ S := by simpa using h2
    rcases (mrg_mem hA hB _ s).1 h1 with ⟨rfl, h⟩ | ⟨rfl, h⟩ | ⟨rfl, h⟩
    · exact .inl ⟨hs, h⟩
    · exact .inr (.inl ⟨hs, h⟩)
    · exact .inr (.inr ⟨hs, h⟩)
  · have go : ∀ s, s ∈ S → (z, s) ∈ mrg A B → ∃ a ∈ (mrg A B).filter (fun p => S.contains p.2), a.1 = z := fun s hs h => ⟨(z, s), List.mem_filter.2 ⟨h, by simpa using hs⟩, rfl⟩
    rintro (⟨hs, h⟩ | ⟨hs, h⟩ | ⟨hs, h⟩)
    · exact go (-1) hs ((mrg_mem hA hB z _).2 (.inl ⟨rfl, h⟩))
    · exact go 0 hs ((mrg_mem hA hB z _).2 (.inr (.inl ⟨rfl, h⟩)))
    · exact go 1 hs ((mrg_mem hA hB z _).2 (.inr (.inr ⟨rfl, h⟩)))
theorem pick_len (S : List Int) (A B : List (List V3)) : (pickL S A B).length ≤ A.length + B.length := by
  unfold pickL
  rw [List.length_map]
  exact Nat.le_trans (List.length_filter_le _ _) (mrg_len A B)
/-- The document's own: those of a row that are, or are not, in another one. -/
def someL (a b : List (List V3)) (z : Bool) : List (List V3) := srtL (a.filter fun x => plI b x == z)
theorem filter_snoc_pos {a : List (List V3)} {x : List V3} {f : List V3 → Bool} (h : f x = true) : srtL ((a ++ [x]).filter f) = insT (srtL (a.filter f)) x := by
  rw [List.filter_append, List.filter_cons, if_pos h, List.filter_nil, srt_snoc]
theorem filter_snoc_neg {a : List (List V3)} {x : List V3} {f : List V3 → Bool} (h : f x = false) : srtL ((a ++ [x]).filter f) = srtL (a.filter f) := by
  rw [List.filter_append, List.filter_cons, if_neg (by simp [h]), List.filter_nil, List.append_nil]
theorem union_eq (a b : List (List V3)) : pickL [-1, 0, 1] (srtL a) (srtL b) = srtL (a ++ b) :=
  ris_eq (pick_ris _ (srt_ris a) (srt_ris b)) (srt_ris _) fun x => by
    rw [pick_mem _ (srt_ris a) (srt_ris b), srt_mem, srt_mem, srt_mem, List.mem_append]
    simp
    by_cases h1 : x ∈ a <;> by_cases h2 : x ∈ b <;> simp [h1, h2]
theorem some_mem (a b : List (List V3)) (z : Bool) (x : List V3) : x ∈ someL a b z ↔ x ∈ a ∧ (plI b x = z) := by
  unfold someL
  rw [srt_mem, List.mem_filter]
  simp
theorem plI_false {L : List (List V3)} {T : List V3} : plI L T = false ↔ T ∉ L := by
  rw [← plI_mem]
  simp
theorem minus_eq (a b : List (List V3)) : pickL [-1] (srtL a) (srtL b) = someL a b false :=
  ris_eq (pick_ris _ (srt_ris a) (srt_ris b)) (srt_ris _) fun x => by
    rw [pick_mem _ (srt_ris a) (srt_ris b), some_mem, srt_mem, srt_mem, plI_false]
    simp
theorem both_eq (a b : List (List V3)) : pickL [0] (srtL a) (srtL b) = someL a b true :=
  ris_eq (pick_ris _ (srt_ris a) (srt_ris b)) (srt_ris _) fun x => by
    rw [pick_mem _ (srt_ris a) (srt_ris b), some_mem, srt_mem, srt_mem, plI_mem]
    simp
theorem right_eq (a b : List (List V3)) : pickL [1] (srtL b) (srtL a) = someL a b false :=
  ris_eq (pick_ris _ (srt_ris b) (srt_ris a)) (srt_ris _) fun x => by
    rw [pick_mem _ (srt_ris b) (srt_ris a), some_mem, srt_mem, srt_mem, plI_false]
    simp
    exact And.comm
theorem srt_self {a : List (List V3)} (h : Ris a) : srtL a = a := ris_eq (srt_ris a) h fun x => srt_mem a x
theorem apply_eq (p l m : List (List V3)) : pickL [-1, 0, 1] (srtL p) (pickL [-1] (srtL l) (srtL m)) = srtL (p ++ someL l m false) := by
  have h := union_eq p (someL l m false)
  rw [show srtL (someL l m false) = someL l m false from srt_self (srt_ris _)] at h
  rw [minus_eq, h]
end Go.Proofs.YtaogfgohchpnoaaDoor
