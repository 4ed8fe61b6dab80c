/-
  What calls make of a cache: words.
-/
import Derived.Test.YtdjebcfpodfhhaaChE
import Derived.Deep.QuietTactic
namespace Go.Proofs.Ytdjebcfpodfhhaa
open Go Go.RowKit Go.Maps Go.WideMaps

theorem KeysOf.perm {D : DataW Value} {N N' : List Nd} (h : KeysOf D N) (hp : N'.Perm N) : KeysOf D N' :=
  ⟨fun x hx => h.yes x (hp.mem_iff.1 hx), fun kl hk => by obtain ⟨x, hx, e⟩ := h.only kl hk; exact ⟨x, hp.mem_iff.2 hx, e⟩, h.size.trans hp.length_eq.symm⟩
theorem Nd.lit (x : Nd) : WideAt.IsKeyLit x.key := pgK_lit _ _
theorem KeysOf.del {D : DataW Value} {L1 L2 : List Nd} {x : Nd} (h : KeysOf D (L1 ++ x :: L2)) (ht : Tidy D) (nd : ((L1 ++ x :: L2).map Nd.key).Nodup) : KeysOf (D.del x.key) (L1 ++ L2) := by
  have hne : ∀ y ∈ L1 ++ L2, y.key ≠ x.key := fun y hy e => by
    rw [List.map_append, List.map_cons, List.nodup_append] at nd
    obtain ⟨-, n2, n3⟩ := nd
    rcases List.mem_append.1 hy with hy | hy
    · exact n3 y.key (List.mem_map_of_mem hy) x.key (by simp) e
    · exact (List.nodup_cons.1 n2).1 (e ▸ List.mem_map_of_mem hy)
  refine ⟨fun y hy => ?_, fun kl hk => ?_, ?_⟩
  · have := h.yes y (by simp at hy ⊢; rcases hy with h | h <;> simp [h])
    rw [has_del_other (hne y hy)]
    exact ⟨this.1, fun z => by rw [atKey_del_other (hne y hy)]; exact this.2 z⟩
  · by_cases e : kl = x.key
    · subst e
      rw [has_del_same] at hk
      cases hk
    · rw [has_del_other e] at hk
      obtain ⟨y, hy, e'⟩ := h.only kl hk
      refine ⟨y, ?_, e'⟩
      simp only [List.mem_append, List.mem_cons] at hy ⊢
      rcases hy with hy | rfl | hy
      · exact .inl hy
      · exact absurd e' e
      · exact .inr hy
  · have := size_del (k := x.key) ht
    rw [(h.yes x (by simp)).1, if_pos rfl, h.size] at this
    simp at this ⊢
    omega
theorem KeysOf.put {D : DataW Value} {N : List Nd} {x : Nd} (h : KeysOf D N) (ht : Tidy D) (hx : ∀ y ∈ N, y.key ≠ x.key) : KeysOf (D.put x.key (.held (ptr x.b))) (x :: N) := by
  have hno : has D x.key = false := by
    cases e : has D x.key with
    | false => rfl
    | true => obtain ⟨y, hy, e'⟩ := h.only _ e; exact absurd e'.symm (hx y hy)
  refine ⟨fun y hy => ?_, fun kl hk => ?_, ?_⟩
  · rcases List.mem_cons.1 hy with rfl | hy
    · exact ⟨has_put_same ht.isMap y.lit _, fun z => atKey_put_same ht.isMap y.lit _ _⟩
    · have := h.yes y hy
      rw [has_put_other (hx y hy)]
      exact ⟨this.1, fun z => by rw [atKey_put_other (hx y hy)]; exact this.2 z⟩
  · by_cases e : kl = x.key
    · exact ⟨x, by simp, e⟩
    · rw [has_put_other e] at hk
      obtain ⟨y, hy, e'⟩ := h.only kl hk
      exact ⟨y, by simp [hy], e'⟩
  · rw [size_put ht, hno]
    simp [h.size]
theorem KeysOf.none {D : DataW Value} {N : List Nd} {k : Lit} (h : KeysOf D N) (hx : ∀ y ∈ N, y.key ≠ k) : has D k = false := by
  cases e : has D k with
  | false => rfl
  | true => obtain ⟨y, hy, e'⟩ := h.only _ e; exact absurd e'.symm (hx y hy)
section
variable {A B : Nat → Prop} {w w' : World} {c M s n : Nat} {room h m g : Int} {N : List Nd}
theorem CaAt.cells_ (H : CaAt A B w c M s room h m g n N) : w.cell? ⟨c, 0, none⟩ = some (ptr c) ∧ w.cell? ⟨c, 1, none⟩ = some (.int .i64 room) ∧ w.cell? ⟨c, 2, none⟩ = some (.map (some M)) ∧ w.cell? ⟨c, 3, none⟩ = some (ptr s) ∧ w.cell? ⟨c, 4, none⟩ = some (.int .i64 h) ∧ w.cell? ⟨c, 5, none⟩ = some (.int .i64 m) ∧ w.cell? ⟨c, 6, none⟩ = some (.int .i64 g) := H.cells
theorem CaAt.drew (H : CaAt A B w c M s room h m g n N) : CaAt A B w.drew c M s room h m g n N := H.below (Below.refl _ _).drew
theorem CaAt.alloc (H : CaAt A B w c M s room h m g n N) (o : Obj) : CaAt A B (w.alloc o) c M s room h m g n N := H.below ((Below.refl _ _).alloc (Nat.le_refl _) o)
theorem CaAt.setS {j : Nat} {v h' m' g' : Int} (H : CaAt A B w c M s room h m g n N) (hj : (j = 4 ∧ h' = v ∧ m' = m ∧ g' = g) ∨ (j = 5 ∧ h' = h ∧ m' = v ∧ g' = g) ∨ (j = 6 ∧ h' = h ∧ m' = m ∧ g' = v)) :
    CaAt A B (w.setCell ⟨c, j, none⟩ (.int .i64 v)) c M s room h' m' g' n N := by
  have hu : Upd (fun b o => b = c ∧ o = j) w (w.setCell ⟨c, j, none⟩ (.int .i64 v)) := (Upd.refl _ w).setCell c j _ (fun _ => ⟨rfl, rfl⟩)
  obtain ⟨a1, a2, a3, a4⟩ := H.inA
  have nd := H.nodup
  simp only [List.nodup_cons, List.mem_cons, not_or] at nd
  obtain ⟨⟨m1, m2, m3⟩, ⟨c1, c2⟩, s1, s2⟩ := nd
  have cne : ∀ b ∈ s :: N.map (·.b), b ≠ c := fun b hb e => by
    subst e
    rcases List.mem_cons.1 hb with rfl | hb
    · exact c1 rfl
    · exact c2 hb
  have keep : ∀ b ∈ s :: N.map (·.b), ∀ o, (w.setCell ⟨c, j, none⟩ (.int .i64 v)).cell? ⟨b, o, none⟩ = w.cell? ⟨b, o, none⟩ := fun b hb o => hu.cell b o ((H.kindP b hb).lt) (fun e => cne b hb e.1)
  obtain ⟨q0, q1, q2, q3, q4, q5, q6⟩ := H.cells
  have oth : ∀ i, i ≠ j → (w.setCell ⟨c, j, none⟩ (.int .i64 v)).cell? ⟨c, i, none⟩ = w.cell? ⟨c, i, none⟩ := fun i hi => World.cell?_setCell_other _ _ _ _ (fun e => by injection e with _ e; exact hi e.symm)
  have own : j < 7 → (w.setCell ⟨c, j, none⟩ (.int .i64 v)).cell? ⟨c, j, none⟩ = some (.int .i64 v) := fun hj => World.cell?_setCell_same' _ _ _ (H.kindC.there hj)
  refine ⟨fun k hk => Nat.lt_of_lt_of_le (H.ltA k hk) hu.size, fun k hk => Nat.lt_of_lt_of_le (H.ltB k hk) hu.size, H.apart, H.inA, H.nodup, ?_, hu.kind _ _ _ H.kindC, fun b hb => hu.kind _ _ _ (H.kindP b hb), ?_, fun x hx => ?_, fun x hx => (H.ents x hx).same (fun _ h => h) (fun b o hb => hu.cell b o (H.ltB b hb) (fun e => H.apart b (e.1 ▸ a1) hb)), ?_, H.oks, H.keys⟩
  · rcases hj with ⟨rfl, rfl, rfl, rfl⟩ | ⟨rfl, rfl, rfl, rfl⟩ | ⟨rfl, rfl, rfl, rfl⟩
    · exact ⟨(oth 0 (by decide)).trans q0, (oth 1 (by decide)).trans q1, (oth 2 (by decide)).trans q2, (oth 3 (by decide)).trans q3, own (by decide), (oth 5 (by decide)).trans q5, (oth 6 (by decide)).trans q6⟩
    · exact ⟨(oth 0 (by decide)).trans q0, (oth 1 (by decide)).trans q1, (oth 2 (by decide)).trans q2, (oth 3 (by decide)).trans q3, (oth 4 (by decide)).trans q4, own (by decide), (oth 6 (by decide)).trans q6⟩
    · exact ⟨(oth 0 (by decide)).trans q0, (oth 1 (by decide)).trans q1, (oth 2 (by decide)).trans q2, (oth 3 (by decide)).trans q3, (oth 4 (by decide)).trans q4, (oth 5 (by decide)).trans q5, own (by decide)⟩
  · refine H.links.frame (fun a ha => keep a ?_ 4) (fun a ha => keep a ?_ 3)
    · have : (s :: (N.map (·.b) ++ [s])).dropLast = s :: N.map (·.b) := by rw [← List.cons_append, List.dropLast_concat]
      rw [this] at ha
      exact ha
    · have ha' : a ∈ N.map (·.b) ++ [s] := ha
      simp only [List.mem_append, List.mem_singleton] at ha'
      rcases ha' with h | h
      · exact List.mem_cons_of_mem _ h
      · simp [h]
  · simp only [keep x.b (List.mem_cons_of_mem _ (List.mem_map_of_mem hx))]
    exact H.els x hx
  · obtain ⟨D, h1, h2⟩ := H.map
    exact ⟨D, h1.upd hu (fun o e => m1 e.1), h2⟩
/-- The list and the map turn, and nothing else: no page is new. -/
theorem CaAt.turn (H : CaAt A B w c M s room h m g n N) {C : Nat → Nat → Prop} (hu : Upd C w w') (hC : ∀ b o, C b o → b = M ∨ ((o = 3 ∨ o = 4) ∧ b ∈ s :: N.map (·.b)))
    {N' : List Nd} (hs : ∀ x ∈ N', x ∈ N) (nb : (N'.map (·.b)).Nodup) (nk : (N'.map Nd.key).Nodup) (hl : Links w' (s :: (N'.map (·.b) ++ [s]))) {n' : Nat} (hm : ∃ D, MapAt w' Try.prog 33 M n' D ∧ KeysOf D N') :
    CaAt A B w' c M s room h m g n' N' := by
  obtain ⟨a1, a2, a3, a4⟩ := H.inA
  have nd := H.nodup
  simp only [List.nodup_cons, List.mem_cons, not_or] at nd
  obtain ⟨⟨m1, m2, m3⟩, ⟨c1, c2⟩, s1, s2⟩ := nd
  have sub : ∀ b, b ∈ N'.map (·.b) → b ∈ N.map (·.b) := fun b hb => by
    obtain ⟨x, hx, rfl⟩ := List.mem_map.1 hb
    exact List.mem_map_of_mem (hs x hx)
  have inP : ∀ b ∈ s :: N.map (·.b), b ≠ M ∧ b ≠ c ∧ A b := fun b hb => by
    rcases List.mem_cons.1 hb with rfl | hb
    · exact ⟨fun e => m2 e.symm, fun e => c1 e.symm, a3⟩
    · refine ⟨fun e => m3 (e ▸ hb), fun e => c2 (e ▸ hb), ?_⟩
      obtain ⟨x, hx, rfl⟩ := List.mem_map.1 hb
      exact a4 x hx
  have cell : ∀ b o, b < w.heap.size → (b ≠ M) → (¬ (o = 3 ∨ o = 4) ∨ b ∉ s :: N.map (·.b)) → w'.cell? ⟨b, o, none⟩ = w.cell? ⟨b, o, none⟩ := fun b o hb hM ho => hu.cell b o hb (fun e => by
    rcases hC b o e with e | ⟨e1, e2⟩
    · exact hM e
    · exact ho.elim (fun h => h e1) (fun h => h e2))
  refine ⟨fun k hk => Nat.lt_of_lt_of_le (H.ltA k hk) hu.size, fun k hk => Nat.lt_of_lt_of_le (H.ltB k hk) hu.size, H.apart, ⟨a1, a2, a3, fun x hx => a4 x (hs x hx)⟩, ?_, ?_, hu.kind _ _ _ H.kindC, fun b hb => hu.kind _ _ _ (H.kindP b ?_), hl, fun x hx => ?_, fun x hx => (H.ents x (hs x hx)).same (fun _ h => h) (fun b o hb => cell b o (H.ltB b hb) (fun e => H.apart b (e ▸ a2) hb) (.inr (fun hp => H.apart b (inP b hp).2.2 hb))), hm, fun x hx => H.oks x (hs x hx), nk⟩
  · simp only [List.nodup_cons, List.mem_cons, not_or]
    exact ⟨⟨m1, m2, fun hh => m3 (sub _ hh)⟩, ⟨c1, fun hh => c2 (sub _ hh)⟩, fun hh => s1 (sub _ hh), nb⟩
  · have cc : ∀ o, w'.cell? ⟨c, o, none⟩ = w.cell? ⟨c, o, none⟩ := fun o => cell c o H.kindC.lt (fun e => m1 e.symm) (.inr (fun hp => (inP c hp).2.1 rfl))
    simp only [cc]
    exact H.cells
  · rcases List.mem_cons.1 hb with rfl | hb
    · exact List.mem_cons_self
    · exact List.mem_cons_of_mem _ (sub _ hb)
  · have hm := List.mem_cons_of_mem s (List.mem_map_of_mem (f := (·.b)) (hs x hx))
    have ce : ∀ o, o < 3 → w'.cell? ⟨x.b, o, none⟩ = w.cell? ⟨x.b, o, none⟩ := fun o ho => cell x.b o (H.kindP _ hm).lt (inP _ hm).1 (.inl (by omega))
    rw [ce 0 (by decide), ce 1 (by decide), ce 2 (by decide)]
    exact H.els x (hs x hx)
end
end Go.Proofs.Ytdjebcfpodfhhaa
