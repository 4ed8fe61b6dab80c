/-
  Rings of places; entries of pages; what a cache is in memory.
-/
import Derived.Test.YtdjebcfpodfhhaaChL
import Derived.Test.YtdjebcfpodfhhaaTupB
namespace Go.Proofs.Ytdjebcfpodfhhaa
open Go Go.RowKit Go.Maps

def Link (w : World) (x y : Nat) : Prop := w.cell? ⟨x, 4, none⟩ = some (ptr y) ∧ w.cell? ⟨y, 3, none⟩ = some (ptr x)
def Links (w : World) : List Nat → Prop
  | [] => True
  | [_] => True
  | x :: y :: r => Link w x y ∧ Links w (y :: r)
theorem links_append {w : World} : ∀ (l : List Nat) (x : Nat) (r : List Nat), Links w (l ++ x :: r) ↔ Links w (l ++ [x]) ∧ Links w (x :: r)
  | [], x, r => by simp [Links]
  | [a], x, r => by simp [Links]
  | a :: b :: l, x, r => by
    have := links_append (w := w) (b :: l) x r
    simp only [List.cons_append, Links] at this ⊢
    rw [this, and_assoc]
theorem Links.frame {w w' : World} : ∀ {L : List Nat}, Links w L → (∀ a ∈ L.dropLast, w'.cell? ⟨a, 4, none⟩ = w.cell? ⟨a, 4, none⟩) → (∀ a ∈ L.tail, w'.cell? ⟨a, 3, none⟩ = w.cell? ⟨a, 3, none⟩) → Links w' L
  | [], _, _, _ => trivial
  | [_], _, _, _ => trivial
  | x :: y :: r, h, h4, h3 => by
    obtain ⟨⟨g4, g3⟩, g⟩ := h
    refine ⟨⟨(h4 x (by simp)).trans g4, (h3 y (by simp)).trans g3⟩, Links.frame g (fun a ha => h4 a ?_) (fun a ha => h3 a ?_)⟩
    · simp only [List.dropLast_cons_cons, List.mem_cons]
      exact .inr ha
    · exact List.mem_cons_of_mem _ ha
theorem snoc_of_ne (a : Nat) (l : List Nat) : ∃ u x, a :: l = u ++ [x] ∧ x ∈ a :: l := by
  have h : a :: l ≠ [] := by simp
  refine ⟨(a :: l).dropLast, (a :: l).getLast h, (List.dropLast_concat_getLast h).symm, List.getLast_mem h⟩
theorem cons_of_snoc (l : List Nat) (a : Nat) : ∃ y v, l ++ [a] = y :: v ∧ (y = a ∨ y ∈ l) := by
  cases l with
  | nil => exact ⟨a, [], rfl, .inl rfl⟩
  | cons b r => exact ⟨b, r ++ [a], rfl, .inr (by simp)⟩
/-- A place in the midst: between which it stands, and what is left when it leaves. -/
theorem links_mid {w : World} {s p : Nat} {l1 l2 : List Nat} (h : Links w (s :: (l1 ++ p :: l2 ++ [s]))) (nd : (s :: (l1 ++ p :: l2)).Nodup) (hlt : ∀ k ∈ s :: (l1 ++ p :: l2), k < w.heap.size) :
    ∃ x y, (x = s ∨ x ∈ l1) ∧ (y = s ∨ y ∈ l2) ∧ w.cell? ⟨p, 3, none⟩ = some (ptr x) ∧ w.cell? ⟨p, 4, none⟩ = some (ptr y) ∧ ∀ w', LeaveW w w' x y → Links w' (s :: (l1 ++ l2 ++ [s])) := by
  obtain ⟨u, x, hu, hxm⟩ := snoc_of_ne s l1
  obtain ⟨y, v, hv, hym⟩ := cons_of_snoc l2 s
  have e : s :: (l1 ++ p :: l2 ++ [s]) = u ++ x :: p :: y :: v := by
    have : s :: (l1 ++ p :: l2 ++ [s]) = (s :: l1) ++ p :: (l2 ++ [s]) := by simp
    rw [this, hu, hv]
    simp
  have e2 : s :: (l1 ++ l2 ++ [s]) = u ++ x :: y :: v := by
    have : s :: (l1 ++ l2 ++ [s]) = (s :: l1) ++ (l2 ++ [s]) := by simp
    rw [this, hu, hv]
    simp
  rw [e, links_append] at h
  obtain ⟨hA, hxp, hpy, hB⟩ := h
  have nd' : ((s :: l1) ++ p :: l2).Nodup := by simpa using nd
  obtain ⟨n1, n2, n12⟩ := List.nodup_append.1 nd'
  have sl1 : s ∉ l1 := (List.nodup_cons.1 n1).1
  have sl2 : s ∉ l2 := fun hs => n12 s (by simp) s (List.mem_cons_of_mem _ hs) rfl
  have dis : ∀ a, a ∈ s :: l1 → a ∈ l2 → False := fun a h1 h2 => n12 a h1 a (List.mem_cons_of_mem _ h2) rfl
  have nl2 : l2.Nodup := (List.nodup_cons.1 n2).2
  refine ⟨x, y, by simpa using hxm, hym, hxp.2, hpy.1, fun w' hl => ?_⟩
  have lt4 : ∀ a ∈ s :: (l1 ++ l2), a ≠ x → w'.cell? ⟨a, 4, none⟩ = w.cell? ⟨a, 4, none⟩ := fun a ha hne => hl.upd.cell a 4 (hlt a (by simp at ha ⊢; rcases ha with h | h | h <;> simp [h])) (fun hc => hc.elim (fun h => hne h.1) (fun h => by have := h.2; omega))
  have lt3 : ∀ a ∈ s :: (l1 ++ l2), a ≠ y → w'.cell? ⟨a, 3, none⟩ = w.cell? ⟨a, 3, none⟩ := fun a ha hne => hl.upd.cell a 3 (hlt a (by simp at ha ⊢; rcases ha with h | h | h <;> simp [h])) (fun hc => hc.elim (fun h => by have := h.2; omega) (fun h => hne h.1))
  rw [e2, links_append]
  refine ⟨?_, ⟨hl.next, hl.prev⟩, ?_⟩
  · have nu : (u ++ [x]).Nodup := hu ▸ n1
    refine hA.frame (fun a ha => ?_) (fun a ha => ?_)
    · rw [List.dropLast_concat] at ha
      have hm : a ∈ s :: l1 := by rw [hu]; exact List.mem_append_left _ ha
      refine lt4 a (by simp at hm ⊢; rcases hm with h | h <;> simp [h]) (fun e => ?_)
      exact (List.nodup_append.1 nu).2.2 a ha x (by simp) e
    · rw [← hu] at ha
      have ha' : a ∈ l1 := ha
      refine lt3 a (by simp [ha']) (fun e => ?_)
      subst e
      rcases hym with h | h
      · subst h; exact sl1 ha'
      · exact dis a (by simp [ha']) h
  · have nv : (y :: v).Nodup := by
      rw [← hv, List.nodup_append]
      exact ⟨nl2, by simp, fun a ha b hb e' => sl2 (by rw [List.mem_singleton.1 hb] at e'; exact e' ▸ ha)⟩
    refine hB.frame (fun a ha => ?_) (fun a ha => ?_)
    · rw [← hv, List.dropLast_concat] at ha
      refine lt4 a (by simp [ha]) (fun e => ?_)
      subst e
      exact dis a hxm ha
    · have ha' : a ∈ v := ha
      have hm : a ∈ l2 ++ [s] := by rw [hv]; simp [ha']
      refine lt3 a (by simp at hm ⊢; rcases hm with h | h <;> simp [h]) (fun e => ?_)
      subst e
      exact (List.nodup_cons.1 nv).1 ha'
/-- A place that comes to the front. -/
theorem links_front {w : World} {s p : Nat} {l : List Nat} (h : Links w (s :: (l ++ [s]))) (nd : (s :: l).Nodup) (hp : p ∉ s :: l) (hlt : ∀ k ∈ s :: l, k < w.heap.size) :
    ∃ f, (f = s ∨ f ∈ l) ∧ w.cell? ⟨s, 4, none⟩ = some (ptr f) ∧ ∀ w', LeadW w w' s f p → Links w' (s :: (p :: l ++ [s])) := by
  obtain ⟨f, v, hv, hfm⟩ := cons_of_snoc l s
  rw [hv] at h
  obtain ⟨sl, nl⟩ := List.nodup_cons.1 nd
  refine ⟨f, hfm, h.1.1, fun w' hl => ?_⟩
  show Links w' (s :: p :: (l ++ [s]))
  rw [hv]
  refine ⟨⟨hl.next, hl.prevP⟩, ⟨hl.nextP, hl.prev⟩, ?_⟩
  have nv : (f :: v).Nodup := by
    rw [← hv, List.nodup_append]
    exact ⟨nl, by simp, fun a ha b hb e' => sl (by rw [List.mem_singleton.1 hb] at e'; exact e' ▸ ha)⟩
  refine h.2.frame (fun a ha => ?_) (fun a ha => ?_)
  · rw [← hv, List.dropLast_concat] at ha
    refine hl.upd.cell a 4 (hlt a (by simp [ha])) (fun hc => ?_)
    rcases hc with ⟨rfl, -⟩ | ⟨rfl, -⟩ | ⟨-, h⟩
    · exact hp (by simp [ha])
    · exact sl ha
    · omega
  · have ha' : a ∈ v := ha
    have hm : a ∈ l ++ [s] := by rw [hv]; simp [ha']
    have hm' : a ∈ s :: l := by simp at hm ⊢; rcases hm with h | h <;> simp [h]
    refine hl.upd.cell a 3 (hlt a hm') (fun hc => ?_)
    rcases hc with ⟨rfl, -⟩ | ⟨-, h⟩ | ⟨rfl, -⟩
    · exact hp hm'
    · omega
    · exact (List.nodup_cons.1 nv).1 ha'
theorem links_last {w : World} {s x : Nat} {l : List Nat} (h : Links w (s :: (l ++ [x] ++ [s]))) : w.cell? ⟨s, 3, none⟩ = some (ptr x) := by
  have e : s :: (l ++ [x] ++ [s]) = (s :: l) ++ x :: [s] := by simp
  rw [e, links_append] at h
  exact h.2.1.2

/-- A slice value reads as a tuple, in a block of S. -/
def TupS (S : Nat → Prop) (W : World) (v : Value) (T : List V3) : Prop :=
  ∃ p cap, v = .slice p T.length cap ∧ T.length ≤ 4398046510976 ∧ (T = [] ∨ ∃ b off, p = some ⟨b, off, none⟩ ∧ S b ∧ CellsAt W b off T)
/-- The cells of entries. -/
def CellsQ (W : World) (b off : Nat) (Q : List (Value × (List V3 × Int))) : Prop := ∀ j q, Q[j]? = some q → W.cell? ⟨b, off + j * 2, none⟩ = some q.1 ∧ W.cell? ⟨b, off + j * 2 + 1, none⟩ = some (.int .i64 q.2.2)
/-- A slice value reads as entries, in blocks of S. -/
def EntS (S : Nat → Prop) (W : World) (v : Value) (E : List (List V3 × Int)) : Prop :=
  ∃ p cap Q, Q.map (·.2) = E ∧ v = .slice p Q.length cap ∧ Q.length ≤ 100 ∧ (∀ q ∈ Q, TupS S W q.1 q.2.1) ∧ (Q = [] ∨ ∃ b off, p = some ⟨b, off, none⟩ ∧ S b ∧ CellsQ W b off Q)
theorem TupS.same {S S' : Nat → Prop} {W W' : World} {v : Value} {T : List V3} (h : TupS S W v T) (hS : ∀ k, S k → S' k) (hb : ∀ b o, S b → W'.cell? ⟨b, o, none⟩ = W.cell? ⟨b, o, none⟩) : TupS S' W' v T := by
  obtain ⟨p, cap, rfl, hl, h⟩ := h
  refine ⟨p, cap, rfl, hl, ?_⟩
  rcases h with h | ⟨b, off, rfl, hlt, hc⟩
  · exact .inl h
  · refine .inr ⟨b, off, rfl, hS _ hlt, fun j hj => ?_⟩
    rw [hb b _ hlt, hb b _ hlt, hb b _ hlt]
    exact hc j hj
theorem EntS.same {S S' : Nat → Prop} {W W' : World} {v : Value} {E : List (List V3 × Int)} (h : EntS S W v E) (hS : ∀ k, S k → S' k) (hb : ∀ b o, S b → W'.cell? ⟨b, o, none⟩ = W.cell? ⟨b, o, none⟩) : EntS S' W' v E := by
  obtain ⟨p, cap, Q, hQ, rfl, hl, ht, h⟩ := h
  refine ⟨p, cap, Q, hQ, rfl, hl, fun q hq => (ht q hq).same hS hb, ?_⟩
  rcases h with h | ⟨b, off, rfl, hlt, hc⟩
  · exact .inl h
  · exact .inr ⟨b, off, rfl, hS _ hlt, fun j q hj => ⟨(hb b _ hlt).trans (hc j q hj).1, (hb b _ hlt).trans (hc j q hj).2⟩⟩
theorem lt_of_cell {W : World} {b o : Nat} {u : Value} (h : W.cell? ⟨b, o, none⟩ = some u) : b < W.heap.size := by
  by_cases hb : b < W.heap.size
  · exact hb
  · have : W.heap[b]? = none := Array.getElem?_eq_none (by omega)
    simp [World.cell?, this] at h
theorem TupS.inside {S : Nat → Prop} {W : World} {v : Value} {T : List V3} (h : TupS S W v T) : TupS (fun k => S k ∧ k < W.heap.size) W v T := by
  obtain ⟨p, cap, rfl, hl, h⟩ := h
  refine ⟨p, cap, rfl, hl, ?_⟩
  by_cases hT : T = []
  · exact .inl hT
  · rcases h with h | ⟨b, off, rfl, hlt, hc⟩
    · exact absurd h hT
    · have h0 : 0 < T.length := List.length_pos_iff.2 hT
      exact .inr ⟨b, off, rfl, ⟨hlt, lt_of_cell (hc 0 h0).1⟩, hc⟩
theorem EntS.inside {S : Nat → Prop} {W : World} {v : Value} {E : List (List V3 × Int)} (h : EntS S W v E) : EntS (fun k => S k ∧ k < W.heap.size) W v E := by
  obtain ⟨p, cap, Q, hQ, rfl, hl, ht, h⟩ := h
  refine ⟨p, cap, Q, hQ, rfl, hl, fun q hq => (ht q hq).inside, ?_⟩
  cases Q with
  | nil => exact .inl rfl
  | cons q Q =>
    rcases h with h | ⟨b, off, rfl, hlt, hc⟩
    · cases h
    · exact .inr ⟨b, off, rfl, ⟨hlt, lt_of_cell (hc 0 q rfl).1⟩, hc⟩
/-- A page that a cache keeps: its place, its key, its entries. -/
structure Nd where
  b : Nat
  r : ByteArray
  i : Int
  v : Value
  E : List (List V3 × Int)
def Nd.key (x : Nd) : Lit := pgK x.r x.i
def Nd.ok (x : Nd) : Prop := KeyOk x.r x.i
/-- What a cache's map says. -/
structure KeysOf (D : DataW Value) (N : List Nd) : Prop where
  yes : ∀ x ∈ N, has D x.key = true ∧ ∀ z, D.atKey x.key z = .held (ptr x.b)
  only : ∀ kl, has D kl = true → ∃ x ∈ N, kl = x.key
  size : Maps.size D = N.length
/-- A cache in memory: its own blocks A, the blocks of its entries B. -/
structure CaAt (A B : Nat → Prop) (w : World) (c M s : Nat) (room h m g : Int) (n : Nat) (N : List Nd) : Prop where
  ltA : ∀ k, A k → k < w.heap.size
  ltB : ∀ k, B k → k < w.heap.size
  apart : ∀ k, A k → B k → False
  inA : A c ∧ A M ∧ A s ∧ ∀ x ∈ N, A x.b
  nodup : (M :: c :: s :: N.map (·.b)).Nodup
  cells : w.cell? ⟨c, 0, none⟩ = some (ptr c) ∧ w.cell? ⟨c, 1, none⟩ = some (.int .i64 room) ∧ w.cell? ⟨c, 2, none⟩ = some (.map (some M)) ∧ w.cell? ⟨c, 3, none⟩ = some (ptr s) ∧ w.cell? ⟨c, 4, none⟩ = some (.int .i64 h) ∧ w.cell? ⟨c, 5, none⟩ = some (.int .i64 m) ∧ w.cell? ⟨c, 6, none⟩ = some (.int .i64 g)
  kindC : Bk w c 67 7
  kindP : ∀ b ∈ s :: N.map (·.b), Bk w b 81 5
  links : Links w (s :: (N.map (·.b) ++ [s]))
  els : ∀ x ∈ N, w.cell? ⟨x.b, 0, none⟩ = some (.string x.r) ∧ w.cell? ⟨x.b, 1, none⟩ = some (.int .i64 x.i) ∧ w.cell? ⟨x.b, 2, none⟩ = some x.v
  ents : ∀ x ∈ N, EntS B w x.v x.E
  map : ∃ D, MapAt w Try.prog 33 M n D ∧ KeysOf D N
  oks : ∀ x ∈ N, x.ok
  keys : (N.map Nd.key).Nodup
/-- What is elsewhere may turn. -/
theorem CaAt.upd {A B : Nat → Prop} {w w' : World} {c M s n : Nat} {room h m g : Int} {N : List Nd} (H : CaAt A B w c M s room h m g n N) {C : Nat → Nat → Prop} (hu : Upd C w w') (hC : ∀ k o, A k ∨ B k → ¬ C k o) : CaAt A B w' c M s room h m g n N := by
  have lt := H.ltA
  have cA : ∀ k o, A k → w'.cell? ⟨k, o, none⟩ = w.cell? ⟨k, o, none⟩ := fun k o hk => hu.cell k o (H.ltA k hk) (hC k o (.inl hk))
  have cB : ∀ k o, B k → w'.cell? ⟨k, o, none⟩ = w.cell? ⟨k, o, none⟩ := fun k o hk => hu.cell k o (H.ltB k hk) (hC k o (.inr hk))
  obtain ⟨a1, a2, a3, a4⟩ := H.inA
  have aP : ∀ k ∈ s :: N.map (·.b), A k := fun k hk => by
    rcases List.mem_cons.1 hk with rfl | hk
    · exact a3
    · obtain ⟨x, hx, rfl⟩ := List.mem_map.1 hk
      exact a4 x hx
  refine ⟨fun k hk => Nat.lt_of_lt_of_le (H.ltA k hk) hu.size, fun k hk => Nat.lt_of_lt_of_le (H.ltB k hk) hu.size, H.apart, H.inA, H.nodup, ?_, hu.kind _ _ _ H.kindC, fun b hb => hu.kind _ _ _ (H.kindP b hb), ?_, fun x hx => ?_, fun x hx => (H.ents x hx).same (fun _ h => h) cB, ?_, H.oks, H.keys⟩
  · simp only [cA c _ a1]
    exact H.cells
  · refine H.links.frame (fun a ha => cA a 4 (aP a ?_)) (fun a ha => cA a 3 (aP a ?_))
    · have : (s :: (N.map (·.b) ++ [s])).dropLast = s :: N.map (·.b) := by
        rw [← List.cons_append, List.dropLast_concat]
      rw [this] at ha
      exact ha
    · have ha' : a ∈ N.map (·.b) ++ [s] := ha
      simp only [List.mem_append, List.mem_singleton] at ha'
      rcases ha' with h | h
      · exact List.mem_cons_of_mem _ h
      · simp [h]
  · simp only [cA x.b _ (a4 x hx)]
    exact H.els x hx
  · obtain ⟨D, h1, h2⟩ := H.map
    exact ⟨D, h1.upd hu (fun o => hC M o (.inl a2)), h2⟩
theorem CaAt.below {A B : Nat → Prop} {w w' : World} {c M s n : Nat} {room h m g : Int} {N : List Nd} (H : CaAt A B w c M s room h m g n N) (hb : Below w.heap.size w w') : CaAt A B w' c M s room h m g n N :=
  H.upd (Upd.of_below (C := fun _ _ => False) hb) (fun _ _ _ e => e)
end Go.Proofs.Ytdjebcfpodfhhaa
