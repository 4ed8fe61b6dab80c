/-
  Caches as the laws see them: pages by key and entries, blocks from n0 on and below n1.
-/
import Derived.Test.YtdjebcfpodfhhaaChX
namespace Go.Proofs.Ytdjebcfpodfhhaa
open Go Go.RowKit Go.Maps Go.WideMaps

/-- A page: its file's name, its number, its entries. -/
abbrev Pg := ByteArray × Int × List (List V3 × Int)
def eqK (r : ByteArray) (i : Int) (r' : ByteArray) (i' : Int) : Bool := r.toList == r'.toList && i == i'
theorem eqK_iff {r r' : ByteArray} {i i' : Int} : eqK r i r' i' = true ↔ r = r' ∧ i = i' := by
  unfold eqK
  simp only [Bool.and_eq_true, beq_iff_eq]
  exact ⟨fun h => ⟨str_ext h.1, h.2⟩, fun h => ⟨by rw [h.1], h.2⟩⟩
theorem eqK_self (r : ByteArray) (i : Int) : eqK r i r i = true := eqK_iff.2 ⟨rfl, rfl⟩
theorem eqK_false {r r' : ByteArray} {i i' : Int} : eqK r i r' i' = false ↔ ¬ (r = r' ∧ i = i') := by
  rw [← eqK_iff]
  cases eqK r i r' i' <;> simp
/-- The pages under other keys. -/
def restL (r : ByteArray) (i : Int) (L : List Pg) : List Pg := L.filter fun x => !eqK x.1 x.2.1 r i
def findL (r : ByteArray) (i : Int) (L : List Pg) : Option Pg := L.find? fun x => eqK x.1 x.2.1 r i
/-- The keys are apart. -/
def Apart (L : List Pg) : Prop := L.Pairwise fun a b => ¬ (a.1 = b.1 ∧ a.2.1 = b.2.1)
theorem restL_none {r : ByteArray} {i : Int} {L : List Pg} (h : ∀ x ∈ L, ¬ (x.1 = r ∧ x.2.1 = i)) : restL r i L = L :=
  List.filter_eq_self.2 fun x hx => by simp [eqK_false.2 (h x hx)]
theorem restL_some {L1 L2 : List Pg} {x : Pg} (h : Apart (L1 ++ x :: L2)) : restL x.1 x.2.1 (L1 ++ x :: L2) = L1 ++ L2 := by
  have h' := List.pairwise_append.1 h
  obtain ⟨h1, h2, h3⟩ := h'
  unfold restL
  rw [List.filter_append, List.filter_cons]
  simp only [eqK_self, Bool.not_true, Bool.false_eq_true, if_false]
  congr 1
  · exact restL_none fun y hy => h3 y hy x List.mem_cons_self
  · exact restL_none fun y hy e => (List.pairwise_cons.1 h2).1 y hy ⟨e.1.symm, e.2.symm⟩
theorem findL_some {r : ByteArray} {i : Int} {L : List Pg} {x : Pg} (h : findL r i L = some x) : ∃ L1 L2, L = L1 ++ x :: L2 ∧ x.1 = r ∧ x.2.1 = i := by
  have hp := List.find?_some h
  have hm := List.mem_of_find?_eq_some h
  obtain ⟨L1, L2, e⟩ := List.append_of_mem hm
  exact ⟨L1, L2, e, eqK_iff.1 hp⟩
theorem findL_none {r : ByteArray} {i : Int} {L : List Pg} (h : findL r i L = none) : ∀ x ∈ L, ¬ (x.1 = r ∧ x.2.1 = i) := fun x hx e => by
  have := List.find?_eq_none.1 h x hx
  rw [eqK_iff.2 e] at this
  exact this rfl
def Nd.abs (x : Nd) : Pg := (x.r, x.i, x.E)
/-- A cache as the laws see it. -/
def CaX (n0 n1 cnt : Nat) (w : World) (c : Nat) (room : Int) (h m g : Int) (L : List Pg) : Prop :=
  ∃ A B M s n N, CaAt A B w c M s room h m g n N ∧ n ≤ cnt ∧ cnt ≤ 1000 ∧ (∀ k, A k → n0 ≤ k ∧ k < n1) ∧ (∀ k, B k → n0 ≤ k ∧ k < n1) ∧ N.map Nd.abs = L ∧ n1 ≤ w.heap.size ∧ (0 ≤ room ∧ room ≤ 1024) ∧ (L.length : Int) ≤ room ∧ (0 ≤ h ∧ h ≤ 1000) ∧ (0 ≤ m ∧ m ≤ 1000) ∧ (0 ≤ g ∧ g ≤ 1000)
theorem CaX.below {n0 n1 cnt : Nat} {w w' : World} {c : Nat} {room h m g : Int} {L : List Pg} (H : CaX n0 n1 cnt w c room h m g L) (hb : Below w.heap.size w w') : CaX n0 n1 cnt w' c room h m g L := by
  obtain ⟨A, B, M, s, n, N, h1, h2, h3, h4, h5, h6, h7, h8⟩ := H
  exact ⟨A, B, M, s, n, N, h1.below hb, h2, h3, h4, h5, h6, Nat.le_trans h7 hb.size, h8⟩
theorem CaX.upd {n0 n1 cnt : Nat} {w w' : World} {c : Nat} {room h m g : Int} {L : List Pg} (H : CaX n0 n1 cnt w c room h m g L) {C : Nat → Nat → Prop} (hu : Upd C w w') (hC : ∀ k o, n0 ≤ k → k < n1 → ¬ C k o) : CaX n0 n1 cnt w' c room h m g L := by
  obtain ⟨A, B, M, s, n, N, h1, h2, h3, h4, h5, h6, h7, h8⟩ := H
  exact ⟨A, B, M, s, n, N, h1.upd hu (fun k o hk => hk.elim (fun hk => hC k o (h4 k hk).1 (h4 k hk).2) (fun hk => hC k o (h5 k hk).1 (h5 k hk).2)), h2, h3, h4, h5, h6, Nat.le_trans h7 hu.size, h8⟩
/-- What a call to a cache may turn. -/
def Span (n0 n1 : Nat) : Nat → Nat → Prop := fun k _ => n0 ≤ k ∧ k < n1
theorem upd_span {A : Nat → Prop} {n0 n1 : Nat} {w w' : World} (h : Upd (allOf A) w w') (hA : ∀ k, A k → n0 ≤ k ∧ k < n1) : Upd (Span n0 n1) w w' := h.mono fun k _ _ e => hA k e
theorem CaX.apart {n0 n1 cnt : Nat} {w : World} {c : Nat} {room h m g : Int} {L : List Pg} (H : CaX n0 n1 cnt w c room h m g L) : Apart L := by
  obtain ⟨A, B, M, s, n, N, h1, -, -, -, -, rfl, -⟩ := H
  unfold Apart
  rw [List.pairwise_map]
  have hk := List.pairwise_map.1 h1.keys
  refine hk.imp_of_mem (fun {a b} ha hb hne e => hne ?_)
  unfold Nd.abs at e
  simp only at e
  unfold Nd.key
  rw [e.1, e.2]
section
variable {n0 n1 cnt : Nat} {w : World} {c : Nat} {room h m g : Int} {L : List Pg}
theorem map_split {N : List Nd} {L1 L2 : List Pg} {x : Pg} (h : N.map Nd.abs = L1 ++ x :: L2) : ∃ N1 y N2, N = N1 ++ y :: N2 ∧ N1.map Nd.abs = L1 ∧ y.abs = x ∧ N2.map Nd.abs = L2 := by
  obtain ⟨N1, R, e, h1, h2⟩ := List.map_eq_append_iff.1 h
  obtain ⟨y, N2, e2, h3, h4⟩ := List.map_eq_cons_iff.1 h2
  exact ⟨N1, y, N2, by rw [e, e2], h1, h3, h4⟩
theorem key_of_abs {N : List Nd} {r : ByteArray} {i : Int} (hoks : ∀ x ∈ N, x.ok) (hk : KeyOk r i) (h : ∀ x ∈ N.map Nd.abs, ¬ (x.1 = r ∧ x.2.1 = i)) : ∀ y ∈ N, y.key ≠ pgK r i := fun y hy e =>
  h y.abs (List.mem_map_of_mem hy) (pgK_inj (hoks y hy) hk e)
theorem newX (w : World) (room : Int) (h1 : 0 ≤ room) (h2 : room ≤ 1024) : Calls Try.prog 8 #[.int .i64 room] w fun e w' => e = .returned (.tuple #[ptr (w.heap.size + 3), .int .i64 0]) ∧ CaX w.heap.size w'.heap.size 0 w' (w.heap.size + 3) room 0 0 0 [] ∧ Below w.heap.size w w' := by
  refine (new_any w room h1 h2).mono ?_
  rintro e w1 ⟨rfl, hca, hb⟩
  refine ⟨rfl, ⟨_, _, _, _, _, _, hca, Nat.le_refl _, by decide, fun k hk => ⟨?_, hca.ltA k hk⟩, fun k hk => hk.elim, rfl, Nat.le_refl _, ⟨h1, h2⟩, by simpa using h1, by decide, by decide, by decide⟩, hb⟩
  rcases hk with rfl | rfl | rfl <;> omega
/-- What Get answers. -/
def GetX (n0 n1 cnt : Nat) (w : World) (c : Nat) (room h m g : Int) (L : List Pg) (r : ByteArray) (i : Int) (e : Ending) (w' : World) : Prop :=
  Upd (Span n0 n1) w w' ∧ ((findL r i L = none ∧ e = .returned (.tuple #[.slice none 0 0, .bool false]) ∧ CaX n0 n1 cnt w' c room h (m + 1) g L) ∨
    ∃ x v, findL r i L = some x ∧ e = .returned (.tuple #[v, .bool true]) ∧ CaX n0 n1 cnt w' c room (h + 1) m g (x :: restL r i L) ∧ EntS (fun k => w.heap.size ≤ k) w' v x.2.2 ∧ ∃ Q, Q.map (·.2) = x.2.2 ∧ RowQ w' w.heap.size v Q)
theorem getX (H : CaX n0 n1 cnt w c room h m g L) (r : ByteArray) (i : Int) (hk : KeyOk r i) (hh : h ≤ 900) (hm : m ≤ 900) :
    Calls Try.prog 20 #[ptr c, .agg #[.string r, .int .i64 i]] w (GetX n0 n1 cnt w c room h m g L r i) := by
  have hap := H.apart
  obtain ⟨A, B, M, s, n, N, h1, h2, h3, h4, h5, rfl, h7, h8, h9, h10, h11, h12⟩ := H
  cases hf : findL r i (N.map Nd.abs) with
  | none =>
    refine (get_miss h1 r i hk (key_of_abs h1.oks hk (findL_none hf)) ⟨h11.1, by omega⟩).mono ?_
    rintro e w1 ⟨rfl, hca, hup⟩
    exact ⟨upd_span hup h4, .inl ⟨hf, rfl, ⟨A, B, M, s, n, N, hca, h2, h3, h4, h5, rfl, Nat.le_trans h7 hup.size, h8, h9, h10, ⟨by omega, by omega⟩, h12⟩⟩⟩
  | some x =>
    obtain ⟨L1, L2, hL, e1, e2⟩ := findL_some hf
    obtain ⟨N1, y, N2, rfl, f1, rfl, f2⟩ := map_split hL
    have er : y.r = r := e1
    have ei : y.i = i := e2
    have hg := get_hit h1 rfl ⟨h10.1, by omega⟩
    rw [er, ei] at hg
    refine hg.mono ?_
    rintro e w1 ⟨v, rfl, he, hca, hup, hQ⟩
    have hr : restL r i ((N1 ++ y :: N2).map Nd.abs) = (N1 ++ N2).map Nd.abs := by
      rw [hL] at hap ⊢
      have := restL_some hap
      rw [e1, e2] at this
      rw [this, List.map_append, f1, f2]
    refine ⟨upd_span hup h4, .inr ⟨y.abs, v, hf, rfl, ⟨A, B, M, s, n, _, hca, h2, h3, h4, h5, ?_, Nat.le_trans h7 hup.size, h8, ?_, ⟨by omega, by omega⟩, h11, h12⟩, he, hQ⟩⟩
    · rw [hr]; rfl
    · rw [hr]
      simp only [List.length_cons, List.length_map, List.length_append] at h9 ⊢
      omega
/-- What Put leaves. -/
def putL (room : Int) (r : ByteArray) (i : Int) (E : List (List V3 × Int)) (L : List Pg) : List Pg := ((r, i, E) :: restL r i L).take room.toNat
def putG (room : Int) (r : ByteArray) (i : Int) (g : Int) (L : List Pg) : Int := if room = 0 then g else if (room : Int) < (restL r i L).length + 1 then g + 1 else g
def PutX (n0 n1 cnt : Nat) (w : World) (c : Nat) (room h m g : Int) (L : List Pg) (r : ByteArray) (i : Int) (E : List (List V3 × Int)) (e : Ending) (w' : World) : Prop :=
  e = .returned (.tuple #[]) ∧ Upd (Span n0 n1) w w' ∧ CaX n0 w'.heap.size (cnt + 1) w' c room h m (putG room r i g L) (putL room r i E L)
theorem put_close {A B : Nat → Prop} {M s n : Nat} {N N0 : List Nd} {g' : Int} {r : ByteArray} {i : Int} {E : List (List V3 × Int)} {e : Ending} {w' : World} (hp : PutEnd A B w c M s room h m g' n r i E N0 e w') (h0 : n0 ≤ n1) (h2 : n ≤ cnt) (h3 : cnt < 1000) (h4 : ∀ k, A k → n0 ≤ k ∧ k < n1) (h5 : ∀ k, B k → n0 ≤ k ∧ k < n1)
    (h7 : n1 ≤ w.heap.size) (h8 : 0 ≤ room ∧ room ≤ 1024) (h10 : 0 ≤ h ∧ h ≤ 1000) (h11 : 0 ≤ m ∧ m ≤ 1000) (h12 : 0 ≤ g' ∧ g' ≤ 1000) (hl : ((r, i, E) :: N0.map Nd.abs) = putL room r i E (N.map Nd.abs)) (hg : g' = putG room r i g (N.map Nd.abs)) : PutX n0 n1 cnt w c room h m g (N.map Nd.abs) r i E e w' := by
  obtain ⟨rfl, p, v, hp, hca, hup⟩ := hp
  have hs := hup.size
  refine ⟨rfl, upd_span hup h4, ?_⟩
  rw [← hl, ← hg]
  have hlen : (((r, i, E) :: N0.map Nd.abs).length : Int) ≤ room := by
    rw [hl]
    unfold putL
    rw [List.length_take]
    omega
  refine ⟨_, _, M, s, n + 1, _, hca, by omega, by omega, fun k hk => ⟨?_, hca.ltA k hk⟩, fun k hk => ⟨?_, hca.ltB k hk⟩, rfl, Nat.le_refl _, h8, hlen, h10, h11, h12⟩
  · rcases hk with hk | rfl
    · exact (h4 k hk).1
    · omega
  · rcases hk with hk | hk
    · exact (h5 k hk).1
    · omega
theorem putX (H : CaX n0 n1 cnt w c room h m g L) (r : ByteArray) (i : Int) (hk : KeyOk r i) (pv : Value) (E : List (List V3 × Int)) (hE : EntS (fun k => k < w.heap.size ∧ ¬ (n0 ≤ k ∧ k < n1)) w pv E) (hc : cnt < 1000) (hg : g ≤ 900) :
    Calls Try.prog 17 #[ptr c, .agg #[.string r, .int .i64 i], pv] w (PutX n0 n1 cnt w c room h m g L r i E) := by
  have hap := H.apart
  obtain ⟨A, B, M, s, n, N, h1, h2, h3, h4, h5, rfl, h7, h8, h9, h10, h11, h12⟩ := H
  have h0 : n0 ≤ n1 := by have := h4 c h1.inA.1; omega
  have hE' : EntS (fun k => k < w.heap.size ∧ ¬ A k) w pv E := hE.mono fun k hk => ⟨hk.1, fun e => hk.2 (h4 k e)⟩
  by_cases hz : room = 0
  · subst hz
    refine (put_zero h1 r i pv).mono ?_
    rintro e w1 ⟨rfl, hca, hb⟩
    have hN : N = [] := by
      have : N.length = 0 := by simp only [List.length_map] at h9; omega
      exact List.eq_nil_of_length_eq_zero this
    refine ⟨rfl, Upd.of_below hb, ?_⟩
    subst hN
    exact ⟨A, B, M, s, n, [], hca, by omega, by omega, fun k hk => ⟨(h4 k hk).1, hca.ltA k hk⟩, fun k hk => ⟨(h5 k hk).1, hca.ltB k hk⟩, by simp [putL], Nat.le_refl _, h8, by simp [putL], h10, h11, by simp only [putG]; rw [if_pos trivial]; exact h12⟩
  cases hf : findL r i (N.map Nd.abs) with
  | none =>
    have hno := findL_none hf
    have hr := restL_none hno
    have hkey := key_of_abs h1.oks hk hno
    have hlen : ((N.map Nd.abs).length : Int) = N.length := by simp
    rw [hlen] at h9
    by_cases hN : (N.length : Int) = room
    · have hpos : 0 < N.length := by omega
      obtain ⟨L1, x, hx⟩ : ∃ L1 x, N = L1 ++ [x] := ⟨N.dropLast, N.getLast (List.length_pos_iff.1 hpos), (List.dropLast_concat_getLast _).symm⟩
      refine (put_full h1 hx r i pv E hE' hk hkey hz hN (by omega) ⟨h12.1, by omega⟩).mono ?_
      intro e w1 hp
      have hlx : N.length = L1.length + 1 := by rw [hx]; simp
      refine put_close (N := N) hp h0 h2 hc h4 h5 h7 h8 h10 h11 ⟨by omega, by omega⟩ ?_ ?_
      · unfold putL
        rw [hr, hx, List.map_append, show room.toNat = (L1.map Nd.abs).length + 1 by simp; omega, List.take_succ_cons, List.take_left]
      · unfold putG
        rw [if_neg hz, hr, if_pos (by simp; omega)]
    · refine (put_new h1 r i pv E (hE'.mono fun k hk => hk.1) hk hkey hz hN (by omega)).mono ?_
      intro e w1 hp
      refine put_close (N := N) hp h0 h2 hc h4 h5 h7 h8 h10 h11 h12 ?_ ?_
      · unfold putL
        rw [hr, List.take_of_length_le (by simp; omega)]
      · unfold putG
        rw [if_neg hz, hr, if_neg (by simp; omega)]
  | some x =>
    obtain ⟨L1, L2, hL, e1, e2⟩ := findL_some hf
    obtain ⟨N1, y, N2, rfl, f1, rfl, f2⟩ := map_split hL
    have hr : restL r i ((N1 ++ y :: N2).map Nd.abs) = (N1 ++ N2).map Nd.abs := by
      rw [hL] at hap ⊢
      have := restL_some hap
      rw [e1, e2] at this
      rw [this, List.map_append, f1, f2]
    simp only [List.length_map, List.length_append, List.length_cons] at h9
    refine (put_old h1 rfl e1 e2 pv E hE' hz (by simp only [List.length_append]; omega) (by omega)).mono ?_
    intro e w1 hp
    refine put_close (N := N1 ++ y :: N2) hp h0 h2 hc h4 h5 h7 h8 h10 h11 h12 ?_ ?_
    · unfold putL
      rw [hr, List.take_of_length_le (by simp; omega)]
    · unfold putG
      rw [if_neg hz, hr, if_neg (by simp; omega)]
def keysL (L : List Pg) : List (ByteArray × Int) := L.map fun x => (x.1, x.2.1)
/-- What Keys leaves. -/
def KeysX (w : World) (L : List Pg) (e : Ending) (w' : World) : Prop := ∃ v, e = .returned v ∧ w'.ownsRow w.heap.size 33 2 v L.length (rowK (keysL L)) ∧ Below w.heap.size w w'
theorem keysX (H : CaX n0 n1 cnt w c room h m g L) : Calls Try.prog 13 #[ptr c] w (KeysX w L) := by
  obtain ⟨A, B, M, s, n, N, h1, h2, h3, h4, h5, rfl, h7, h8, h9, h10, h11, h12⟩ := H
  refine (keys_any h1 (by simp only [List.length_map] at h9; omega)).mono ?_
  rintro e w1 ⟨v, rfl, hr, hb⟩
  refine ⟨v, rfl, ?_, hb⟩
  have e1 : keysL (N.map Nd.abs) = keysN N := by unfold keysL keysN; rw [List.map_map]; rfl
  rw [e1, List.length_map]
  exact hr
theorem statsX (H : CaX n0 n1 cnt w c room h m g L) : Tells 15 #[ptr c] w (.agg #[.int .i64 h, .int .i64 m, .int .i64 g]) := by
  obtain ⟨A, B, M, s, n, N, h1, -⟩ := H
  exact stats_any h1
theorem roomX (H : CaX n0 n1 cnt w c room h m g L) : Says 16 #[ptr c] w (.int .i64 room) := by
  obtain ⟨A, B, M, s, n, N, h1, -⟩ := H
  exact room_any h1
end
end Go.Proofs.Ytdjebcfpodfhhaa
