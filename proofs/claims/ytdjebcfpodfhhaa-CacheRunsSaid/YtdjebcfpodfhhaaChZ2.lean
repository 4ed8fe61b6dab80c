/-
  Caches as the laws see them: pages by key and entries, in blocks of a set.
-/
import Derived.Test.YtdjebcfpodfhhaaChZ
import Derived.Test.YtdjebcfpodfhhaaChM
namespace Go.Proofs.Ytdjebcfpodfhhaa
open Go Go.RowKit Go.Maps Go.WideMaps

/-- A cache as the laws see it. -/
def CaY (Z : Nat → Prop) (cnt : Nat) (w : World) (c : Nat) (room : Int) (h m g : Int) (L : List Pg) : Prop :=
  ∃ A B M s n N, CaAt A B w c M s room h m g n N ∧ n ≤ cnt ∧ cnt ≤ 1000 ∧ (∀ k, A k → Z k) ∧ (∀ k, B k → Z k) ∧ N.map Nd.abs = L ∧ (∀ k, Z k → k < w.heap.size) ∧ (0 ≤ room ∧ room ≤ 1024) ∧ (L.length : Int) ≤ room ∧ (0 ≤ h ∧ h ≤ 1000) ∧ (0 ≤ m ∧ m ≤ 1000) ∧ (0 ≤ g ∧ g ≤ 1000)
theorem CaY.below {Z : Nat → Prop} {cnt : Nat} {w w' : World} {c : Nat} {room h m g : Int} {L : List Pg} (H : CaY Z cnt w c room h m g L) (hb : Below w.heap.size w w') : CaY Z cnt w' c room h m g L := by
  obtain ⟨A, B, M, s, n, N, h1, h2, h3, h4, h5, h6, h7, h8⟩ := H
  exact ⟨A, B, M, s, n, N, h1.below hb, h2, h3, h4, h5, h6, fun k hk => Nat.lt_of_lt_of_le (h7 k hk) hb.size, h8⟩
theorem CaY.upd {Z : Nat → Prop} {cnt : Nat} {w w' : World} {c : Nat} {room h m g : Int} {L : List Pg} (H : CaY Z cnt w c room h m g L) {C : Nat → Nat → Prop} (hu : Upd C w w') (hC : ∀ k o, Z k → ¬ C k o) : CaY Z cnt w' c room h m g L := by
  obtain ⟨A, B, M, s, n, N, h1, h2, h3, h4, h5, h6, h7, h8⟩ := H
  exact ⟨A, B, M, s, n, N, h1.upd hu (fun k o hk => hk.elim (fun hk => hC k o (h4 k hk)) (fun hk => hC k o (h5 k hk))), h2, h3, h4, h5, h6, fun k hk => Nat.lt_of_lt_of_le (h7 k hk) hu.size, h8⟩
theorem upd_Z {A Z : Nat → Prop} {w w' : World} (h : Upd (allOf A) w w') (hA : ∀ k, A k → Z k) : Upd (allOf Z) w w' := h.mono fun k _ _ e => hA k e
theorem CaY.apart {Z : Nat → Prop} {cnt : Nat} {w : World} {c : Nat} {room h m g : Int} {L : List Pg} (H : CaY Z cnt w c room h m g L) : Apart L := by
  obtain ⟨A, B, M, s, n, N, h1, -, -, -, -, rfl, -⟩ := H
  unfold Apart
  rw [List.pairwise_map]
  have hk := List.pairwise_map.1 h1.keys
  refine hk.imp_of_mem (fun {a b} ha hb hne e => hne ?_)
  unfold Nd.abs at e
  simp only at e
  unfold Nd.key
  rw [e.1, e.2]
theorem ih_len (nm : ByteArray) : ∀ N : List Nd, (N.filter (isN nm)).length + (N.filter (fun x => !isN nm x)).length = N.length
  | [] => rfl
  | x :: N => by
    have := ih_len nm N
    rw [List.filter_cons, List.filter_cons]
    cases isN nm x <;> simp <;> omega
section
variable {Z : Nat → Prop} {cnt : Nat} {w : World} {c : Nat} {room h m g : Int} {L : List Pg}
theorem newY (w : World) (room : Int) (h1 : 0 ≤ room) (h2 : room ≤ 1024) : Calls Try.prog 8 #[.int .i64 room] w fun e w' => e = .returned (.tuple #[ptr (w.heap.size + 3), .int .i64 0]) ∧ CaY (fun k => w.heap.size ≤ k ∧ k < w'.heap.size) 0 w' (w.heap.size + 3) room 0 0 0 [] ∧ Below w.heap.size w w' := by
  refine (new_any w room h1 h2).mono ?_
  rintro e w1 ⟨rfl, hca, hb⟩
  refine ⟨rfl, ⟨_, _, _, _, _, _, hca, Nat.le_refl _, by decide, fun k hk => ⟨?_, hca.ltA k hk⟩, fun k hk => hk.elim, rfl, fun k hk => hk.2, ⟨h1, h2⟩, by simpa using h1, by decide, by decide, by decide⟩, hb⟩
  rcases hk with rfl | rfl | rfl <;> omega
/-- What Get answers. -/
def GetY (Z : Nat → Prop) (cnt : Nat) (w : World) (c : Nat) (room h m g : Int) (L : List Pg) (r : ByteArray) (i : Int) (e : Ending) (w' : World) : Prop :=
  Upd (allOf Z) w w' ∧ ((findL r i L = none ∧ e = .returned (.tuple #[.slice none 0 0, .bool false]) ∧ CaY Z cnt w' c room h (m + 1) g L) ∨
    ∃ x v, findL r i L = some x ∧ e = .returned (.tuple #[v, .bool true]) ∧ CaY Z cnt w' c room (h + 1) m g (x :: restL r i L) ∧ EntS (fun k => w.heap.size ≤ k) w' v x.2.2 ∧ ∃ Q, Q.map (·.2) = x.2.2 ∧ RowQ w' w.heap.size v Q)
theorem getY (H : CaY Z cnt w c room h m g L) (r : ByteArray) (i : Int) (hk : KeyOk r i) (hh : h ≤ 900) (hm : m ≤ 900) :
    Calls Try.prog 20 #[ptr c, .agg #[.string r, .int .i64 i]] w (GetY Z cnt w c room h m g L r i) := by
  have hap := H.apart
  obtain ⟨A, B, M, s, n, N, h1, h2, h3, h4, h5, rfl, h7, h8, h9, h10, h11, h12⟩ := H
  cases hf : findL r i (N.map Nd.abs) with
  | none =>
    refine (get_miss h1 r i hk (key_of_abs h1.oks hk (findL_none hf)) ⟨h11.1, by omega⟩).mono ?_
    rintro e w1 ⟨rfl, hca, hup⟩
    exact ⟨upd_Z hup h4, .inl ⟨hf, rfl, ⟨A, B, M, s, n, N, hca, h2, h3, h4, h5, rfl, fun k hk => Nat.lt_of_lt_of_le (h7 k hk) hup.size, h8, h9, h10, ⟨by omega, by omega⟩, h12⟩⟩⟩
  | some x =>
    obtain ⟨L1, L2, hL, e1, e2⟩ := findL_some hf
    obtain ⟨N1, y, N2, rfl, f1, rfl, f2⟩ := map_split hL
    have er : y.r = r := e1
    have ei : y.i = i := e2
    have hg := get_hit h1 rfl ⟨h10.1, by omega⟩
    rw [er, ei] at hg
    refine hg.mono ?_
    rintro e w1 ⟨v, rfl, he, hca, hup, hQ⟩
    have hr : restL r i ((N1 ++ y :: N2).map Nd.abs) = (N1 ++ N2).map Nd.abs := by
      rw [hL] at hap ⊢
      have := restL_some hap
      rw [e1, e2] at this
      rw [this, List.map_append, f1, f2]
    refine ⟨upd_Z hup h4, .inr ⟨y.abs, v, hf, rfl, ⟨A, B, M, s, n, _, hca, h2, h3, h4, h5, ?_, fun k hk => Nat.lt_of_lt_of_le (h7 k hk) hup.size, h8, ?_, ⟨by omega, by omega⟩, h11, h12⟩, he, hQ⟩⟩
    · rw [hr]; rfl
    · rw [hr]
      simp only [List.length_cons, List.length_map, List.length_append] at h9 ⊢
      omega
def PutY (Z : Nat → Prop) (cnt : Nat) (w : World) (c : Nat) (room h m g : Int) (L : List Pg) (r : ByteArray) (i : Int) (E : List (List V3 × Int)) (e : Ending) (w' : World) : Prop :=
  e = .returned (.tuple #[]) ∧ Upd (allOf Z) w w' ∧ CaY (fun k => Z k ∨ (w.heap.size ≤ k ∧ k < w'.heap.size)) (cnt + 1) w' c room h m (putG room r i g L) (putL room r i E L)
theorem put_closeY {A B : Nat → Prop} {M s n : Nat} {N N0 : List Nd} {g' : Int} {r : ByteArray} {i : Int} {E : List (List V3 × Int)} {e : Ending} {w' : World} (hp : PutEnd A B w c M s room h m g' n r i E N0 e w') (h2 : n ≤ cnt) (h3 : cnt < 1000) (h4 : ∀ k, A k → Z k) (h5 : ∀ k, B k → Z k)
    (h7 : ∀ k, Z k → k < w.heap.size) (h8 : 0 ≤ room ∧ room ≤ 1024) (h10 : 0 ≤ h ∧ h ≤ 1000) (h11 : 0 ≤ m ∧ m ≤ 1000) (h12 : 0 ≤ g' ∧ g' ≤ 1000) (hl : ((r, i, E) :: N0.map Nd.abs) = putL room r i E (N.map Nd.abs)) (hg : g' = putG room r i g (N.map Nd.abs)) : PutY Z cnt w c room h m g (N.map Nd.abs) r i E e w' := by
  obtain ⟨rfl, p, v, hp, hca, hup⟩ := hp
  have hs := hup.size
  refine ⟨rfl, upd_Z hup h4, ?_⟩
  rw [← hl, ← hg]
  have hlen : (((r, i, E) :: N0.map Nd.abs).length : Int) ≤ room := by
    rw [hl]
    unfold putL
    rw [List.length_take]
    omega
  have hz : ∀ k, Z k ∨ (w.heap.size ≤ k ∧ k < w'.heap.size) → k < w'.heap.size := fun k hk => hk.elim (fun hk => Nat.lt_of_lt_of_le (h7 k hk) hs) (fun hk => hk.2)
  refine ⟨_, _, M, s, n + 1, _, hca, by omega, by omega, fun k hk => ?_, fun k hk => ?_, rfl, hz, h8, hlen, h10, h11, h12⟩
  · rcases hk with hk | rfl
    · exact .inl (h4 k hk)
    · exact .inr ⟨hp, hca.ltA _ (.inr rfl)⟩
  · rcases hk with hk | hk
    · exact .inl (h5 k hk)
    · exact .inr ⟨hk.1, Nat.lt_trans hk.2 (hca.ltA p (.inr rfl))⟩
theorem putY (H : CaY Z cnt w c room h m g L) (r : ByteArray) (i : Int) (hk : KeyOk r i) (pv : Value) (E : List (List V3 × Int)) (hE : EntS (fun k => k < w.heap.size ∧ ¬ Z k) w pv E) (hc : cnt < 1000) (hg : g ≤ 900) :
    Calls Try.prog 17 #[ptr c, .agg #[.string r, .int .i64 i], pv] w (PutY Z cnt w c room h m g L r i E) := by
  have hap := H.apart
  obtain ⟨A, B, M, s, n, N, h1, h2, h3, h4, h5, rfl, h7, h8, h9, h10, h11, h12⟩ := H
  have hE' : EntS (fun k => k < w.heap.size ∧ ¬ A k) w pv E := hE.mono fun k hk => ⟨hk.1, fun e => hk.2 (h4 k e)⟩
  by_cases hz : room = 0
  · subst hz
    refine (put_zero h1 r i pv).mono ?_
    rintro e w1 ⟨rfl, hca, hb⟩
    have hN : N = [] := by
      have : N.length = 0 := by simp only [List.length_map] at h9; omega
      exact List.eq_nil_of_length_eq_zero this
    refine ⟨rfl, Upd.of_below hb, ?_⟩
    subst hN
    exact ⟨A, B, M, s, n, [], hca, by omega, by omega, fun k hk => .inl (h4 k hk), fun k hk => .inl (h5 k hk), by simp [putL], fun k hk => hk.elim (fun hk => Nat.lt_of_lt_of_le (h7 k hk) hb.size) (fun hk => hk.2), h8, by simp [putL], h10, h11, by simp only [putG]; rw [if_pos trivial]; exact h12⟩
  cases hf : findL r i (N.map Nd.abs) with
  | none =>
    have hno := findL_none hf
    have hr := restL_none hno
    have hkey := key_of_abs h1.oks hk hno
    have hlen : ((N.map Nd.abs).length : Int) = N.length := by simp
    rw [hlen] at h9
    by_cases hN : (N.length : Int) = room
    · have hpos : 0 < N.length := by omega
      obtain ⟨L1, x, hx⟩ : ∃ L1 x, N = L1 ++ [x] := ⟨N.dropLast, N.getLast (List.length_pos_iff.1 hpos), (List.dropLast_concat_getLast _).symm⟩
      refine (put_full h1 hx r i pv E hE' hk hkey hz hN (by omega) ⟨h12.1, by omega⟩).mono ?_
      intro e w1 hp
      have hlx : N.length = L1.length + 1 := by rw [hx]; simp
      refine put_closeY (N := N) hp h2 hc h4 h5 h7 h8 h10 h11 ⟨by omega, by omega⟩ ?_ ?_
      · unfold putL
        rw [hr, hx, List.map_append, show room.toNat = (L1.map Nd.abs).length + 1 by simp; omega, List.take_succ_cons, List.take_left]
      · unfold putG
        rw [if_neg hz, hr, if_pos (by simp; omega)]
    · refine (put_new h1 r i pv E (hE'.mono fun k hk => hk.1) hk hkey hz hN (by omega)).mono ?_
      intro e w1 hp
      refine put_closeY (N := N) hp h2 hc h4 h5 h7 h8 h10 h11 h12 ?_ ?_
      · unfold putL
        rw [hr, List.take_of_length_le (by simp; omega)]
      · unfold putG
        rw [if_neg hz, hr, if_neg (by simp; omega)]
  | some x =>
    obtain ⟨L1, L2, hL, e1, e2⟩ := findL_some hf
    obtain ⟨N1, y, N2, rfl, f1, rfl, f2⟩ := map_split hL
    have hr : restL r i ((N1 ++ y :: N2).map Nd.abs) = (N1 ++ N2).map Nd.abs := by
      rw [hL] at hap ⊢
      have := restL_some hap
      rw [e1, e2] at this
      rw [this, List.map_append, f1, f2]
    simp only [List.length_map, List.length_append, List.length_cons] at h9
    refine (put_old h1 rfl e1 e2 pv E hE' hz (by simp only [List.length_append]; omega) (by omega)).mono ?_
    intro e w1 hp
    refine put_closeY (N := N1 ++ y :: N2) hp h2 hc h4 h5 h7 h8 h10 h11 h12 ?_ ?_
    · unfold putL
      rw [hr, List.take_of_length_le (by simp; omega)]
    · unfold putG
      rw [if_neg hz, hr, if_neg (by simp; omega)]
theorem keysY (H : CaY Z cnt w c room h m g L) : Calls Try.prog 13 #[ptr c] w (KeysX w L) := by
  obtain ⟨A, B, M, s, n, N, h1, h2, h3, h4, h5, rfl, h7, h8, h9, h10, h11, h12⟩ := H
  refine (keys_any h1 (by simp only [List.length_map] at h9; omega)).mono ?_
  rintro e w1 ⟨v, rfl, hr, hb⟩
  refine ⟨v, rfl, ?_, hb⟩
  have e1 : keysL (N.map Nd.abs) = keysN N := by unfold keysL keysN; rw [List.map_map]; rfl
  rw [e1, List.length_map]
  exact hr
theorem statsY (H : CaY Z cnt w c room h m g L) : Tells 15 #[ptr c] w (.agg #[.int .i64 h, .int .i64 m, .int .i64 g]) := by
  obtain ⟨A, B, M, s, n, N, h1, -⟩ := H
  exact stats_any h1
theorem roomY (H : CaY Z cnt w c room h m g L) : Says 16 #[ptr c] w (.int .i64 room) := by
  obtain ⟨A, B, M, s, n, N, h1, -⟩ := H
  exact room_any h1
def dropL (nm : ByteArray) (L : List Pg) : List Pg := L.filter fun x => !(x.1.toList == nm.toList)
def DropY (Z : Nat → Prop) (cnt : Nat) (w : World) (c : Nat) (room h m g : Int) (L : List Pg) (nm : ByteArray) (e : Ending) (w' : World) : Prop :=
  e = .returned (.int .i64 ((L.length - (dropL nm L).length : Nat))) ∧ Upd (allOf Z) w w' ∧ CaY Z cnt w' c room h m g (dropL nm L)
theorem dropY (H : CaY Z cnt w c room h m g L) (nm : ByteArray) : Calls Try.prog 19 #[ptr c, .string nm] w (DropY Z cnt w c room h m g L nm) := by
  obtain ⟨A, B, M, s, n, N, h1, h2, h3, h4, h5, rfl, h7, h8, h9, h10, h11, h12⟩ := H
  refine (drop_name h1 nm (by simp only [List.length_map] at h9; omega)).mono ?_
  rintro e w1 ⟨rfl, hca, hup⟩
  have ed : dropL nm (N.map Nd.abs) = (N.filter (fun x => !isN nm x)).map Nd.abs := by
    unfold dropL
    rw [List.filter_map]
    rfl
  have eg : goneN nm N N.length + (N.filter (fun x => !isN nm x)).length = N.length := by
    unfold goneN
    rw [List.take_length]
    exact ih_len nm N
  refine ⟨?_, upd_Z hup h4, ⟨A, B, M, s, n, _, hca, h2, h3, h4, h5, ed.symm, fun k hk => Nat.lt_of_lt_of_le (h7 k hk) hup.size, h8, ?_, h10, h11, h12⟩⟩
  · rw [ed, List.length_map, List.length_map]
    congr 3
    omega
  · rw [ed, List.length_map]
    have := List.length_filter_le (fun x => !isN nm x) N
    simp only [List.length_map] at h9
    omega
end
end Go.Proofs.Ytdjebcfpodfhhaa
