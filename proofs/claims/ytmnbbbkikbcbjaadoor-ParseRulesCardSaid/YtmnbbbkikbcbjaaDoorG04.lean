/-
  The program's reader: typed, op, param.
  The program's reader: param.
  Rows of parts with commas between them, as the program's loop reads them; how many tokens are left, told of the world.
-/
import Derived.Test.YtmnbbbkikbcbjaaDoorG03
import Derived.Deep.RegionHeld3
namespace Go.Proofs.YtmnbbbkikbcbjaaDoor
section
open Go Go.RowKit Go.Shelf

/-- A number as a value. -/
def intT (_ : Nat → Prop) (_ : World) (v : Value) (a : Int) : Prop := v = .int .i64 a
def opsL : List (List UInt8) := [[61], [33, 61], [60], [60, 61], [62], [62, 61]]
def opAt (T : List UInt8) : Int := if T = [61] then 1 else if T = [33, 61] then 2 else if T = [60] then 3 else if T = [60, 61] then 4 else if T = [62] then 5 else if T = [62, 61] then 6 else 0
theorem textAt_ops (T : List UInt8) : textAt opsL T 0 = opAt T - 1 := by
  unfold opAt opsL
  simp only [textAt]
  repeat' split
  all_goals rfl
theorem opAt_le (T : List UInt8) : 0 ≤ opAt T ∧ opAt T ≤ 6 := by
  unfold opAt
  repeat' split
  all_goals omega
theorem opNo_key {w : Wd} (h : TidyW w) : opNo w.key = opAt w.text := by
  unfold opNo opAt
  rw [tidy_mark h (m := [61]) rfl, tidy_mark h (m := [33, 61]) rfl, tidy_mark h (m := [60]) rfl, tidy_mark h (m := [60, 61]) rfl, tidy_mark h (m := [62]) rfl, tidy_mark h (m := [62, 61]) rfl]
  simp only [beq_iff_eq]
theorem nxt_op {L : List Wd} (h : ∀ w ∈ L, TidyW w) : nxt isOp (keys L) = (opAt (txt L) != 0) := by
  cases L with
  | nil => rfl
  | cons w L => show (opNo w.key != 0) = _; rw [opNo_key (h w List.mem_cons_self)]; rfl
def kindAt (T : List UInt8) : Int := if T = wInt then 1 else if T = wSym then 2 else 0
theorem textAt_kinds (T : List UInt8) : textAt [wInt, wSym] T 0 = kindAt T - 1 := by
  unfold kindAt
  simp only [textAt]
  repeat' split
  all_goals rfl
theorem kindAt_le (T : List UInt8) : 0 ≤ kindAt T ∧ kindAt T ≤ 2 := by
  unfold kindAt
  repeat' split
  all_goals omega
theorem isType_key {w : Wd} (h : TidyW w) : isType w.key = (kindAt w.text != 0) ∧ (kindAt w.text ≠ 0 → (if isW wInt w.key = true then (1 : Int) else 2) = kindAt w.text) := by
  unfold isType kindAt
  rw [tidy_word h (m := wInt) rfl, tidy_word h (m := wSym) rfl]
  by_cases e1 : w.text = wInt
  · simp [e1]
  · by_cases e2 : w.text = wSym
    · have e3 : wSym ≠ wInt := by decide
      simp [e2, e3]
    · simp [e1, e2]
theorem nxt_type {L : List Wd} (h : ∀ w ∈ L, TidyW w) : nxt isType (keys L) = (kindAt (txt L) != 0) := by
  cases L with
  | nil => rfl
  | cons w L => exact (isType_key (h w List.mem_cons_self)).1
theorem PEnd.yes {α : Type} {p : Rd α} {T : (Nat → Prop) → World → Value → α → Prop} {n b e : Nat} {L : List Wd} {w w' : World} {x : Ending} (h : PEnd p T n b e L w x w') {a : α} {r : List Kt} (hp : p (keys L) = .ok a r) :
    Turned (fun k => k = b) w w' ∧ ∃ L' v, r = keys L' ∧ L' <:+ L ∧ x = .returned v ∧ T (fun k => w.heap.size ≤ k) w' v a ∧ Rp n w' b L' e := by
  obtain ⟨ht, ⟨a', L', v, h1, h2, h3, h4, h5⟩ | ⟨L', h1, -⟩⟩ := h
  · rw [hp] at h1
    cases h1
    exact ⟨ht, L', v, rfl, h2, h3, h4, h5⟩
  · rw [hp] at h1
    cases h1
theorem PEnd.bad_ {α : Type} {p : Rd α} {T : (Nat → Prop) → World → Value → α → Prop} {n b e : Nat} {L : List Wd} {w w' : World} {x : Ending} (h : PEnd p T n b e L w x w') {r : List Kt} (hp : p (keys L) = .bad r) :
    Turned (fun k => k = b) w w' ∧ ∃ L', r = keys L' ∧ L' <:+ L ∧ x = .panicked (misP (hereW e L')) := by
  obtain ⟨ht, ⟨a', L', v, h1, -⟩ | ⟨L', h1, h2, h3⟩⟩ := h
  · rw [hp] at h1
    cases h1
  · rw [hp] at h1
    cases h1
    exact ⟨ht, L', rfl, h2, h3⟩
set_option maxRecDepth 100000 in
set_option maxHeartbeats 1000000 in
theorem ptyped_any {W : World} {n b e : Nat} {L : List Wd} (h : Rp n W b L e) : Calls Tryd.prog 39 #[rdp b] W (PEnd kindR intT n b e L W) := by
  have HWh := Lib.hid (pwhich_any (S := [wInt, wSym]) (h.alloc (.cells #[.string ⟨#[105, 110, 116]⟩, .string ⟨#[115, 121, 109]⟩] 9)) (txs_new W [wInt, wSym] (by simp) 2) (by decide))
  have HNx := Lib.hid (nxt_type h.tidy)
  have HT := Lib.hid h.tidy
  have HB := Lib.hid (Turned.alloc (fun k => k = b) W (.cells #[.string ⟨#[105, 110, 116]⟩, .string ⟨#[115, 121, 109]⟩] 9))
  clear h
  go_enter Tryd.func39, Tryd.ntmps39
  go_wp2_with fail
  refine HWh.out.mono ?_
  rintro y w1 ⟨ht, ⟨x, L', rfl, h0, rfl, hr⟩ | ⟨h0, rfl⟩⟩
  · rw [textAt_kinds] at h0 ⊢
    obtain ⟨k, hk⟩ : ∃ k, k = kindAt x.text := ⟨_, rfl⟩
    have hk2 := kindAt_le x.text
    rw [← hk] at h0 hk2 ⊢
    have HE := Lib.hid (And.intro ht (And.intro hr hk))
    clear ht hr hk
    have hw : IntKind.i64.wrap (1 + (k - 1)) = k := by rw [IntKind.wrap_i64]; omega
    have hk0 : k ≠ 0 := by omega
    clear h0 hk2
    go_wp2_with fail
    go_ret
    obtain ⟨ht, hr, hk⟩ := HE.out
    obtain ⟨i1, i2⟩ := isType_key (HT.out x List.mem_cons_self)
    rw [← hk] at i1 i2
    refine ⟨HB.out.trans ht (fun _ _ e => e), .inl ⟨k, L', _, ?_, ⟨[_], rfl⟩, rfl, ?_, hr⟩⟩
    · refine (bind_ok (tok1_yes (by rw [i1]; simpa using hk0))).trans ?_
      show Rs.ok (if isW wInt x.key = true then (1 : Int) else 2) _ = _
      rw [i2 hk0]
    · show _ = Value.int .i64 k
      rfl
  · rw [textAt_kinds] at h0
    have hk2 := kindAt_le (txt L)
    have HE := Lib.hid ht
    have HN0 := Lib.hid (show nxt isType (keys L) = false by rw [HNx.out]; simp; omega)
    clear ht h0 hk2
    go_wp2_with fail
    exact ⟨rfl, PEnd.no (bind_bad (tok1_no HN0.out)) (HB.out.trans HE.out (fun _ _ e => e))⟩
set_option maxRecDepth 100000 in
set_option maxHeartbeats 1000000 in
theorem pop_any {W : World} {n b e : Nat} {L : List Wd} (h : Rp n W b L e) : Calls Tryd.prog 35 #[rdp b] W (PEnd opR intT n b e L W) := by
  have HWh := Lib.hid (pwhich_any (S := opsL) (h.alloc (.cells #[.string ⟨#[61]⟩, .string ⟨#[33, 61]⟩, .string ⟨#[60]⟩, .string ⟨#[60, 61]⟩, .string ⟨#[62]⟩, .string ⟨#[62, 61]⟩] 9)) (txs_new W opsL (by decide) 6) (by decide))
  have HNx := Lib.hid (nxt_op h.tidy)
  have HT := Lib.hid h.tidy
  have HB := Lib.hid (Turned.alloc (fun k => k = b) W (.cells #[.string ⟨#[61]⟩, .string ⟨#[33, 61]⟩, .string ⟨#[60]⟩, .string ⟨#[60, 61]⟩, .string ⟨#[62]⟩, .string ⟨#[62, 61]⟩] 9))
  clear h
  go_enter Tryd.func35, Tryd.ntmps35
  go_wp2_with fail
  refine HWh.out.mono ?_
  rintro y w1 ⟨ht, ⟨x, L', rfl, h0, rfl, hr⟩ | ⟨h0, rfl⟩⟩
  · rw [textAt_ops] at h0 ⊢
    obtain ⟨k, hk⟩ : ∃ k, k = opAt x.text := ⟨_, rfl⟩
    have hk2 := opAt_le x.text
    rw [← hk] at h0 hk2 ⊢
    have HE := Lib.hid (And.intro ht (And.intro hr hk))
    clear ht hr hk
    have hw : IntKind.i64.wrap (1 + (k - 1)) = k := by rw [IntKind.wrap_i64]; omega
    have hk0 : k ≠ 0 := by omega
    clear h0 hk2
    go_wp2_with fail
    go_ret
    obtain ⟨ht, hr, hk⟩ := HE.out
    have i1 := opNo_key (HT.out x List.mem_cons_self)
    rw [← hk] at i1
    refine ⟨HB.out.trans ht (fun _ _ e => e), .inl ⟨k, L', _, ?_, ⟨[_], rfl⟩, rfl, ?_, hr⟩⟩
    · refine (bind_ok (tok1_yes (by unfold isOp; rw [i1]; simpa using hk0))).trans ?_
      show Rs.ok (opNo x.key) _ = _
      rw [i1]
    · show _ = Value.int .i64 k
      rfl
  · rw [textAt_ops] at h0
    have hk2 := opAt_le (txt L)
    have HE := Lib.hid ht
    have HN0 := Lib.hid (show nxt isOp (keys L) = false by rw [HNx.out]; simp; omega)
    clear ht h0 hk2
    go_wp2_with fail
    exact ⟨rfl, PEnd.no (bind_bad (tok1_no HN0.out)) (HB.out.trans HE.out (fun _ _ e => e))⟩
end
section
open Go Go.RowKit Go.Shelf

/-- One operation that yields in every world that is held, taken first; the frame behind it laid out. -/
theorem take1 {P : Program} {ops : Array Oper} {Q : Exit → Act → World → Prop} {md : Region.Mode} {S : World → Prop} (i d : Nat) {oi : Oper} {v : Value} {fuel : Nat} {listed : Array Bool} {a a' : Act} {W : World} (hi : ops[i]? = some oi) (hd : oi.dst = some d)
    (hs : Region.noSelect ops = true) (hf : Region.free md ops listed i = true) (hr : (Region.ready md ops listed).contains i = true)
    (hQ : ∀ c a w, Q (.panic c) (a.put oi.dst v) w → Q (.panic c) a w) (hw : Region.wanted oi (yielded ops a.tmps) = true) (hy : ∀ w, S w → (execOp a.eval oi).run P w = .ok (.value v) w) (hS : S W)
    (ha : a.put (some d) v = a') (h : wpAnyH P md ops Q S fuel (listed.setIfInBounds i true) a' W) : wpAnyH P md ops Q S (fuel + 1) listed a W :=
  wpAnyH_take hi hs hf hr hQ (.inl ⟨hw, hy⟩) hS (by rw [hd, ha]; exact h)
def paT (_ : Nat → Prop) (_ : World) (v : Value) (p : List UInt8 × Int) : Prop := v = .agg #[.string ⟨p.1.toArray⟩, .int .i64 p.2]
theorem nxt_kind (k : Int) {L : List Wd} (hk : k ≠ 0) : nxt (isK k) (keys L) = (knd L == k) := by
  cases L with
  | nil => show false = ((0 : Int) == k); simp; exact fun e => hk e.symm
  | cons w L => rfl
theorem cells2 {W : World} {b : Nat} {u v : Value} {t : TypeId} (h : W.heap[b]? = some (.cells #[u, v] t (0, 0))) :
    (W.cell? ⟨b, 0, none⟩ = some u ∧ W.cell? ⟨b, 1, none⟩ = some v) ∧ W.frozen? ⟨b, 0, none⟩ = false ∧ W.frozen? ⟨b, 1, none⟩ = false :=
  ⟨⟨(cell_of_row _ b 0 _ _ (0, 0) h).trans rfl, (cell_of_row _ b 1 _ _ (0, 0) h).trans rfl⟩, frozen_of_row _ b 0 _ _ h, frozen_of_row _ b 1 _ _ h⟩
theorem row2_set {w1 : World} {b : Nat} {t : TypeId} {u v u' v' : Value} (h : w1.heap[b]? = some (.cells #[u, v] t (0, 0))) :
    ((w1.setCell ⟨b, 0, none⟩ u').setCell ⟨b, 1, none⟩ v').heap[b]? = some (.cells #[u', v'] t (0, 0)) := by
  have h1 := Go.heap_setCell_same w1 b 0 _ _ u' h
  exact Go.heap_setCell_same _ b 1 _ _ v' h1
abbrev zP : Obj := .cells #[.string ⟨#[]⟩, .int .i64 0] 90
set_option maxRecDepth 100000 in
set_option maxHeartbeats 2000000 in
theorem pparam_any {W : World} {n b e : Nat} {L : List Wd} (h : Rp n W b L e) : Calls Tryd.prog 42 #[rdp b] W (PEnd paramR paT n b e L W) := by
  have HR := Lib.hid h
  have HNx := Lib.hid (nxt_kind 2 (L := L) (by decide))
  have hlt := h.lt
  have hnW := h.below_
  have hne1 : ¬ W.heap.size = b := by omega
  have F0 := wf0
  have F1 := wf1
  obtain ⟨x, hx⟩ : ∃ x, x = headW e L := ⟨_, rfl⟩
  obtain ⟨K, T, ⟨v1, v2, v3⟩, P⟩ := x
  obtain ⟨hK, hT⟩ := wordV_head hx
  rw [← hK] at HNx
  have HX := Lib.hid hx
  clear h hx hK hT
  have hz1 : W.heap.size < (W.alloc zP).heap.size := by simp
  -- WALK
  cases hk : (K == 2)
  · have HN0 := Lib.hid (show nxt (isK 2) (keys L) = false by rw [HNx.out, hk])
    go_enter Tryd.func42, Tryd.ntmps42
    go_wp2_with fail
    refine wp_region_held_drew (S := fun _ => True) (by kernel_rfl) trivial (fun _ => ?_)
    refine take1 0 3 (v := ?_) rfl rfl (by kernel_rfl) (by kernel_rfl) (by kernel_rfl) (fun _ _ _ h => h) (by kernel_rfl) ?_ trivial (by simp only [put_norm]; exact rfl) ?_
    rotate_left
    · rintro W -; go_simp; try (with_reducible rfl)
    refine take1 1 4 (v := ?_) rfl rfl (by kernel_rfl) (by kernel_rfl) (by kernel_rfl) (fun _ _ _ h => h) (by kernel_rfl) ?_ trivial (by simp only [put_norm]; exact rfl) ?_
    rotate_left
    · rintro W -; go_simp; try (with_reducible rfl)
    refine take1 2 5 (v := ?_) rfl rfl (by kernel_rfl) (by kernel_rfl) (by kernel_rfl) (fun _ _ _ h => h) (by kernel_rfl) ?_ trivial (by simp only [put_norm]; exact rfl) ?_
    rotate_left
    · rintro W -; go_simp; try (with_reducible rfl)
    refine take1 3 6 (v := ?_) rfl rfl (by kernel_rfl) (by kernel_rfl) (by kernel_rfl) (fun _ _ _ h => h) (by kernel_rfl) ?_ trivial (by simp only [put_norm]; exact rfl) ?_
    rotate_left
    · rintro W -; go_simp; try (with_reducible rfl)
    refine take1 4 7 (v := ?_) rfl rfl (by kernel_rfl) (by kernel_rfl) (by kernel_rfl) (fun _ _ _ h => h) (by kernel_rfl) ?_ trivial (by simp only [put_norm]; exact rfl) ?_
    rotate_left
    · rintro W -; go_simp; try (with_reducible rfl)
    refine take1 5 8 (v := ?_) rfl rfl (by kernel_rfl) (by kernel_rfl) (by kernel_rfl) (fun _ _ _ h => h) (by kernel_rfl) ?_ trivial (by simp only [put_norm]; exact rfl) ?_
    rotate_left
    · rintro W -; go_simp; try (with_reducible rfl)
    refine take1 11 14 (v := ?_) rfl rfl (by kernel_rfl) (by kernel_rfl) (by kernel_rfl) (fun _ _ _ h => h) (by kernel_rfl) ?_ trivial (by simp only [put_norm]; exact rfl) ?_
    rotate_left
    · rintro W -; go_simp; try (with_reducible rfl)
    refine wpAnyH_ready (rs := [6]) (by kernel_rfl) (by simp) ?_
    refine AllReadyH.cons rfl (fun K hK => ?_) AllReadyH.nil
    go_simp
    refine (pnext_any ((HR.out.alloc zP).drew)).mono ?_
    rintro y w1 ⟨rfl, hb⟩
    rw [← HX.out]
    unfold wordV
    have HB := Lib.hid hb
    clear hb
    go_wp2_with fail
    refine hK.out _ _ trivial (fun _ => ?_)
    clear hK K
    refine take1 7 10 (v := ?_) rfl rfl (by kernel_rfl) (by kernel_rfl) (by kernel_rfl) (fun _ _ _ h => h) (by kernel_rfl) ?_ trivial (by simp only [put_norm]; exact rfl) ?_
    rotate_left
    · rintro W -; go_simp; try (with_reducible rfl)
    refine take1 8 11 (v := ?_) rfl rfl (by kernel_rfl) (by kernel_rfl) (by kernel_rfl) (fun _ _ _ h => h) (by kernel_rfl) ?_ trivial (by simp only [put_norm]; exact rfl) ?_
    rotate_left
    · rintro W -; go_simp; try (with_reducible rfl)
    try simp only [hk]
    refine wpAnyH_ready (rs := [9]) (by kernel_rfl) (by simp) ?_
    refine AllReadyH.cons rfl (fun K hK => ?_) AllReadyH.nil
    go_simp
    refine (ptake_no ((HR.out.alloc zP).drew.below HB.out)).mono ?_
    rintro y w2 ⟨rfl, hb2⟩
    exact ⟨rfl, PEnd.no (bind_bad (tok1_no HN0.out)) (Only.turned ((((Only.refl b W).alloc zP).drew.below HB.out).below hb2))⟩
  · obtain ⟨L', hL⟩ := head_cons HX.out (by simp only; intro e0; rw [e0] at hk; simp at hk)
    subst hL
    have HNy := Lib.hid (show isK 2 (⟨K, T, (v1, v2, v3), P⟩ : Wd).key = true from hk)
    cases hkR : kindR (keys L') with
    | ok a r =>
      have HKR := Lib.hid hkR
      clear hkR
      go_enter Tryd.func42, Tryd.ntmps42
      go_wp2_with fail
      go_region_with (first
        | (go_at_call 25; refine (pnext_any ((HR.out.alloc zP).drew)).mono ?_; rintro y w1 ⟨rfl, hb⟩; rw [← HX.out]; unfold wordV; have HB := Lib.hid hb; clear hb)
        | (go_at_call 48; refine (ptake_yes ((HR.out.alloc zP).drew.below HB.out)).mono ?_; rintro y w2 ⟨rfl, ht2, hr2⟩; have HE2 := Lib.hid (And.intro ht2 hr2); clear ht2 hr2; unfold wordV)
        | (go_at_call 39; refine (ptyped_any HE2.out.2).mono ?_; rintro y w3 he; obtain ⟨ht3, L3, v, e3, hs3, rfl, hv3, hr3⟩ := PEnd.yes he HKR.out; have HE3 := Lib.hid (And.intro ht3 (And.intro e3 (And.intro hs3 hr3))); obtain rfl : v = .int .i64 a := hv3; have HO := Lib.hid (((((Only.refl b W).alloc zP).drew.below HB.out).on HE2.out.1).on ht3); have HQ := Lib.hid ((ht3.block _ (Nat.lt_of_lt_of_le hz1 (Nat.le_trans HB.out.size HE2.out.1.size)) hne1).trans ((HE2.out.1.block _ (Nat.lt_of_lt_of_le hz1 HB.out.size) hne1).trans ((HB.out.block _ hz1).trans (heap_alloc_new W zP)))); obtain ⟨⟨q0, q1⟩, f0, f1⟩ := cells2 HQ.out; clear he ht3 e3 hs3 hr3))
      go_wp2_with fail
      refine bodyPost_ret (results_cell_row (fn := Tryd.f42) (by rfl) _ _ _ _ _ _ _ (by rfl) (row2_set HQ.out) Tryd.underlying90 (by rfl) (by kernel_rfl)) (by rfl) ?_
      obtain ⟨ht3, e3, hs3, hr3⟩ := HE3.out
      exact ⟨Only.turned ((HO.out.set (Nat.le_refl _) _ _).set (Nat.le_refl _) _ _), .inl ⟨(T, a), L3, _, (bind_ok (tok1_yes HNy.out)).trans ((bind_ok (HKR.out.trans (by rw [e3]))).trans rfl), hs3.trans ⟨[_], rfl⟩, rfl, rfl, (hr3.set hnW _ _).set hnW _ _⟩⟩
    | bad r =>
      have HKR := Lib.hid hkR
      clear hkR
      go_enter Tryd.func42, Tryd.ntmps42
      go_wp2_with fail
      refine wp_region_held_drew (S := fun _ => True) (by kernel_rfl) trivial (fun _ => ?_)
      refine take1 0 3 (v := ?_) rfl rfl (by kernel_rfl) (by kernel_rfl) (by kernel_rfl) (fun _ _ _ h => h) (by kernel_rfl) ?_ trivial (by simp only [put_norm]; exact rfl) ?_
      rotate_left
      · rintro W -; go_simp; try (with_reducible rfl)
      refine take1 1 4 (v := ?_) rfl rfl (by kernel_rfl) (by kernel_rfl) (by kernel_rfl) (fun _ _ _ h => h) (by kernel_rfl) ?_ trivial (by simp only [put_norm]; exact rfl) ?_
      rotate_left
      · rintro W -; go_simp; try (with_reducible rfl)
      refine take1 2 5 (v := ?_) rfl rfl (by kernel_rfl) (by kernel_rfl) (by kernel_rfl) (fun _ _ _ h => h) (by kernel_rfl) ?_ trivial (by simp only [put_norm]; exact rfl) ?_
      rotate_left
      · rintro W -; go_simp; try (with_reducible rfl)
      refine take1 3 6 (v := ?_) rfl rfl (by kernel_rfl) (by kernel_rfl) (by kernel_rfl) (fun _ _ _ h => h) (by kernel_rfl) ?_ trivial (by simp only [put_norm]; exact rfl) ?_
      rotate_left
      · rintro W -; go_simp; try (with_reducible rfl)
      refine take1 4 7 (v := ?_) rfl rfl (by kernel_rfl) (by kernel_rfl) (by kernel_rfl) (fun _ _ _ h => h) (by kernel_rfl) ?_ trivial (by simp only [put_norm]; exact rfl) ?_
      rotate_left
      · rintro W -; go_simp; try (with_reducible rfl)
      refine take1 5 8 (v := ?_) rfl rfl (by kernel_rfl) (by kernel_rfl) (by kernel_rfl) (fun _ _ _ h => h) (by kernel_rfl) ?_ trivial (by simp only [put_norm]; exact rfl) ?_
      rotate_left
      · rintro W -; go_simp; try (with_reducible rfl)
      refine take1 11 14 (v := ?_) rfl rfl (by kernel_rfl) (by kernel_rfl) (by kernel_rfl) (fun _ _ _ h => h) (by kernel_rfl) ?_ trivial (by simp only [put_norm]; exact rfl) ?_
      rotate_left
      · rintro W -; go_simp; try (with_reducible rfl)
      refine wpAnyH_ready (rs := [6]) (by kernel_rfl) (by simp) ?_
      refine AllReadyH.cons rfl (fun K hK => ?_) AllReadyH.nil
      go_simp
      refine (pnext_any ((HR.out.alloc zP).drew)).mono ?_
      rintro y w1 ⟨rfl, hb⟩
      rw [← HX.out]
      unfold wordV
      have HB := Lib.hid hb
      clear hb
      go_wp2_with fail
      refine hK.out _ _ trivial (fun _ => ?_)
      clear hK K
      refine take1 7 10 (v := ?_) rfl rfl (by kernel_rfl) (by kernel_rfl) (by kernel_rfl) (fun _ _ _ h => h) (by kernel_rfl) ?_ trivial (by simp only [put_norm]; exact rfl) ?_
      rotate_left
      · rintro W -; go_simp; try (with_reducible rfl)
      refine take1 8 11 (v := ?_) rfl rfl (by kernel_rfl) (by kernel_rfl) (by kernel_rfl) (fun _ _ _ h => h) (by kernel_rfl) ?_ trivial (by simp only [put_norm]; exact rfl) ?_
      rotate_left
      · rintro W -; go_simp; try (with_reducible rfl)
      try simp only [hk]
      refine wpAnyH_ready (rs := [9]) (by kernel_rfl) (by simp) ?_
      refine AllReadyH.cons rfl (fun K hK => ?_) AllReadyH.nil
      go_simp
      refine (ptake_yes ((HR.out.alloc zP).drew.below HB.out)).mono ?_
      rintro y w2 ⟨rfl, ht2, hr2⟩
      have HE2 := Lib.hid (And.intro ht2 hr2)
      clear ht2 hr2
      unfold wordV
      go_wp2_with fail
      refine hK.out _ _ trivial (fun _ => ?_)
      clear hK K
      refine take1 10 13 (v := ?_) rfl rfl (by kernel_rfl) (by kernel_rfl) (by kernel_rfl) (fun _ _ _ h => h) (by kernel_rfl) ?_ trivial (by simp only [put_norm]; exact rfl) ?_
      rotate_left
      · rintro W -; go_simp; try (with_reducible rfl)
      refine wpAnyH_ready (rs := [12]) (by kernel_rfl) (by simp) ?_
      refine AllReadyH.cons rfl (fun K hK => ?_) AllReadyH.nil
      go_simp
      refine (ptyped_any HE2.out.2).mono ?_
      rintro y w3 he
      obtain ⟨ht3, L3, e3, hs3, rfl⟩ := PEnd.bad_ he HKR.out
      exact ⟨rfl, Only.turned (((((Only.refl b W).alloc zP).drew.below HB.out).on HE2.out.1).on ht3), .inr ⟨L3, (bind_ok (tok1_yes HNy.out)).trans (bind_bad (HKR.out.trans (by rw [e3]))), hs3.trans ⟨[_], rfl⟩, rfl⟩⟩
end
section
open Go Go.RowKit Go.Shelf

/-- What is read behind these parts. -/
def contS {α : Type} (q : Kt → Bool) (p : Rd α) (zs : List α) (r : List Kt) : Rs (List α) := if nxt q r = true then (sepL q p r.tail).bind (fun bs x => .ok (zs ++ bs) x) else .ok zs r
theorem sep_first {α : Type} {q : Kt → Bool} {p : Rd α} (hp : Eats p) {l r : List Kt} {a : α} (h : p l = .ok a r) : sepL q p l = contS q p [a] r := by
  rw [sepL_eq q hp, h]
  rfl
theorem sep_bad {α : Type} {q : Kt → Bool} {p : Rd α} (hp : Eats p) {l r : List Kt} (h : p l = .bad r) : sepL q p l = .bad r := by
  rw [sepL_eq q hp, h]
  rfl
theorem cont_end {α : Type} {q : Kt → Bool} {p : Rd α} {zs : List α} {r : List Kt} (h : nxt q r = false) : contS q p zs r = .ok zs r := by
  unfold contS
  rw [if_neg (by rw [h]; simp)]
theorem cont_next {α : Type} {q : Kt → Bool} {p : Rd α} (hp : Eats p) {zs : List α} {r r' : List Kt} {a : α} (h : nxt q r = true) (h2 : p r.tail = .ok a r') : contS q p zs r = contS q p (zs ++ [a]) r' := by
  unfold contS
  rw [if_pos h, sepL_eq q hp, h2]
  by_cases h3 : nxt q r' = true
  · simp only [Rs.bind, if_pos h3]
    cases sepL q p r'.tail with
    | ok bs x => simp
    | bad x => rfl
  · simp only [Rs.bind, if_neg h3]
theorem cont_bad {α : Type} {q : Kt → Bool} {p : Rd α} (hp : Eats p) {zs : List α} {r r' : List Kt} (h : nxt q r = true) (h2 : p r.tail = .bad r') : contS q p zs r = .bad r' := by
  unfold contS
  rw [if_pos h, sepL_eq q hp, h2]
  rfl
/-- How many tokens are left, told of the reader's block. -/
def leftW (w : World) (b : Nat) : Nat := match w.cell? ⟨b, 0, none⟩ with | some (.slice _ n _) => n | _ => 0
theorem Rp.left {n : Nat} {W : World} {b e : Nat} {L : List Wd} (h : Rp n W b L e) : leftW W b = L.length := by
  obtain ⟨v, hb, p, c, rfl, -⟩ := h.row
  have : W.cell? ⟨b, 0, none⟩ = some (.slice p L.length c) := cell_of_row W b 0 _ _ (0, 0) hb
  unfold leftW
  rw [this]
/-- A row of parts as a value. -/
def rowT {α : Type} (Y : Lay α) (S : Nat → Prop) (w : World) (v : Value) (zs : List α) : Prop := RowIn Y S w v zs
/-- What the loop of a list keeps. -/
structure LsJ {α : Type} (q : Kt → Bool) (p : Rd α) (Y : Lay α) (et : TypeId) (n b e : Nat) (L : List Wd) (W : World) (v : Value) (zs : List α) (L1 : List Wd) (w : World) : Prop where
  own : RowOwn Y et W.heap.size w v zs
  rd : Rp n w b L1 e
  only : Only W.heap.size b W w
  suf : L1 <:+ L
  eq : sepL q p (keys L) = contS q p zs (keys L1)
  len : zs.length + L1.length ≤ L.length
theorem keys_len (L : List Wd) : (keys L).length = L.length := List.length_map _
theorem eats_len {α : Type} {p : Rd α} (hp : Eats p) {L L' : List Wd} {a : α} (h : p (keys L) = .ok a (keys L')) : L'.length < L.length := by
  have := hp _ _ _ h
  rw [keys_len, keys_len] at this
  exact this
/-- Cells laid in a new block. -/
theorem lit_rowcells (w : World) (us : List Value) (t : TypeId) : ∀ j u, us[j]? = some u → (w.alloc (.cells us.toArray t)).cell? ⟨w.heap.size, 0 + j, none⟩ = some u := by
  intro j u hu
  rw [Nat.zero_add, cell_of_row _ w.heap.size _ _ _ (0, 0) (heap_alloc_new w _)]
  simpa using hu
end
end Go.Proofs.YtmnbbbkikbcbjaaDoor
