/-
  The program's reader: typed, op, param.
  The program's reader: param.
  Rows of parts with commas between them, as the program's loop reads them; how many tokens are left, told of the world.
  The program's reader: list of parts (Tm).
  The program's reader: enclosed; atom.
  The program's reader: the closure that reads the row in brackets (At).
  The program's reader: list of parts (Ty).
  The program's reader: the closure that reads the row in brackets (De).
  The program's reader: list of parts (Pa).
  The program's reader: the closure that reads the row in brackets (On).
  The program's reader: atom, act, literal.
-/
import Derived.Test.YtnbaemfkpfmheaaGreatDoorG02
import Derived.Deep.RegionHeld3
namespace Go.Proofs.YtnbaemfkpfmheaaGreatDoor
section
open Go Go.RowKit Go.Shelf

/-- A number as a value. -/
def intT (_ : Nat → Prop) (_ : World) (v : Value) (a : Int) : Prop := v = .int .i64 a
def opsL : List (List UInt8) := [[61], [33, 61], [60], [60, 61], [62], [62, 61]]
def opAt (T : List UInt8) : Int := if T = [61] then 1 else if T = [33, 61] then 2 else if T = [60] then 3 else if T = [60, 61] then 4 else if T = [62] then 5 else if T = [62, 61] then 6 else 0
theorem textAt_ops (T : List UInt8) : textAt opsL T 0 = opAt T - 1 := by
  unfold opAt opsL
  simp only [textAt]
  repeat' split
  all_goals rfl
theorem opAt_le (T : List UInt8) : 0 ≤ opAt T ∧ opAt T ≤ 6 := by
  unfold opAt
  repeat' split
  all_goals omega
theorem opNo_key {w : Wd} (h : TidyW w) : opNo w.key = opAt w.text := by
  unfold opNo opAt
  rw [tidy_mark h (m := [61]) rfl, tidy_mark h (m := [33, 61]) rfl, tidy_mark h (m := [60]) rfl, tidy_mark h (m := [60, 61]) rfl, tidy_mark h (m := [62]) rfl, tidy_mark h (m := [62, 61]) rfl]
  simp only [beq_iff_eq]
theorem nxt_op {L : List Wd} (h : ∀ w ∈ L, TidyW w) : nxt isOp (keys L) = (opAt (txt L) != 0) := by
  cases L with
  | nil => rfl
  | cons w L => show (opNo w.key != 0) = _; rw [opNo_key (h w List.mem_cons_self)]; rfl
def kindAt (T : List UInt8) : Int := if T = wInt then 1 else if T = wSym then 2 else 0
theorem textAt_kinds (T : List UInt8) : textAt [wInt, wSym] T 0 = kindAt T - 1 := by
  unfold kindAt
  simp only [textAt]
  repeat' split
  all_goals rfl
theorem kindAt_le (T : List UInt8) : 0 ≤ kindAt T ∧ kindAt T ≤ 2 := by
  unfold kindAt
  repeat' split
  all_goals omega
theorem isType_key {w : Wd} (h : TidyW w) : isType w.key = (kindAt w.text != 0) ∧ (kindAt w.text ≠ 0 → (if isW wInt w.key = true then (1 : Int) else 2) = kindAt w.text) := by
  unfold isType kindAt
  rw [tidy_word h (m := wInt) rfl, tidy_word h (m := wSym) rfl]
  by_cases e1 : w.text = wInt
  · simp [e1]
  · by_cases e2 : w.text = wSym
    · have e3 : wSym ≠ wInt := by decide
      simp [e2, e3]
    · simp [e1, e2]
theorem nxt_type {L : List Wd} (h : ∀ w ∈ L, TidyW w) : nxt isType (keys L) = (kindAt (txt L) != 0) := by
  cases L with
  | nil => rfl
  | cons w L => exact (isType_key (h w List.mem_cons_self)).1
theorem PEnd.yes {α : Type} {p : Rd α} {T : (Nat → Prop) → World → Value → α → Prop} {n b e : Nat} {L : List Wd} {w w' : World} {x : Ending} (h : PEnd p T n b e L w x w') {a : α} {r : List Kt} (hp : p (keys L) = .ok a r) :
    Turned (fun k => k = b) w w' ∧ ∃ L' v, r = keys L' ∧ L' <:+ L ∧ x = .returned v ∧ T (fun k => w.heap.size ≤ k) w' v a ∧ Rp n w' b L' e := by
  obtain ⟨ht, ⟨a', L', v, h1, h2, h3, h4, h5⟩ | ⟨L', h1, -⟩⟩ := h
  · rw [hp] at h1
    cases h1
    exact ⟨ht, L', v, rfl, h2, h3, h4, h5⟩
  · rw [hp] at h1
    cases h1
theorem PEnd.bad_ {α : Type} {p : Rd α} {T : (Nat → Prop) → World → Value → α → Prop} {n b e : Nat} {L : List Wd} {w w' : World} {x : Ending} (h : PEnd p T n b e L w x w') {r : List Kt} (hp : p (keys L) = .bad r) :
    Turned (fun k => k = b) w w' ∧ ∃ L', r = keys L' ∧ L' <:+ L ∧ x = .panicked (misP (hereW e L')) := by
  obtain ⟨ht, ⟨a', L', v, h1, -⟩ | ⟨L', h1, h2, h3⟩⟩ := h
  · rw [hp] at h1
    cases h1
  · rw [hp] at h1
    cases h1
    exact ⟨ht, L', rfl, h2, h3⟩
set_option maxRecDepth 100000 in
set_option maxHeartbeats 1000000 in
theorem ptyped_any {W : World} {n b e : Nat} {L : List Wd} (h : Rp n W b L e) : Calls Tryz.prog 78 #[rdp b] W (PEnd kindR intT n b e L W) := by
  have HWh := Lib.hid (pwhich_any (S := [wInt, wSym]) (h.alloc (.cells #[.string ⟨#[105, 110, 116]⟩, .string ⟨#[115, 121, 109]⟩] 9)) (txs_new W [wInt, wSym] (by simp) 2) (by decide))
  have HNx := Lib.hid (nxt_type h.tidy)
  have HT := Lib.hid h.tidy
  have HB := Lib.hid (Turned.alloc (fun k => k = b) W (.cells #[.string ⟨#[105, 110, 116]⟩, .string ⟨#[115, 121, 109]⟩] 9))
  clear h
  go_enter Tryz.func78, Tryz.ntmps78
  go_wp2_with fail
  refine HWh.out.mono ?_
  rintro y w1 ⟨ht, ⟨x, L', rfl, h0, rfl, hr⟩ | ⟨h0, rfl⟩⟩
  · rw [textAt_kinds] at h0 ⊢
    obtain ⟨k, hk⟩ : ∃ k, k = kindAt x.text := ⟨_, rfl⟩
    have hk2 := kindAt_le x.text
    rw [← hk] at h0 hk2 ⊢
    have HE := Lib.hid (And.intro ht (And.intro hr hk))
    clear ht hr hk
    have hw : IntKind.i64.wrap (1 + (k - 1)) = k := by rw [IntKind.wrap_i64]; omega
    have hk0 : k ≠ 0 := by omega
    clear h0 hk2
    go_wp2_with fail
    go_ret
    obtain ⟨ht, hr, hk⟩ := HE.out
    obtain ⟨i1, i2⟩ := isType_key (HT.out x List.mem_cons_self)
    rw [← hk] at i1 i2
    refine ⟨HB.out.trans ht (fun _ _ e => e), .inl ⟨k, L', _, ?_, ⟨[_], rfl⟩, rfl, ?_, hr⟩⟩
    · refine (bind_ok (tok1_yes (by rw [i1]; simpa using hk0))).trans ?_
      show Rs.ok (if isW wInt x.key = true then (1 : Int) else 2) _ = _
      rw [i2 hk0]
    · show _ = Value.int .i64 k
      rfl
  · rw [textAt_kinds] at h0
    have hk2 := kindAt_le (txt L)
    have HE := Lib.hid ht
    have HN0 := Lib.hid (show nxt isType (keys L) = false by rw [HNx.out]; simp; omega)
    clear ht h0 hk2
    go_wp2_with fail
    exact ⟨rfl, PEnd.no (bind_bad (tok1_no HN0.out)) (HB.out.trans HE.out (fun _ _ e => e))⟩
set_option maxRecDepth 100000 in
set_option maxHeartbeats 1000000 in
theorem pop_any {W : World} {n b e : Nat} {L : List Wd} (h : Rp n W b L e) : Calls Tryz.prog 89 #[rdp b] W (PEnd opR intT n b e L W) := by
  have HWh := Lib.hid (pwhich_any (S := opsL) (h.alloc (.cells #[.string ⟨#[61]⟩, .string ⟨#[33, 61]⟩, .string ⟨#[60]⟩, .string ⟨#[60, 61]⟩, .string ⟨#[62]⟩, .string ⟨#[62, 61]⟩] 9)) (txs_new W opsL (by decide) 6) (by decide))
  have HNx := Lib.hid (nxt_op h.tidy)
  have HT := Lib.hid h.tidy
  have HB := Lib.hid (Turned.alloc (fun k => k = b) W (.cells #[.string ⟨#[61]⟩, .string ⟨#[33, 61]⟩, .string ⟨#[60]⟩, .string ⟨#[60, 61]⟩, .string ⟨#[62]⟩, .string ⟨#[62, 61]⟩] 9))
  clear h
  go_enter Tryz.func89, Tryz.ntmps89
  go_wp2_with fail
  refine HWh.out.mono ?_
  rintro y w1 ⟨ht, ⟨x, L', rfl, h0, rfl, hr⟩ | ⟨h0, rfl⟩⟩
  · rw [textAt_ops] at h0 ⊢
    obtain ⟨k, hk⟩ : ∃ k, k = opAt x.text := ⟨_, rfl⟩
    have hk2 := opAt_le x.text
    rw [← hk] at h0 hk2 ⊢
    have HE := Lib.hid (And.intro ht (And.intro hr hk))
    clear ht hr hk
    have hw : IntKind.i64.wrap (1 + (k - 1)) = k := by rw [IntKind.wrap_i64]; omega
    have hk0 : k ≠ 0 := by omega
    clear h0 hk2
    go_wp2_with fail
    go_ret
    obtain ⟨ht, hr, hk⟩ := HE.out
    have i1 := opNo_key (HT.out x List.mem_cons_self)
    rw [← hk] at i1
    refine ⟨HB.out.trans ht (fun _ _ e => e), .inl ⟨k, L', _, ?_, ⟨[_], rfl⟩, rfl, ?_, hr⟩⟩
    · refine (bind_ok (tok1_yes (by unfold isOp; rw [i1]; simpa using hk0))).trans ?_
      show Rs.ok (opNo x.key) _ = _
      rw [i1]
    · show _ = Value.int .i64 k
      rfl
  · rw [textAt_ops] at h0
    have hk2 := opAt_le (txt L)
    have HE := Lib.hid ht
    have HN0 := Lib.hid (show nxt isOp (keys L) = false by rw [HNx.out]; simp; omega)
    clear ht h0 hk2
    go_wp2_with fail
    exact ⟨rfl, PEnd.no (bind_bad (tok1_no HN0.out)) (HB.out.trans HE.out (fun _ _ e => e))⟩
end
section
open Go Go.RowKit Go.Shelf

/-- One operation that yields in every world that is held, taken first; the frame behind it laid out. -/
theorem take1 {P : Program} {ops : Array Oper} {Q : Exit → Act → World → Prop} {md : Region.Mode} {S : World → Prop} (i d : Nat) {oi : Oper} {v : Value} {fuel : Nat} {listed : Array Bool} {a a' : Act} {W : World} (hi : ops[i]? = some oi) (hd : oi.dst = some d)
    (hs : Region.noSelect ops = true) (hf : Region.free md ops listed i = true) (hr : (Region.ready md ops listed).contains i = true)
    (hQ : ∀ c a w, Q (.panic c) (a.put oi.dst v) w → Q (.panic c) a w) (hw : Region.wanted oi (yielded ops a.tmps) = true) (hy : ∀ w, S w → (execOp a.eval oi).run P w = .ok (.value v) w) (hS : S W)
    (ha : a.put (some d) v = a') (h : wpAnyH P md ops Q S fuel (listed.setIfInBounds i true) a' W) : wpAnyH P md ops Q S (fuel + 1) listed a W :=
  wpAnyH_take hi hs hf hr hQ (.inl ⟨hw, hy⟩) hS (by rw [hd, ha]; exact h)
def paT (_ : Nat → Prop) (_ : World) (v : Value) (p : List UInt8 × Int) : Prop := v = .agg #[.string ⟨p.1.toArray⟩, .int .i64 p.2]
theorem nxt_kind (k : Int) {L : List Wd} (hk : k ≠ 0) : nxt (isK k) (keys L) = (knd L == k) := by
  cases L with
  | nil => show false = ((0 : Int) == k); simp; exact fun e => hk e.symm
  | cons w L => rfl
theorem cells2 {W : World} {b : Nat} {u v : Value} {t : TypeId} (h : W.heap[b]? = some (.cells #[u, v] t (0, 0))) :
    (W.cell? ⟨b, 0, none⟩ = some u ∧ W.cell? ⟨b, 1, none⟩ = some v) ∧ W.frozen? ⟨b, 0, none⟩ = false ∧ W.frozen? ⟨b, 1, none⟩ = false :=
  ⟨⟨(cell_of_row _ b 0 _ _ (0, 0) h).trans rfl, (cell_of_row _ b 1 _ _ (0, 0) h).trans rfl⟩, frozen_of_row _ b 0 _ _ h, frozen_of_row _ b 1 _ _ h⟩
theorem row2_set {w1 : World} {b : Nat} {t : TypeId} {u v u' v' : Value} (h : w1.heap[b]? = some (.cells #[u, v] t (0, 0))) :
    ((w1.setCell ⟨b, 0, none⟩ u').setCell ⟨b, 1, none⟩ v').heap[b]? = some (.cells #[u', v'] t (0, 0)) := by
  have h1 := Go.heap_setCell_same w1 b 0 _ _ u' h
  exact Go.heap_setCell_same _ b 1 _ _ v' h1
abbrev zP : Obj := .cells #[.string ⟨#[]⟩, .int .i64 0] 116
set_option maxRecDepth 100000 in
set_option maxHeartbeats 2000000 in
theorem pparam_any {W : World} {n b e : Nat} {L : List Wd} (h : Rp n W b L e) : Calls Tryz.prog 81 #[rdp b] W (PEnd paramR paT n b e L W) := by
  have HR := Lib.hid h
  have HNx := Lib.hid (nxt_kind 2 (L := L) (by decide))
  have hlt := h.lt
  have hnW := h.below_
  have hne1 : ¬ W.heap.size = b := by omega
  have F0 := wf0
  have F1 := wf1
  obtain ⟨x, hx⟩ : ∃ x, x = headW e L := ⟨_, rfl⟩
  obtain ⟨K, T, ⟨v1, v2, v3⟩, P⟩ := x
  obtain ⟨hK, hT⟩ := wordV_head hx
  rw [← hK] at HNx
  have HX := Lib.hid hx
  clear h hx hK hT
  have hz1 : W.heap.size < (W.alloc zP).heap.size := by simp
  -- WALK
  cases hk : (K == 2)
  · have HN0 := Lib.hid (show nxt (isK 2) (keys L) = false by rw [HNx.out, hk])
    go_enter Tryz.func81, Tryz.ntmps81
    go_wp2_with fail
    refine wp_region_held_drew (S := fun _ => True) (by kernel_rfl) trivial (fun _ => ?_)
    refine take1 0 3 (v := ?_) rfl rfl (by kernel_rfl) (by kernel_rfl) (by kernel_rfl) (fun _ _ _ h => h) (by kernel_rfl) ?_ trivial (by simp only [put_norm]; exact rfl) ?_
    rotate_left
    · rintro W -; go_simp; try (with_reducible rfl)
    refine take1 1 4 (v := ?_) rfl rfl (by kernel_rfl) (by kernel_rfl) (by kernel_rfl) (fun _ _ _ h => h) (by kernel_rfl) ?_ trivial (by simp only [put_norm]; exact rfl) ?_
    rotate_left
    · rintro W -; go_simp; try (with_reducible rfl)
    refine take1 2 5 (v := ?_) rfl rfl (by kernel_rfl) (by kernel_rfl) (by kernel_rfl) (fun _ _ _ h => h) (by kernel_rfl) ?_ trivial (by simp only [put_norm]; exact rfl) ?_
    rotate_left
    · rintro W -; go_simp; try (with_reducible rfl)
    refine take1 3 6 (v := ?_) rfl rfl (by kernel_rfl) (by kernel_rfl) (by kernel_rfl) (fun _ _ _ h => h) (by kernel_rfl) ?_ trivial (by simp only [put_norm]; exact rfl) ?_
    rotate_left
    · rintro W -; go_simp; try (with_reducible rfl)
    refine take1 4 7 (v := ?_) rfl rfl (by kernel_rfl) (by kernel_rfl) (by kernel_rfl) (fun _ _ _ h => h) (by kernel_rfl) ?_ trivial (by simp only [put_norm]; exact rfl) ?_
    rotate_left
    · rintro W -; go_simp; try (with_reducible rfl)
    refine take1 5 8 (v := ?_) rfl rfl (by kernel_rfl) (by kernel_rfl) (by kernel_rfl) (fun _ _ _ h => h) (by kernel_rfl) ?_ trivial (by simp only [put_norm]; exact rfl) ?_
    rotate_left
    · rintro W -; go_simp; try (with_reducible rfl)
    refine take1 11 14 (v := ?_) rfl rfl (by kernel_rfl) (by kernel_rfl) (by kernel_rfl) (fun _ _ _ h => h) (by kernel_rfl) ?_ trivial (by simp only [put_norm]; exact rfl) ?_
    rotate_left
    · rintro W -; go_simp; try (with_reducible rfl)
    refine wpAnyH_ready (rs := [6]) (by kernel_rfl) (by simp) ?_
    refine AllReadyH.cons rfl (fun K hK => ?_) AllReadyH.nil
    go_simp
    refine (pnext_any ((HR.out.alloc zP).drew)).mono ?_
    rintro y w1 ⟨rfl, hb⟩
    rw [← HX.out]
    unfold wordV
    have HB := Lib.hid hb
    clear hb
    go_wp2_with fail
    refine hK.out _ _ trivial (fun _ => ?_)
    clear hK K
    refine take1 7 10 (v := ?_) rfl rfl (by kernel_rfl) (by kernel_rfl) (by kernel_rfl) (fun _ _ _ h => h) (by kernel_rfl) ?_ trivial (by simp only [put_norm]; exact rfl) ?_
    rotate_left
    · rintro W -; go_simp; try (with_reducible rfl)
    refine take1 8 11 (v := ?_) rfl rfl (by kernel_rfl) (by kernel_rfl) (by kernel_rfl) (fun _ _ _ h => h) (by kernel_rfl) ?_ trivial (by simp only [put_norm]; exact rfl) ?_
    rotate_left
    · rintro W -; go_simp; try (with_reducible rfl)
    try simp only [hk]
    refine wpAnyH_ready (rs := [9]) (by kernel_rfl) (by simp) ?_
    refine AllReadyH.cons rfl (fun K hK => ?_) AllReadyH.nil
    go_simp
    refine (ptake_no ((HR.out.alloc zP).drew.below HB.out)).mono ?_
    rintro y w2 ⟨rfl, hb2⟩
    exact ⟨rfl, PEnd.no (bind_bad (tok1_no HN0.out)) (Only.turned ((((Only.refl b W).alloc zP).drew.below HB.out).below hb2))⟩
  · obtain ⟨L', hL⟩ := head_cons HX.out (by simp only; intro e0; rw [e0] at hk; simp at hk)
    subst hL
    have HNy := Lib.hid (show isK 2 (⟨K, T, (v1, v2, v3), P⟩ : Wd).key = true from hk)
    cases hkR : kindR (keys L') with
    | ok a r =>
      have HKR := Lib.hid hkR
      clear hkR
      go_enter Tryz.func81, Tryz.ntmps81
      go_wp2_with fail
      go_region_with (first
        | (go_at_call 47; refine (pnext_any ((HR.out.alloc zP).drew)).mono ?_; rintro y w1 ⟨rfl, hb⟩; rw [← HX.out]; unfold wordV; have HB := Lib.hid hb; clear hb)
        | (go_at_call 90; refine (ptake_yes ((HR.out.alloc zP).drew.below HB.out)).mono ?_; rintro y w2 ⟨rfl, ht2, hr2⟩; have HE2 := Lib.hid (And.intro ht2 hr2); clear ht2 hr2; unfold wordV)
        | (go_at_call 78; refine (ptyped_any HE2.out.2).mono ?_; rintro y w3 he; obtain ⟨ht3, L3, v, e3, hs3, rfl, hv3, hr3⟩ := PEnd.yes he HKR.out; have HE3 := Lib.hid (And.intro ht3 (And.intro e3 (And.intro hs3 hr3))); obtain rfl : v = .int .i64 a := hv3; have HO := Lib.hid (((((Only.refl b W).alloc zP).drew.below HB.out).on HE2.out.1).on ht3); have HQ := Lib.hid ((ht3.block _ (Nat.lt_of_lt_of_le hz1 (Nat.le_trans HB.out.size HE2.out.1.size)) hne1).trans ((HE2.out.1.block _ (Nat.lt_of_lt_of_le hz1 HB.out.size) hne1).trans ((HB.out.block _ hz1).trans (heap_alloc_new W zP)))); obtain ⟨⟨q0, q1⟩, f0, f1⟩ := cells2 HQ.out; clear he ht3 e3 hs3 hr3))
      go_wp2_with fail
      refine bodyPost_ret (results_cell_row (fn := Tryz.f81) (by rfl) _ _ _ _ _ _ _ (by rfl) (row2_set HQ.out) Tryz.underlying116 (by rfl) (by kernel_rfl)) (by rfl) ?_
      obtain ⟨ht3, e3, hs3, hr3⟩ := HE3.out
      exact ⟨Only.turned ((HO.out.set (Nat.le_refl _) _ _).set (Nat.le_refl _) _ _), .inl ⟨(T, a), L3, _, (bind_ok (tok1_yes HNy.out)).trans ((bind_ok (HKR.out.trans (by rw [e3]))).trans rfl), hs3.trans ⟨[_], rfl⟩, rfl, rfl, (hr3.set hnW _ _).set hnW _ _⟩⟩
    | bad r =>
      have HKR := Lib.hid hkR
      clear hkR
      go_enter Tryz.func81, Tryz.ntmps81
      go_wp2_with fail
      refine wp_region_held_drew (S := fun _ => True) (by kernel_rfl) trivial (fun _ => ?_)
      refine take1 0 3 (v := ?_) rfl rfl (by kernel_rfl) (by kernel_rfl) (by kernel_rfl) (fun _ _ _ h => h) (by kernel_rfl) ?_ trivial (by simp only [put_norm]; exact rfl) ?_
      rotate_left
      · rintro W -; go_simp; try (with_reducible rfl)
      refine take1 1 4 (v := ?_) rfl rfl (by kernel_rfl) (by kernel_rfl) (by kernel_rfl) (fun _ _ _ h => h) (by kernel_rfl) ?_ trivial (by simp only [put_norm]; exact rfl) ?_
      rotate_left
      · rintro W -; go_simp; try (with_reducible rfl)
      refine take1 2 5 (v := ?_) rfl rfl (by kernel_rfl) (by kernel_rfl) (by kernel_rfl) (fun _ _ _ h => h) (by kernel_rfl) ?_ trivial (by simp only [put_norm]; exact rfl) ?_
      rotate_left
      · rintro W -; go_simp; try (with_reducible rfl)
      refine take1 3 6 (v := ?_) rfl rfl (by kernel_rfl) (by kernel_rfl) (by kernel_rfl) (fun _ _ _ h => h) (by kernel_rfl) ?_ trivial (by simp only [put_norm]; exact rfl) ?_
      rotate_left
      · rintro W -; go_simp; try (with_reducible rfl)
      refine take1 4 7 (v := ?_) rfl rfl (by kernel_rfl) (by kernel_rfl) (by kernel_rfl) (fun _ _ _ h => h) (by kernel_rfl) ?_ trivial (by simp only [put_norm]; exact rfl) ?_
      rotate_left
      · rintro W -; go_simp; try (with_reducible rfl)
      refine take1 5 8 (v := ?_) rfl rfl (by kernel_rfl) (by kernel_rfl) (by kernel_rfl) (fun _ _ _ h => h) (by kernel_rfl) ?_ trivial (by simp only [put_norm]; exact rfl) ?_
      rotate_left
      · rintro W -; go_simp; try (with_reducible rfl)
      refine take1 11 14 (v := ?_) rfl rfl (by kernel_rfl) (by kernel_rfl) (by kernel_rfl) (fun _ _ _ h => h) (by kernel_rfl) ?_ trivial (by simp only [put_norm]; exact rfl) ?_
      rotate_left
      · rintro W -; go_simp; try (with_reducible rfl)
      refine wpAnyH_ready (rs := [6]) (by kernel_rfl) (by simp) ?_
      refine AllReadyH.cons rfl (fun K hK => ?_) AllReadyH.nil
      go_simp
      refine (pnext_any ((HR.out.alloc zP).drew)).mono ?_
      rintro y w1 ⟨rfl, hb⟩
      rw [← HX.out]
      unfold wordV
      have HB := Lib.hid hb
      clear hb
      go_wp2_with fail
      refine hK.out _ _ trivial (fun _ => ?_)
      clear hK K
      refine take1 7 10 (v := ?_) rfl rfl (by kernel_rfl) (by kernel_rfl) (by kernel_rfl) (fun _ _ _ h => h) (by kernel_rfl) ?_ trivial (by simp only [put_norm]; exact rfl) ?_
      rotate_left
      · rintro W -; go_simp; try (with_reducible rfl)
      refine take1 8 11 (v := ?_) rfl rfl (by kernel_rfl) (by kernel_rfl) (by kernel_rfl) (fun _ _ _ h => h) (by kernel_rfl) ?_ trivial (by simp only [put_norm]; exact rfl) ?_
      rotate_left
      · rintro W -; go_simp; try (with_reducible rfl)
      try simp only [hk]
      refine wpAnyH_ready (rs := [9]) (by kernel_rfl) (by simp) ?_
      refine AllReadyH.cons rfl (fun K hK => ?_) AllReadyH.nil
      go_simp
      refine (ptake_yes ((HR.out.alloc zP).drew.below HB.out)).mono ?_
      rintro y w2 ⟨rfl, ht2, hr2⟩
      have HE2 := Lib.hid (And.intro ht2 hr2)
      clear ht2 hr2
      unfold wordV
      go_wp2_with fail
      refine hK.out _ _ trivial (fun _ => ?_)
      clear hK K
      refine take1 10 13 (v := ?_) rfl rfl (by kernel_rfl) (by kernel_rfl) (by kernel_rfl) (fun _ _ _ h => h) (by kernel_rfl) ?_ trivial (by simp only [put_norm]; exact rfl) ?_
      rotate_left
      · rintro W -; go_simp; try (with_reducible rfl)
      refine wpAnyH_ready (rs := [12]) (by kernel_rfl) (by simp) ?_
      refine AllReadyH.cons rfl (fun K hK => ?_) AllReadyH.nil
      go_simp
      refine (ptyped_any HE2.out.2).mono ?_
      rintro y w3 he
      obtain ⟨ht3, L3, e3, hs3, rfl⟩ := PEnd.bad_ he HKR.out
      exact ⟨rfl, Only.turned (((((Only.refl b W).alloc zP).drew.below HB.out).on HE2.out.1).on ht3), .inr ⟨L3, (bind_ok (tok1_yes HNy.out)).trans (bind_bad (HKR.out.trans (by rw [e3]))), hs3.trans ⟨[_], rfl⟩, rfl⟩⟩
end
section
open Go Go.RowKit Go.Shelf

/-- What is read behind these parts. -/
def contS {α : Type} (q : Kt → Bool) (p : Rd α) (zs : List α) (r : List Kt) : Rs (List α) := if nxt q r = true then (sepL q p r.tail).bind (fun bs x => .ok (zs ++ bs) x) else .ok zs r
theorem sep_first {α : Type} {q : Kt → Bool} {p : Rd α} (hp : Eats p) {l r : List Kt} {a : α} (h : p l = .ok a r) : sepL q p l = contS q p [a] r := by
  rw [sepL_eq q hp, h]
  rfl
theorem sep_bad {α : Type} {q : Kt → Bool} {p : Rd α} (hp : Eats p) {l r : List Kt} (h : p l = .bad r) : sepL q p l = .bad r := by
  rw [sepL_eq q hp, h]
  rfl
theorem cont_end {α : Type} {q : Kt → Bool} {p : Rd α} {zs : List α} {r : List Kt} (h : nxt q r = false) : contS q p zs r = .ok zs r := by
  unfold contS
  rw [if_neg (by rw [h]; simp)]
theorem cont_next {α : Type} {q : Kt → Bool} {p : Rd α} (hp : Eats p) {zs : List α} {r r' : List Kt} {a : α} (h : nxt q r = true) (h2 : p r.tail = .ok a r') : contS q p zs r = contS q p (zs ++ [a]) r' := by
  unfold contS
  rw [if_pos h, sepL_eq q hp, h2]
  by_cases h3 : nxt q r' = true
  · simp only [Rs.bind, if_pos h3]
    cases sepL q p r'.tail with
    | ok bs x => simp
    | bad x => rfl
  · simp only [Rs.bind, if_neg h3]
theorem cont_bad {α : Type} {q : Kt → Bool} {p : Rd α} (hp : Eats p) {zs : List α} {r r' : List Kt} (h : nxt q r = true) (h2 : p r.tail = .bad r') : contS q p zs r = .bad r' := by
  unfold contS
  rw [if_pos h, sepL_eq q hp, h2]
  rfl
/-- How many tokens are left, told of the reader's block. -/
def leftW (w : World) (b : Nat) : Nat := match w.cell? ⟨b, 0, none⟩ with | some (.slice _ n _) => n | _ => 0
theorem Rp.left {n : Nat} {W : World} {b e : Nat} {L : List Wd} (h : Rp n W b L e) : leftW W b = L.length := by
  obtain ⟨v, hb, p, c, rfl, -⟩ := h.row
  have : W.cell? ⟨b, 0, none⟩ = some (.slice p L.length c) := cell_of_row W b 0 _ _ (0, 0) hb
  unfold leftW
  rw [this]
/-- A row of parts as a value. -/
def rowT {α : Type} (Y : Lay α) (S : Nat → Prop) (w : World) (v : Value) (zs : List α) : Prop := RowIn Y S w v zs
/-- What the loop of a list keeps. -/
structure LsJ {α : Type} (q : Kt → Bool) (p : Rd α) (Y : Lay α) (et : TypeId) (n b e : Nat) (L : List Wd) (W : World) (v : Value) (zs : List α) (L1 : List Wd) (w : World) : Prop where
  own : RowOwn Y et W.heap.size w v zs
  rd : Rp n w b L1 e
  only : Only W.heap.size b W w
  suf : L1 <:+ L
  eq : sepL q p (keys L) = contS q p zs (keys L1)
  len : zs.length + L1.length ≤ L.length
theorem keys_len (L : List Wd) : (keys L).length = L.length := List.length_map _
theorem eats_len {α : Type} {p : Rd α} (hp : Eats p) {L L' : List Wd} {a : α} (h : p (keys L) = .ok a (keys L')) : L'.length < L.length := by
  have := hp _ _ _ h
  rw [keys_len, keys_len] at this
  exact this
/-- Cells laid in a new block. -/
theorem lit_rowcells (w : World) (us : List Value) (t : TypeId) : ∀ j u, us[j]? = some u → (w.alloc (.cells us.toArray t)).cell? ⟨w.heap.size, 0 + j, none⟩ = some u := by
  intro j u hu
  rw [Nat.zero_add, cell_of_row _ w.heap.size _ _ _ (0, 0) (heap_alloc_new w _)]
  simpa using hu
end
section
open Go Go.RowKit Go.Shelf

set_option maxRecDepth 100000 in
set_option maxHeartbeats 2000000 in
theorem plistTm_any {W : World} {n b e : Nat} {L : List Wd} (h : Rp n W b L e) : Calls Tryz.prog 67 #[rdp b, .func (.func 68) #[rdp b] #[]] W (PEnd (sepL (isM [44]) termR) (rowT tmY) n b e L W) := by
  have HR := Lib.hid h
  have HEat := Lib.hid (fit_term.eats)
  have hnW := h.below_
  have hbn := h.at_
  clear h
  go_enter Tryz.func67, Tryz.ntmps67
  go_wp2_with fail
  refine (pterm_any HR.out).mono ?_
  rintro y w1 ⟨ht, ⟨a, L1, v, hp, hs, rfl, hv, hr⟩ | ⟨L1, hp, hs, rfl⟩⟩
  rotate_left
  · have HE := Lib.hid (And.intro ht (And.intro hp hs))
    clear ht hp hs
    go_wp2_with fail
    exact ⟨rfl, HE.out.1, .inr ⟨L1, sep_bad HEat.out HE.out.2.1, HE.out.2.2, rfl⟩⟩
  obtain rfl : v = .agg #[.int .i64 a.kind, .string ⟨a.name.toArray⟩, .int .i64 a.val.1, .int .i64 a.val.2.1, .string a.val.2.2] := hv
  have HJ0 : Hid (LsJ (isM [44]) termR tmY 84 n b e L W (.slice (some ⟨w1.heap.size, 0, none⟩) 1 1) [a] L1 (w1.alloc (.cells #[.int .i64 a.kind, .string ⟨a.name.toArray⟩, .int .i64 a.val.1, .int .i64 a.val.2.1, .string a.val.2.2] 84))) := Lib.hid
    ⟨RowOwn.lit (us := [.int .i64 a.kind, .string ⟨a.name.toArray⟩, .int .i64 a.val.1, .int .i64 a.val.2.1, .string a.val.2.2]) ht.size rfl, hr.alloc _, ((Only.refl b W).on ht).alloc _, hs, sep_first HEat.out hp, by have := eats_len HEat.out hp; simp; omega⟩
  clear ht hp hs hr
  go_wp2_with fail
  go_loopw [5] (fun v wr => ∃ zs L2, Hid (LsJ (isM [44]) termR tmY 84 n b e L W v zs L2 wr)) (fun _ wr => leftW wr b)
  case atStart => exact ⟨_, _, HJ0⟩
  case round =>
    obtain ⟨zs, L2, HJ⟩ := hrel
    go_wp2_with fail
    refine (pmay_any [44] (by decide) HJ.out.rd).mono ?_
    rintro y w2 ⟨ht, ⟨x, L3, rfl, hx, rfl, hr⟩ | ⟨hx, rfl, hr⟩⟩
    · have HE := Lib.hid (And.intro ht (And.intro hr hx))
      clear ht hr hx
      go_wp2_with fail
      refine (pterm_any HE.out.2.1).mono ?_
      rintro y w3 ⟨ht, ⟨a, L4, v1, hp, hs, rfl, hv, hr⟩ | ⟨L4, hp, hs, rfl⟩⟩
      rotate_left
      · have HE4 := Lib.hid (And.intro ht (And.intro hp hs))
        clear ht hp hs
        go_wp2_with fail
        have hq : nxt (isM [44]) (keys (x :: L3)) = true := by rw [nxt_mark HJ.out.rd.tidy rfl]; simp [txt, HE.out.2.2]
        exact ⟨rfl, Only.turned ((HJ.out.only.on HE.out.1).on HE4.out.1), .inr ⟨L4, HJ.out.eq.trans (cont_bad HEat.out hq HE4.out.2.1), HE4.out.2.2.trans ((List.suffix_cons x L3).trans HJ.out.suf), rfl⟩⟩
      obtain rfl : v1 = .agg #[.int .i64 a.kind, .string ⟨a.name.toArray⟩, .int .i64 a.val.1, .int .i64 a.val.2.1, .string a.val.2.2] := hv
      have HW := Lib.hid (And.intro ht (And.intro hp (And.intro hs hr)))
      clear ht hp hs hr
      have hlenA : zs.length ≤ 1000000 := by have := HJ.out.len; have := HR.out.len; simp at *; omega
      have hsz3 : W.heap.size ≤ w3.heap.size := Nat.le_trans HJ.out.only.size (Nat.le_trans HE.out.1.size HW.out.1.size)
      have HOw : Hid (RowOwn tmY 84 W.heap.size (w3.alloc (.cells #[.int .i64 a.kind, .string ⟨a.name.toArray⟩, .int .i64 a.val.1, .int .i64 a.val.2.1, .string a.val.2.2] 84)) u5 zs) := Lib.hid (((HJ.out.own.turned HE.out.1 (fun k hB _ e => by omega)).turned HW.out.1 (fun k hB _ e => by omega)).keep (by simp) fun k _ hk => Below.heap_alloc _ _ _ hk)
      have HIs : Hid (tmY.is (fun k => W.heap.size ≤ k ∧ u5.ownBlock ≠ some k) (w3.alloc (.cells #[.int .i64 a.kind, .string ⟨a.name.toArray⟩, .int .i64 a.val.1, .int .i64 a.val.2.1, .string a.val.2.2] 84)) [.int .i64 a.kind, .string ⟨a.name.toArray⟩, .int .i64 a.val.1, .int .i64 a.val.2.1, .string a.val.2.2] a) := Lib.hid rfl
      have hsz3' : W.heap.size ≤ (w3.alloc (.cells #[.int .i64 a.kind, .string ⟨a.name.toArray⟩, .int .i64 a.val.1, .int .i64 a.val.2.1, .string a.val.2.2] 84)).heap.size := by simp; omega
      have HCl : Hid (∀ j u', ([.int .i64 a.kind, .string ⟨a.name.toArray⟩, .int .i64 a.val.1, .int .i64 a.val.2.1, .string a.val.2.2] : List Value)[j]? = some u' → (w3.alloc (.cells #[.int .i64 a.kind, .string ⟨a.name.toArray⟩, .int .i64 a.val.1, .int .i64 a.val.2.1, .string a.val.2.2] 84)).cell? ⟨w3.heap.size, 0 + j, none⟩ = some u') := Lib.hid (lit_rowcells w3 [.int .i64 a.kind, .string ⟨a.name.toArray⟩, .int .i64 a.val.1, .int .i64 a.val.2.1, .string a.val.2.2] _)
      go_wp2_with (at_builtin; refine wpList_appY tmY rfl (.tmp 13) (.tmp 16) 36 84 rfl W.heap.size (.agg #[.int .i64 0, .string ⟨#[]⟩, .int .i64 0, .int .i64 0, .string ⟨#[]⟩]) 56 Tryz.underlying36 Tryz.infoTm rfl (by decide) (by decide) u5 zs a [.int .i64 a.kind, .string ⟨a.name.toArray⟩, .int .i64 a.val.1, .int .i64 a.val.2.1, .string a.val.2.2] w3.heap.size 1 rfl rfl HOw.out HIs.out HCl.out hlenA hsz3' ?_; intro v2 w4 ho hg hv2; have HN := Lib.hid (And.intro ho hg); clear ho hg hv2)
      go_roundw
      case rel =>
        obtain ⟨ho, hg⟩ := HN.out
        obtain ⟨ht, hp, hs, hr⟩ := HW.out
        have hq : nxt (isM [44]) (keys (x :: L3)) = true := by rw [nxt_mark HJ.out.rd.tidy rfl]; simp [txt, HE.out.2.2]
        have htg := Turned.of_grown hg
        have hlo : ∀ k, u5.ownBlock = some k → W.heap.size ≤ k := fun k e => (HJ.out.own.lt k e).1
        refine ⟨zs ++ [a], L4, Lib.hid ⟨ho, (hr.alloc _).turned htg fun k e => by have := hlo k e; omega, (((HJ.out.only.on HE.out.1).on ht).alloc _).call htg fun k e => .inr (hlo k e), hs.trans ((List.suffix_cons x L3).trans HJ.out.suf), HJ.out.eq.trans (cont_next HEat.out hq hp), ?_⟩⟩
        have h1 := eats_len HEat.out hp
        have h2 := HJ.out.len
        simp at h2 ⊢
        omega
      case measure =>
        obtain ⟨ho, hg⟩ := HN.out
        obtain ⟨ht, hp, hs, hr⟩ := HW.out
        have htg := Turned.of_grown hg
        have hlo : ∀ k, u5.ownBlock = some k → W.heap.size ≤ k := fun k e => (HJ.out.own.lt k e).1
        have h3 := ((hr.alloc (.cells #[.int .i64 a.kind, .string ⟨a.name.toArray⟩, .int .i64 a.val.1, .int .i64 a.val.2.1, .string a.val.2.2] 84)).turned htg fun k e => by have := hlo k e; omega).left
        rw [h3, HJ.out.rd.left]
        have h1 := eats_len HEat.out hp
        simp
        omega
    · have HE := Lib.hid (And.intro ht (And.intro hr hx))
      clear ht hr hx
      go_wp2_with fail
      go_ret
      have hq : nxt (isM [44]) (keys L2) = false := by rw [nxt_mark HJ.out.rd.tidy rfl]; simpa using HE.out.2.2
      exact ⟨Only.turned (HJ.out.only.on HE.out.1), .inl ⟨zs, L2, u5, HJ.out.eq.trans (cont_end hq), HJ.out.suf, rfl, (HJ.out.own.turned HE.out.1 (fun k hB _ e => by omega)).in_, HE.out.2.1⟩⟩
end
section
open Go Go.RowKit Go.Shelf

theorem mark_yes {m : List UInt8} {x : Wd} {L : List Wd} (h : TidyW x) (hm : okM m = true) (e : x.text = m) : markR m (keys (x :: L)) = .ok () (keys L) :=
  (bind_ok (tok1_yes (by rw [tidy_mark h hm]; simpa using e))).trans rfl
theorem mark_no {m : List UInt8} {L : List Wd} (h : ∀ w ∈ L, TidyW w) (hm : okM m = true) (e : txt L ≠ m) : markR m (keys L) = .bad (keys L) :=
  bind_bad (tok1_no (by rw [nxt_mark h hm]; simpa using e))
/-- How what stands in brackets may end: what it read lies where G says. -/
def InEnd {α : Type} (p : Rd α) (n b e N : Nat) (G : World → α → Prop) (w0 : World) (L : List Wd) (x : Ending) (w' : World) : Prop :=
  Only N b w0 w' ∧ ((∃ a L', p (keys L) = .ok a (keys L') ∧ L' <:+ L ∧ x = .returned (.tuple #[]) ∧ G w' a ∧ Rp n w' b L' e) ∨ ∃ L', p (keys L) = .bad (keys L') ∧ L' <:+ L ∧ x = .panicked (misP (hereW e L')))
/-- A row in brackets that may be empty. -/
def encR {α : Type} (p : Rd (List α)) : Rd (List α) := bindR (markR [40]) fun _ => bindR (altR (isM [41]) (pureR []) p) fun zs => bindR (markR [41]) fun _ => pureR zs
theorem txt_head {x : Wd} {L : List Wd} : txt (x :: L) = x.text := rfl
set_option maxRecDepth 100000 in
set_option maxHeartbeats 2000000 in
theorem penclosed_any {α : Type} (p : Rd (List α)) {n b e N : Nat} {G : World → List α → Prop} {w0 w : World} {L : List Wd} (k : Nat) (caps : Array Value) (eg : ∀ args w, (callFunc k args).run Tryz.prog w = .ok (.enter k args) w)
    (h : Rp n w b L e) (hO : Only N b w0 w) (hG0 : G w []) (hG : ∀ W W' a, G W a → Turned (fun k => k = b) W W' → G W' a)
    (hin : ∀ W L1, Only N b w0 W → G W [] → Rp n W b L1 e → Calls Tryz.prog k caps W (InEnd p n b e N G w0 L1)) :
    Calls Tryz.prog 65 #[rdp b, .func (.func k) #[] caps] w (InEnd (encR p) n b e N G w0 L) := by
  have HR := Lib.hid h
  have HO := Lib.hid hO
  have HG0 := Lib.hid hG0
  have HG := Lib.hid hG
  have HI := Lib.hid hin
  clear h hO hG0 hG hin
  go_enter Tryz.func65, Tryz.ntmps65
  go_wp2_with fail
  refine (pmust_any [40] (by decide) HR.out).mono ?_
  rintro y w1 ⟨ht, ⟨x, L1, rfl, hx, rfl, hr⟩ | ⟨hx, rfl⟩⟩
  rotate_left
  · have HE := Lib.hid ht
    have HX := Lib.hid hx
    clear ht hx
    go_wp2_with fail
    exact ⟨rfl, HO.out.on HE.out, .inr ⟨L, bind_bad (mark_no HR.out.tidy rfl HX.out), List.suffix_refl _, rfl⟩⟩
  have HE1 := Lib.hid (And.intro ht hr)
  have HM := Lib.hid (mark_yes (L := L1) (HR.out.tidy x List.mem_cons_self) (m := [40]) rfl hx)
  clear ht hx hr
  go_wp2_with fail
  refine (pmay_any [41] (by decide) HE1.out.2).mono ?_
  rintro y w2 ⟨ht, ⟨x2, L2, rfl, hx, rfl, hr⟩ | ⟨hx, rfl, hr⟩⟩
  · have HE2 := Lib.hid (And.intro ht hr)
    have HM2 := Lib.hid (mark_yes (L := L2) (HE1.out.2.tidy x2 List.mem_cons_self) (m := [41]) rfl hx)
    have HQ := Lib.hid (show nxt (isM [41]) (keys (x2 :: L2)) = true by rw [nxt_mark HE1.out.2.tidy rfl]; simpa [txt] using hx)
    clear ht hx hr
    go_wp2_with fail
    exact bodyPost_end (results_none rfl _ _ _) rfl ⟨(HO.out.on HE1.out.1).on HE2.out.1, .inl ⟨[], L2, (bind_ok HM.out).trans ((bind_ok (show altR (isM [41]) (pureR []) p (keys (x2 :: L2)) = .ok [] (keys (x2 :: L2)) by unfold altR; rw [if_pos HQ.out]; rfl)).trans ((bind_ok HM2.out).trans rfl)), (List.suffix_cons x2 L2).trans (List.suffix_cons x (x2 :: L2)), rfl, HG.out _ _ _ (HG.out _ _ _ HG0.out HE1.out.1) HE2.out.1, HE2.out.2⟩⟩
  · have HE2 := Lib.hid (And.intro ht hr)
    have HQ := Lib.hid (show nxt (isM [41]) (keys L1) = false by rw [nxt_mark HE1.out.2.tidy rfl]; simpa using hx)
    have HP := Lib.hid (show altR (isM [41]) (pureR []) p (keys L1) = p (keys L1) by unfold altR; rw [if_neg (by rw [HQ.out]; simp)])
    clear ht hx hr
    go_wp2_with fail
    refine (HI.out w2 L1 ((HO.out.on HE1.out.1).on HE2.out.1) (HG.out _ _ _ (HG.out _ _ _ HG0.out HE1.out.1) HE2.out.1) HE2.out.2).mono ?_
    rintro y w3 ⟨ho, ⟨a, L3, hp, hs, rfl, hg, hr⟩ | ⟨L3, hp, hs, rfl⟩⟩
    rotate_left
    · have HE3 := Lib.hid (And.intro ho (And.intro hp hs))
      clear ho hp hs
      go_wp2_with fail
      exact ⟨rfl, HE3.out.1, .inr ⟨L3, (bind_ok HM.out).trans (bind_bad (HP.out.trans HE3.out.2.1)), HE3.out.2.2.trans (List.suffix_cons x L1), rfl⟩⟩
    have HE3 := Lib.hid (And.intro ho (And.intro hp (And.intro hs (And.intro hg hr))))
    clear ho hp hs hg hr
    go_wp2_with fail
    refine (pmust_any [41] (by decide) HE3.out.2.2.2.2).mono ?_
    rintro y w4 ⟨ht, ⟨x4, L4, rfl, hx, rfl, hr⟩ | ⟨hx, rfl⟩⟩
    · have HE4 := Lib.hid (And.intro ht hr)
      have HM4 := Lib.hid (mark_yes (L := L4) (HE3.out.2.2.2.2.tidy x4 List.mem_cons_self) (m := [41]) rfl hx)
      clear ht hx hr
      go_wp2_with fail
      obtain ⟨ho, hp, hs, hg, hr⟩ := HE3.out
      exact bodyPost_end (results_none rfl _ _ _) rfl ⟨ho.on HE4.out.1, .inl ⟨a, L4, (bind_ok HM.out).trans ((bind_ok (HP.out.trans hp)).trans ((bind_ok HM4.out).trans rfl)), ((List.suffix_cons x4 L4).trans hs).trans (List.suffix_cons x L1), rfl, HG.out _ _ _ hg HE4.out.1, HE4.out.2⟩⟩
    · have HE4 := Lib.hid ht
      have HX := Lib.hid hx
      clear ht hx
      go_wp2_with fail
      obtain ⟨ho, hp, hs, hg, hr⟩ := HE3.out
      exact ⟨rfl, ho.on HE4.out, .inr ⟨L3, (bind_ok HM.out).trans ((bind_ok (HP.out.trans hp)).trans (bind_bad (mark_no hr.tidy rfl HX.out))), hs.trans (List.suffix_cons x L1), rfl⟩⟩
/-- An atom as a value. -/
def atT (S : Nat → Prop) (w : World) (v : Value) (a : AtL) : Prop := ∃ u, v = .agg #[.string ⟨a.pred.toArray⟩, u] ∧ RowIn tmY S w u a.args
end
section
open Go Go.RowKit Go.Shelf

def AtG (N b br ba kt : Nat) (ko : Obj) (nm : List UInt8) (W : World) (zs : List TmL) : Prop :=
  (N ≤ ba ∧ ba < W.heap.size ∧ b < N) ∧ (∃ u, W.heap[ba]? = some (.cells #[.string ⟨nm.toArray⟩, u] 38 (0, 0)) ∧ RowIn tmY (fun k => N ≤ k ∧ k ≠ ba ∧ k ≠ kt) W u zs) ∧ N ≤ br ∧ br < W.heap.size ∧ br ≠ ba ∧ W.heap[br]? = some (.cells #[rdp b] 56 (0, 0)) ∧ (kt ≠ ba ∧ kt ≠ b ∧ kt < W.heap.size ∧ W.heap[kt]? = some ko)
theorem AtG.on {N b br ba kt : Nat} {ko : Obj} {nm : List UInt8} {W W' : World} {zs : List TmL} (h : AtG N b br ba kt ko nm W zs) (ht : Turned (fun k => k = b) W W') : AtG N b br ba kt ko nm W' zs := by
  obtain ⟨⟨h1, h2, h0⟩, ⟨u, h3, h4⟩, h5, h6, h7, h8, k1, k2, k3, k4⟩ := h
  exact ⟨⟨h1, Nat.lt_of_lt_of_le h2 ht.size, h0⟩, ⟨u, (ht.block ba h2 (by omega)).trans h3, h4.turned ht fun k e e2 => by omega⟩, h5, Nat.lt_of_lt_of_le h6 ht.size, h7, (ht.block br h6 (by omega)).trans h8, k1, k2, Nat.lt_of_lt_of_le k3 ht.size, (ht.block kt k3 k2).trans k4⟩
theorem AtG.put {N b br ba kt n0 : Nat} {ko : Obj} {nm : List UInt8} {W W1 : World} {zs zs' : List _} {v : Value} (h : AtG N b br ba kt ko nm W zs) (ht : Turned (fun k => k = b) W W1) (hn : n0 = W.heap.size) (hv : RowIn tmY (fun k => n0 ≤ k) W1 v zs') : AtG N b br ba kt ko nm (W1.setCell ⟨ba, 1, none⟩ v) zs' := by
  obtain ⟨⟨h1, h2, h0⟩, ⟨u, h3, h4⟩, h5, h6, h7, h8, k1, k2, k3, k4⟩ := h.on ht
  have hlt := h.1.2.1
  have hkt := h.2.2.2.2.2.2.2.2.1
  refine ⟨⟨h1, by simpa using h2, h0⟩, ⟨v, heap_setCell_same W1 ba 1 _ _ v h3, ?_⟩, h5, by simpa using h6, h7, (heap_setCell_other W1 ⟨ba, 1, none⟩ br v (by show br ≠ ba; omega)).trans h8, k1, k2, by simpa using k3, (heap_setCell_other W1 ⟨ba, 1, none⟩ kt v k1).trans k4⟩
  exact hv.keep (by simp) fun k e hk => ⟨⟨by omega, by omega, by omega⟩, heap_setCell_other W1 ⟨ba, 1, none⟩ k v (by show k ≠ ba; omega)⟩
set_option maxRecDepth 100000 in
theorem patom1_any {n b e N br ba kt : Nat} {ko : Obj} {nm : List UInt8} {w0 W : World} {L : List Wd} {zs : List _} (hG : AtG N b br ba kt ko nm W zs) (hO : Only N b w0 W) (h : Rp n W b L e) (hn : n ≤ N) :
    Calls Tryz.prog 66 #[.pointer (some ⟨br, 0, none⟩), .pointer (some ⟨ba, 0, none⟩)] W (InEnd (sepL (isM [44]) termR) n b e N (AtG N b br ba kt ko nm) w0 L) := by
  have HG := Lib.hid hG
  have HO := Lib.hid hO
  have HR := Lib.hid h
  have hc : W.cell? ⟨br, 0, none⟩ = some (rdp b) := cell_of_row W br 0 _ _ (0, 0) hG.2.2.2.2.2.1
  clear hG hO h
  go_enter Tryz.func66, Tryz.ntmps66
  go_wp2_with fail
  refine (plistTm_any HR.out).mono ?_
  rintro y w1 ⟨ht, ⟨a, L1, v, hp, hs, rfl, hv, hr⟩ | ⟨L1, hp, hs, rfl⟩⟩
  rotate_left
  · have HE := Lib.hid (And.intro ht (And.intro hp hs))
    clear ht hp hs
    go_wp2_with fail
    exact ⟨rfl, HO.out.on HE.out.1, .inr ⟨L1, HE.out.2.1, HE.out.2.2, rfl⟩⟩
  obtain ⟨pv, cv, rfl, -⟩ := id hv
  have HE := Lib.hid (And.intro ht (And.intro hp (And.intro hs (And.intro hv hr))))
  obtain ⟨-, ⟨u, h3, -⟩, -⟩ := HG.out.on ht
  have c1 : w1.cell? ⟨ba, 1, none⟩ = some u := cell_of_row w1 ba 1 _ _ (0, 0) h3
  have f1 : w1.frozen? ⟨ba, 1, none⟩ = false := frozen_of_row w1 ba 1 _ _ h3
  clear ht hp hs hv hr h3
  go_wp2_with fail
  obtain ⟨ht, hp, hs, hv, hr⟩ := HE.out
  exact bodyPost_end (results_none rfl _ _ _) rfl ⟨(HO.out.on ht).set HG.out.1.1 _ _, .inl ⟨a, L1, hp, hs, rfl, HG.out.put ht rfl hv, hr.set (Nat.le_trans hn HG.out.1.1) _ _⟩⟩
end
section
open Go Go.RowKit Go.Shelf

set_option maxRecDepth 100000 in
set_option maxHeartbeats 2000000 in
theorem plistTy_any {W : World} {n b e : Nat} {L : List Wd} (h : Rp n W b L e) : Calls Tryz.prog 77 #[rdp b, .func (.func 78) #[rdp b] #[]] W (PEnd (sepL (isM [44]) kindR) (rowT tyY) n b e L W) := by
  have HR := Lib.hid h
  have HEat := Lib.hid (fit_kind.eats)
  have hnW := h.below_
  have hbn := h.at_
  clear h
  go_enter Tryz.func77, Tryz.ntmps77
  go_wp2_with fail
  refine (ptyped_any HR.out).mono ?_
  rintro y w1 ⟨ht, ⟨a, L1, v, hp, hs, rfl, hv, hr⟩ | ⟨L1, hp, hs, rfl⟩⟩
  rotate_left
  · have HE := Lib.hid (And.intro ht (And.intro hp hs))
    clear ht hp hs
    go_wp2_with fail
    exact ⟨rfl, HE.out.1, .inr ⟨L1, sep_bad HEat.out HE.out.2.1, HE.out.2.2, rfl⟩⟩
  obtain rfl : v = .int .i64 a := hv
  have HJ0 : Hid (LsJ (isM [44]) kindR tyY 112 n b e L W (.slice (some ⟨w1.heap.size, 0, none⟩) 1 1) [a] L1 (w1.alloc (.cells #[.int .i64 a] 112))) := Lib.hid
    ⟨RowOwn.lit (us := [.int .i64 a]) ht.size rfl, hr.alloc _, ((Only.refl b W).on ht).alloc _, hs, sep_first HEat.out hp, by have := eats_len HEat.out hp; simp; omega⟩
  clear ht hp hs hr
  go_wp2_with fail
  go_loopw [5] (fun v wr => ∃ zs L2, Hid (LsJ (isM [44]) kindR tyY 112 n b e L W v zs L2 wr)) (fun _ wr => leftW wr b)
  case atStart => exact ⟨_, _, HJ0⟩
  case round =>
    obtain ⟨zs, L2, HJ⟩ := hrel
    go_wp2_with fail
    refine (pmay_any [44] (by decide) HJ.out.rd).mono ?_
    rintro y w2 ⟨ht, ⟨x, L3, rfl, hx, rfl, hr⟩ | ⟨hx, rfl, hr⟩⟩
    · have HE := Lib.hid (And.intro ht (And.intro hr hx))
      clear ht hr hx
      go_wp2_with fail
      refine (ptyped_any HE.out.2.1).mono ?_
      rintro y w3 ⟨ht, ⟨a, L4, v1, hp, hs, rfl, hv, hr⟩ | ⟨L4, hp, hs, rfl⟩⟩
      rotate_left
      · have HE4 := Lib.hid (And.intro ht (And.intro hp hs))
        clear ht hp hs
        go_wp2_with fail
        have hq : nxt (isM [44]) (keys (x :: L3)) = true := by rw [nxt_mark HJ.out.rd.tidy rfl]; simp [txt, HE.out.2.2]
        exact ⟨rfl, Only.turned ((HJ.out.only.on HE.out.1).on HE4.out.1), .inr ⟨L4, HJ.out.eq.trans (cont_bad HEat.out hq HE4.out.2.1), HE4.out.2.2.trans ((List.suffix_cons x L3).trans HJ.out.suf), rfl⟩⟩
      obtain rfl : v1 = .int .i64 a := hv
      have HW := Lib.hid (And.intro ht (And.intro hp (And.intro hs hr)))
      clear ht hp hs hr
      have hlenA : zs.length ≤ 1000000 := by have := HJ.out.len; have := HR.out.len; simp at *; omega
      have hsz3 : W.heap.size ≤ w3.heap.size := Nat.le_trans HJ.out.only.size (Nat.le_trans HE.out.1.size HW.out.1.size)
      have HOw : Hid (RowOwn tyY 112 W.heap.size (w3.alloc (.cells #[.int .i64 a] 112)) u5 zs) := Lib.hid (((HJ.out.own.turned HE.out.1 (fun k hB _ e => by omega)).turned HW.out.1 (fun k hB _ e => by omega)).keep (by simp) fun k _ hk => Below.heap_alloc _ _ _ hk)
      have HIs : Hid (tyY.is (fun k => W.heap.size ≤ k ∧ u5.ownBlock ≠ some k) (w3.alloc (.cells #[.int .i64 a] 112)) [.int .i64 a] a) := Lib.hid rfl
      have hsz3' : W.heap.size ≤ (w3.alloc (.cells #[.int .i64 a] 112)).heap.size := by simp; omega
      have HCl : Hid (∀ j u', ([.int .i64 a] : List Value)[j]? = some u' → (w3.alloc (.cells #[.int .i64 a] 112)).cell? ⟨w3.heap.size, 0 + j, none⟩ = some u') := Lib.hid (lit_rowcells w3 [.int .i64 a] _)
      go_wp2_with (at_builtin; refine wpList_appY tyY rfl (.tmp 13) (.tmp 16) 65 112 rfl W.heap.size (.int .i64 0) 8 Tryz.underlying65 Tryz.infoTy rfl (by decide) (by decide) u5 zs a [.int .i64 a] w3.heap.size 1 rfl rfl HOw.out HIs.out HCl.out hlenA hsz3' ?_; intro v2 w4 ho hg hv2; have HN := Lib.hid (And.intro ho hg); clear ho hg hv2)
      go_roundw
      case rel =>
        obtain ⟨ho, hg⟩ := HN.out
        obtain ⟨ht, hp, hs, hr⟩ := HW.out
        have hq : nxt (isM [44]) (keys (x :: L3)) = true := by rw [nxt_mark HJ.out.rd.tidy rfl]; simp [txt, HE.out.2.2]
        have htg := Turned.of_grown hg
        have hlo : ∀ k, u5.ownBlock = some k → W.heap.size ≤ k := fun k e => (HJ.out.own.lt k e).1
        refine ⟨zs ++ [a], L4, Lib.hid ⟨ho, (hr.alloc _).turned htg fun k e => by have := hlo k e; omega, (((HJ.out.only.on HE.out.1).on ht).alloc _).call htg fun k e => .inr (hlo k e), hs.trans ((List.suffix_cons x L3).trans HJ.out.suf), HJ.out.eq.trans (cont_next HEat.out hq hp), ?_⟩⟩
        have h1 := eats_len HEat.out hp
        have h2 := HJ.out.len
        simp at h2 ⊢
        omega
      case measure =>
        obtain ⟨ho, hg⟩ := HN.out
        obtain ⟨ht, hp, hs, hr⟩ := HW.out
        have htg := Turned.of_grown hg
        have hlo : ∀ k, u5.ownBlock = some k → W.heap.size ≤ k := fun k e => (HJ.out.own.lt k e).1
        have h3 := ((hr.alloc (.cells #[.int .i64 a] 112)).turned htg fun k e => by have := hlo k e; omega).left
        rw [h3, HJ.out.rd.left]
        have h1 := eats_len HEat.out hp
        simp
        omega
    · have HE := Lib.hid (And.intro ht (And.intro hr hx))
      clear ht hr hx
      go_wp2_with fail
      go_ret
      have hq : nxt (isM [44]) (keys L2) = false := by rw [nxt_mark HJ.out.rd.tidy rfl]; simpa using HE.out.2.2
      exact ⟨Only.turned (HJ.out.only.on HE.out.1), .inl ⟨zs, L2, u5, HJ.out.eq.trans (cont_end hq), HJ.out.suf, rfl, (HJ.out.own.turned HE.out.1 (fun k hB _ e => by omega)).in_, HE.out.2.1⟩⟩
end
section
open Go Go.RowKit Go.Shelf

def DeG (N b br ba kt : Nat) (ko : Obj) (nm : List UInt8) (ba_ : Bool) (W : World) (zs : List Int) : Prop :=
  (N ≤ ba ∧ ba < W.heap.size ∧ b < N) ∧ (∃ u, W.heap[ba]? = some (.cells #[.string ⟨nm.toArray⟩, .bool ba_, u] 67 (0, 0)) ∧ RowIn tyY (fun k => N ≤ k ∧ k ≠ ba ∧ k ≠ kt) W u zs) ∧ N ≤ br ∧ br < W.heap.size ∧ br ≠ ba ∧ W.heap[br]? = some (.cells #[rdp b] 56 (0, 0)) ∧ (kt ≠ ba ∧ kt ≠ b ∧ kt < W.heap.size ∧ W.heap[kt]? = some ko)
theorem DeG.on {N b br ba kt : Nat} {ko : Obj} {nm : List UInt8} {ba_ : Bool} {W W' : World} {zs : List Int} (h : DeG N b br ba kt ko nm ba_ W zs) (ht : Turned (fun k => k = b) W W') : DeG N b br ba kt ko nm ba_ W' zs := by
  obtain ⟨⟨h1, h2, h0⟩, ⟨u, h3, h4⟩, h5, h6, h7, h8, k1, k2, k3, k4⟩ := h
  exact ⟨⟨h1, Nat.lt_of_lt_of_le h2 ht.size, h0⟩, ⟨u, (ht.block ba h2 (by omega)).trans h3, h4.turned ht fun k e e2 => by omega⟩, h5, Nat.lt_of_lt_of_le h6 ht.size, h7, (ht.block br h6 (by omega)).trans h8, k1, k2, Nat.lt_of_lt_of_le k3 ht.size, (ht.block kt k3 k2).trans k4⟩
theorem DeG.put {N b br ba kt n0 : Nat} {ko : Obj} {nm : List UInt8} {ba_ : Bool} {W W1 : World} {zs zs' : List _} {v : Value} (h : DeG N b br ba kt ko nm ba_ W zs) (ht : Turned (fun k => k = b) W W1) (hn : n0 = W.heap.size) (hv : RowIn tyY (fun k => n0 ≤ k) W1 v zs') : DeG N b br ba kt ko nm ba_ (W1.setCell ⟨ba, 2, none⟩ v) zs' := by
  obtain ⟨⟨h1, h2, h0⟩, ⟨u, h3, h4⟩, h5, h6, h7, h8, k1, k2, k3, k4⟩ := h.on ht
  have hlt := h.1.2.1
  have hkt := h.2.2.2.2.2.2.2.2.1
  refine ⟨⟨h1, by simpa using h2, h0⟩, ⟨v, heap_setCell_same W1 ba 2 _ _ v h3, ?_⟩, h5, by simpa using h6, h7, (heap_setCell_other W1 ⟨ba, 2, none⟩ br v (by show br ≠ ba; omega)).trans h8, k1, k2, by simpa using k3, (heap_setCell_other W1 ⟨ba, 2, none⟩ kt v k1).trans k4⟩
  exact hv.keep (by simp) fun k e hk => ⟨⟨by omega, by omega, by omega⟩, heap_setCell_other W1 ⟨ba, 2, none⟩ k v (by show k ≠ ba; omega)⟩
set_option maxRecDepth 100000 in
theorem pdecl1_any {n b e N br ba kt : Nat} {ko : Obj} {nm : List UInt8} {ba_ : Bool} {w0 W : World} {L : List Wd} {zs : List _} (hG : DeG N b br ba kt ko nm ba_ W zs) (hO : Only N b w0 W) (h : Rp n W b L e) (hn : n ≤ N) :
    Calls Tryz.prog 76 #[.pointer (some ⟨br, 0, none⟩), .pointer (some ⟨ba, 0, none⟩)] W (InEnd (sepL (isM [44]) kindR) n b e N (DeG N b br ba kt ko nm ba_) w0 L) := by
  have HG := Lib.hid hG
  have HO := Lib.hid hO
  have HR := Lib.hid h
  have hc : W.cell? ⟨br, 0, none⟩ = some (rdp b) := cell_of_row W br 0 _ _ (0, 0) hG.2.2.2.2.2.1
  clear hG hO h
  go_enter Tryz.func76, Tryz.ntmps76
  go_wp2_with fail
  refine (plistTy_any HR.out).mono ?_
  rintro y w1 ⟨ht, ⟨a, L1, v, hp, hs, rfl, hv, hr⟩ | ⟨L1, hp, hs, rfl⟩⟩
  rotate_left
  · have HE := Lib.hid (And.intro ht (And.intro hp hs))
    clear ht hp hs
    go_wp2_with fail
    exact ⟨rfl, HO.out.on HE.out.1, .inr ⟨L1, HE.out.2.1, HE.out.2.2, rfl⟩⟩
  obtain ⟨pv, cv, rfl, -⟩ := id hv
  have HE := Lib.hid (And.intro ht (And.intro hp (And.intro hs (And.intro hv hr))))
  obtain ⟨-, ⟨u, h3, -⟩, -⟩ := HG.out.on ht
  have c1 : w1.cell? ⟨ba, 2, none⟩ = some u := cell_of_row w1 ba 2 _ _ (0, 0) h3
  have f1 : w1.frozen? ⟨ba, 2, none⟩ = false := frozen_of_row w1 ba 2 _ _ h3
  clear ht hp hs hv hr h3
  go_wp2_with fail
  obtain ⟨ht, hp, hs, hv, hr⟩ := HE.out
  exact bodyPost_end (results_none rfl _ _ _) rfl ⟨(HO.out.on ht).set HG.out.1.1 _ _, .inl ⟨a, L1, hp, hs, rfl, HG.out.put ht rfl hv, hr.set (Nat.le_trans hn HG.out.1.1) _ _⟩⟩
end
section
open Go Go.RowKit Go.Shelf

set_option maxRecDepth 100000 in
set_option maxHeartbeats 2000000 in
theorem plistPa_any {W : World} {n b e : Nat} {L : List Wd} (h : Rp n W b L e) : Calls Tryz.prog 80 #[rdp b, .func (.func 81) #[rdp b] #[]] W (PEnd (sepL (isM [44]) paramR) (rowT paY) n b e L W) := by
  have HR := Lib.hid h
  have HEat := Lib.hid (fit_param.eats)
  have hnW := h.below_
  have hbn := h.at_
  clear h
  go_enter Tryz.func80, Tryz.ntmps80
  go_wp2_with fail
  refine (pparam_any HR.out).mono ?_
  rintro y w1 ⟨ht, ⟨a, L1, v, hp, hs, rfl, hv, hr⟩ | ⟨L1, hp, hs, rfl⟩⟩
  rotate_left
  · have HE := Lib.hid (And.intro ht (And.intro hp hs))
    clear ht hp hs
    go_wp2_with fail
    exact ⟨rfl, HE.out.1, .inr ⟨L1, sep_bad HEat.out HE.out.2.1, HE.out.2.2, rfl⟩⟩
  obtain rfl : v = .agg #[.string ⟨a.1.toArray⟩, .int .i64 a.2] := hv
  have HJ0 : Hid (LsJ (isM [44]) paramR paY 116 n b e L W (.slice (some ⟨w1.heap.size, 0, none⟩) 1 1) [a] L1 (w1.alloc (.cells #[.string ⟨a.1.toArray⟩, .int .i64 a.2] 116))) := Lib.hid
    ⟨RowOwn.lit (us := [.string ⟨a.1.toArray⟩, .int .i64 a.2]) ht.size rfl, hr.alloc _, ((Only.refl b W).on ht).alloc _, hs, sep_first HEat.out hp, by have := eats_len HEat.out hp; simp; omega⟩
  clear ht hp hs hr
  go_wp2_with fail
  go_loopw [5] (fun v wr => ∃ zs L2, Hid (LsJ (isM [44]) paramR paY 116 n b e L W v zs L2 wr)) (fun _ wr => leftW wr b)
  case atStart => exact ⟨_, _, HJ0⟩
  case round =>
    obtain ⟨zs, L2, HJ⟩ := hrel
    go_wp2_with fail
    refine (pmay_any [44] (by decide) HJ.out.rd).mono ?_
    rintro y w2 ⟨ht, ⟨x, L3, rfl, hx, rfl, hr⟩ | ⟨hx, rfl, hr⟩⟩
    · have HE := Lib.hid (And.intro ht (And.intro hr hx))
      clear ht hr hx
      go_wp2_with fail
      refine (pparam_any HE.out.2.1).mono ?_
      rintro y w3 ⟨ht, ⟨a, L4, v1, hp, hs, rfl, hv, hr⟩ | ⟨L4, hp, hs, rfl⟩⟩
      rotate_left
      · have HE4 := Lib.hid (And.intro ht (And.intro hp hs))
        clear ht hp hs
        go_wp2_with fail
        have hq : nxt (isM [44]) (keys (x :: L3)) = true := by rw [nxt_mark HJ.out.rd.tidy rfl]; simp [txt, HE.out.2.2]
        exact ⟨rfl, Only.turned ((HJ.out.only.on HE.out.1).on HE4.out.1), .inr ⟨L4, HJ.out.eq.trans (cont_bad HEat.out hq HE4.out.2.1), HE4.out.2.2.trans ((List.suffix_cons x L3).trans HJ.out.suf), rfl⟩⟩
      obtain rfl : v1 = .agg #[.string ⟨a.1.toArray⟩, .int .i64 a.2] := hv
      have HW := Lib.hid (And.intro ht (And.intro hp (And.intro hs hr)))
      clear ht hp hs hr
      have hlenA : zs.length ≤ 1000000 := by have := HJ.out.len; have := HR.out.len; simp at *; omega
      have hsz3 : W.heap.size ≤ w3.heap.size := Nat.le_trans HJ.out.only.size (Nat.le_trans HE.out.1.size HW.out.1.size)
      have HOw : Hid (RowOwn paY 116 W.heap.size (w3.alloc (.cells #[.string ⟨a.1.toArray⟩, .int .i64 a.2] 116)) u5 zs) := Lib.hid (((HJ.out.own.turned HE.out.1 (fun k hB _ e => by omega)).turned HW.out.1 (fun k hB _ e => by omega)).keep (by simp) fun k _ hk => Below.heap_alloc _ _ _ hk)
      have HIs : Hid (paY.is (fun k => W.heap.size ≤ k ∧ u5.ownBlock ≠ some k) (w3.alloc (.cells #[.string ⟨a.1.toArray⟩, .int .i64 a.2] 116)) [.string ⟨a.1.toArray⟩, .int .i64 a.2] a) := Lib.hid rfl
      have hsz3' : W.heap.size ≤ (w3.alloc (.cells #[.string ⟨a.1.toArray⟩, .int .i64 a.2] 116)).heap.size := by simp; omega
      have HCl : Hid (∀ j u', ([.string ⟨a.1.toArray⟩, .int .i64 a.2] : List Value)[j]? = some u' → (w3.alloc (.cells #[.string ⟨a.1.toArray⟩, .int .i64 a.2] 116)).cell? ⟨w3.heap.size, 0 + j, none⟩ = some u') := Lib.hid (lit_rowcells w3 [.string ⟨a.1.toArray⟩, .int .i64 a.2] _)
      go_wp2_with (at_builtin; refine wpList_appY paY rfl (.tmp 13) (.tmp 16) 69 116 rfl W.heap.size (.agg #[.string ⟨#[]⟩, .int .i64 0]) 24 Tryz.underlying69 Tryz.infoPa rfl (by decide) (by decide) u5 zs a [.string ⟨a.1.toArray⟩, .int .i64 a.2] w3.heap.size 1 rfl rfl HOw.out HIs.out HCl.out hlenA hsz3' ?_; intro v2 w4 ho hg hv2; have HN := Lib.hid (And.intro ho hg); clear ho hg hv2)
      go_roundw
      case rel =>
        obtain ⟨ho, hg⟩ := HN.out
        obtain ⟨ht, hp, hs, hr⟩ := HW.out
        have hq : nxt (isM [44]) (keys (x :: L3)) = true := by rw [nxt_mark HJ.out.rd.tidy rfl]; simp [txt, HE.out.2.2]
        have htg := Turned.of_grown hg
        have hlo : ∀ k, u5.ownBlock = some k → W.heap.size ≤ k := fun k e => (HJ.out.own.lt k e).1
        refine ⟨zs ++ [a], L4, Lib.hid ⟨ho, (hr.alloc _).turned htg fun k e => by have := hlo k e; omega, (((HJ.out.only.on HE.out.1).on ht).alloc _).call htg fun k e => .inr (hlo k e), hs.trans ((List.suffix_cons x L3).trans HJ.out.suf), HJ.out.eq.trans (cont_next HEat.out hq hp), ?_⟩⟩
        have h1 := eats_len HEat.out hp
        have h2 := HJ.out.len
        simp at h2 ⊢
        omega
      case measure =>
        obtain ⟨ho, hg⟩ := HN.out
        obtain ⟨ht, hp, hs, hr⟩ := HW.out
        have htg := Turned.of_grown hg
        have hlo : ∀ k, u5.ownBlock = some k → W.heap.size ≤ k := fun k e => (HJ.out.own.lt k e).1
        have h3 := ((hr.alloc (.cells #[.string ⟨a.1.toArray⟩, .int .i64 a.2] 116)).turned htg fun k e => by have := hlo k e; omega).left
        rw [h3, HJ.out.rd.left]
        have h1 := eats_len HEat.out hp
        simp
        omega
    · have HE := Lib.hid (And.intro ht (And.intro hr hx))
      clear ht hr hx
      go_wp2_with fail
      go_ret
      have hq : nxt (isM [44]) (keys L2) = false := by rw [nxt_mark HJ.out.rd.tidy rfl]; simpa using HE.out.2.2
      exact ⟨Only.turned (HJ.out.only.on HE.out.1), .inl ⟨zs, L2, u5, HJ.out.eq.trans (cont_end hq), HJ.out.suf, rfl, (HJ.out.own.turned HE.out.1 (fun k hB _ e => by omega)).in_, HE.out.2.1⟩⟩
end
section
open Go Go.RowKit Go.Shelf

def OnG (N b br ba kt : Nat) (ko : Obj) (nm : List UInt8) (W : World) (zs : List (List UInt8 × Int)) : Prop :=
  (N ≤ ba ∧ ba < W.heap.size ∧ b < N) ∧ (∃ u, W.heap[ba]? = some (.cells #[.string ⟨nm.toArray⟩, u, .slice none 0 0] 72 (0, 0)) ∧ RowIn paY (fun k => N ≤ k ∧ k ≠ ba ∧ k ≠ kt) W u zs) ∧ N ≤ br ∧ br < W.heap.size ∧ br ≠ ba ∧ W.heap[br]? = some (.cells #[rdp b] 56 (0, 0)) ∧ (kt ≠ ba ∧ kt ≠ b ∧ kt < W.heap.size ∧ W.heap[kt]? = some ko)
theorem OnG.on {N b br ba kt : Nat} {ko : Obj} {nm : List UInt8} {W W' : World} {zs : List (List UInt8 × Int)} (h : OnG N b br ba kt ko nm W zs) (ht : Turned (fun k => k = b) W W') : OnG N b br ba kt ko nm W' zs := by
  obtain ⟨⟨h1, h2, h0⟩, ⟨u, h3, h4⟩, h5, h6, h7, h8, k1, k2, k3, k4⟩ := h
  exact ⟨⟨h1, Nat.lt_of_lt_of_le h2 ht.size, h0⟩, ⟨u, (ht.block ba h2 (by omega)).trans h3, h4.turned ht fun k e e2 => by omega⟩, h5, Nat.lt_of_lt_of_le h6 ht.size, h7, (ht.block br h6 (by omega)).trans h8, k1, k2, Nat.lt_of_lt_of_le k3 ht.size, (ht.block kt k3 k2).trans k4⟩
theorem OnG.put {N b br ba kt n0 : Nat} {ko : Obj} {nm : List UInt8} {W W1 : World} {zs zs' : List _} {v : Value} (h : OnG N b br ba kt ko nm W zs) (ht : Turned (fun k => k = b) W W1) (hn : n0 = W.heap.size) (hv : RowIn paY (fun k => n0 ≤ k) W1 v zs') : OnG N b br ba kt ko nm (W1.setCell ⟨ba, 1, none⟩ v) zs' := by
  obtain ⟨⟨h1, h2, h0⟩, ⟨u, h3, h4⟩, h5, h6, h7, h8, k1, k2, k3, k4⟩ := h.on ht
  have hlt := h.1.2.1
  have hkt := h.2.2.2.2.2.2.2.2.1
  refine ⟨⟨h1, by simpa using h2, h0⟩, ⟨v, heap_setCell_same W1 ba 1 _ _ v h3, ?_⟩, h5, by simpa using h6, h7, (heap_setCell_other W1 ⟨ba, 1, none⟩ br v (by show br ≠ ba; omega)).trans h8, k1, k2, by simpa using k3, (heap_setCell_other W1 ⟨ba, 1, none⟩ kt v k1).trans k4⟩
  exact hv.keep (by simp) fun k e hk => ⟨⟨by omega, by omega, by omega⟩, heap_setCell_other W1 ⟨ba, 1, none⟩ k v (by show k ≠ ba; omega)⟩
set_option maxRecDepth 100000 in
theorem pon1_any {n b e N br ba kt : Nat} {ko : Obj} {nm : List UInt8} {w0 W : World} {L : List Wd} {zs : List _} (hG : OnG N b br ba kt ko nm W zs) (hO : Only N b w0 W) (h : Rp n W b L e) (hn : n ≤ N) :
    Calls Tryz.prog 79 #[.pointer (some ⟨br, 0, none⟩), .pointer (some ⟨ba, 0, none⟩)] W (InEnd (sepL (isM [44]) paramR) n b e N (OnG N b br ba kt ko nm) w0 L) := by
  have HG := Lib.hid hG
  have HO := Lib.hid hO
  have HR := Lib.hid h
  have hc : W.cell? ⟨br, 0, none⟩ = some (rdp b) := cell_of_row W br 0 _ _ (0, 0) hG.2.2.2.2.2.1
  clear hG hO h
  go_enter Tryz.func79, Tryz.ntmps79
  go_wp2_with fail
  refine (plistPa_any HR.out).mono ?_
  rintro y w1 ⟨ht, ⟨a, L1, v, hp, hs, rfl, hv, hr⟩ | ⟨L1, hp, hs, rfl⟩⟩
  rotate_left
  · have HE := Lib.hid (And.intro ht (And.intro hp hs))
    clear ht hp hs
    go_wp2_with fail
    exact ⟨rfl, HO.out.on HE.out.1, .inr ⟨L1, HE.out.2.1, HE.out.2.2, rfl⟩⟩
  obtain ⟨pv, cv, rfl, -⟩ := id hv
  have HE := Lib.hid (And.intro ht (And.intro hp (And.intro hs (And.intro hv hr))))
  obtain ⟨-, ⟨u, h3, -⟩, -⟩ := HG.out.on ht
  have c1 : w1.cell? ⟨ba, 1, none⟩ = some u := cell_of_row w1 ba 1 _ _ (0, 0) h3
  have f1 : w1.frozen? ⟨ba, 1, none⟩ = false := frozen_of_row w1 ba 1 _ _ h3
  clear ht hp hs hv hr h3
  go_wp2_with fail
  obtain ⟨ht, hp, hs, hv, hr⟩ := HE.out
  exact bodyPost_end (results_none rfl _ _ _) rfl ⟨(HO.out.on ht).set HG.out.1.1 _ _, .inl ⟨a, L1, hp, hs, rfl, HG.out.put ht rfl hv, hr.set (Nat.le_trans hn HG.out.1.1) _ _⟩⟩
end
section
open Go Go.RowKit Go.Shelf

abbrev zA : Obj := .cells #[.string ⟨#[]⟩, .slice none 0 0] 38
theorem atomR_eq : atomR = bindR nameR fun nm => bindR (encR (sepL (isM [44]) termR)) fun zs => pureR ⟨nm, zs⟩ := by
  funext l
  unfold atomR encR rowR bindR
  simp only
  cases nameR l with
  | bad r => rfl
  | ok nm r =>
    simp only [Rs.bind]
    cases markR [40] r with
    | bad r => rfl
    | ok u r =>
      cases altR (isM [41]) (pureR []) (sepL (isM [44]) termR) r with
      | bad r => rfl
      | ok zs r =>
        cases markR [41] r <;> rfl
set_option maxRecDepth 100000 in
set_option maxHeartbeats 2000000 in
theorem patom_any {W : World} {n b e : Nat} {L : List Wd} (h : Rp n W b L e) : Calls Tryz.prog 34 #[rdp b] W (PEnd atomR atT n b e L W) := by
  have HR := Lib.hid h
  have hnW := h.below_
  have hlt := h.lt
  clear h
  go_enter Tryz.func34, Tryz.ntmps34
  go_wp2_with fail
  refine (pname_any ((HR.out.alloc (.cells #[rdp b] 56)).alloc zA)).mono ?_
  rintro y w1 ⟨ht, ⟨nm, L1, v, hp, hs, rfl, hv, hr⟩ | ⟨L1, hp, hs, rfl⟩⟩
  rotate_left
  · have HE := Lib.hid (And.intro ht (And.intro hp hs))
    clear ht hp hs
    go_wp2_with fail
    exact ⟨rfl, Only.turned ((((Only.refl b W).alloc _).alloc _).on HE.out.1), .inr ⟨L1, by rw [atomR_eq]; exact bind_bad HE.out.2.1, HE.out.2.2, rfl⟩⟩
  obtain rfl : v = .string ⟨nm.toArray⟩ := hv
  have hz : W.heap.size + 2 ≤ w1.heap.size := by have := ht.size; simp at this; omega
  have hr0 : w1.heap[W.heap.size]? = some (.cells #[rdp b] 56 (0, 0)) := (ht.block _ (by simp; omega) (by omega)).trans (two_new W _ zA).1
  have hr1 : w1.heap[W.heap.size + 1]? = some zA := (ht.block _ (by simp) (by omega)).trans (two_new W (.cells #[rdp b] 56) zA).2
  have c0 : w1.cell? ⟨W.heap.size, 0, none⟩ = some (rdp b) := cell_of_row w1 _ 0 _ _ (0, 0) hr0
  have hz0 : W.heap.size < w1.heap.size := by omega
  have HO1 : Hid (Only W.heap.size b W (w1.alloc (.cells #[.string ⟨nm.toArray⟩, .slice none 0 0] 38))) := Lib.hid (((((Only.refl b W).alloc _).alloc _).on ht).alloc _)
  have HR1 := Lib.hid (hr.alloc (.cells #[.string ⟨nm.toArray⟩, .slice none 0 0] 38))
  have HP := Lib.hid (And.intro hp hs)
  have HG : Hid (AtG W.heap.size b W.heap.size w1.heap.size (W.heap.size + 1) zA nm (w1.alloc (.cells #[.string ⟨nm.toArray⟩, .slice none 0 0] 38)) []) := Lib.hid
    ⟨⟨by omega, by simp, hlt⟩, ⟨.slice none 0 0, heap_alloc_new _ _, RowIn.nil _ _ _⟩, Nat.le_refl _, by simp; omega, by omega, (Below.heap_alloc _ _ _ hz0).trans hr0, by omega, by omega, by simp; omega, (Below.heap_alloc _ _ _ (by omega)).trans hr1⟩
  clear ht hp hs hr hr0 hr1
  go_wp2_with fail
  refine (penclosed_any (sepL (isM [44]) termR) 66 #[.pointer (some ⟨W.heap.size, 0, none⟩), .pointer (some ⟨w1.heap.size, 0, none⟩)] (fun _ _ => by kernel_rfl) HR1.out HO1.out HG.out (fun _ _ _ h ht => h.on ht) (fun _ _ ho hg hr => patom1_any hg ho hr hnW)).mono ?_
  rintro y w2 ⟨ho, ⟨zs, L2, hp, hs, rfl, hg, hr⟩ | ⟨L2, hp, hs, rfl⟩⟩
  · have HE := Lib.hid (And.intro ho (And.intro hp (And.intro hs hr)))
    obtain ⟨⟨g1, g2, -⟩, ⟨u, g3, g4⟩, -, -, -, -, -, -, k3, k4⟩ := hg
    obtain ⟨⟨a0, a1⟩, -⟩ := cells2 g3
    obtain ⟨⟨q0, q1⟩, f0, f1⟩ := cells2 k4
    have HK := Lib.hid k4
    have HV := Lib.hid g4
    obtain ⟨pu, cu, rfl, -⟩ := id g4
    clear ho hp hs hr g3 g4 k4 c0
    go_wp2_with fail
    refine bodyPost_ret (results_cell_row (fn := Tryz.f34) (by rfl) _ _ _ _ _ _ _ (by rfl) (row2_set HK.out) Tryz.underlying38 (by rfl) (by kernel_rfl)) (by rfl) ?_
    obtain ⟨ho, hp, hs, hr⟩ := HE.out
    refine ⟨Only.turned ((ho.set (Nat.le_succ _) _ _).set (Nat.le_succ _) _ _), .inl ⟨⟨nm, zs⟩, L2, _, ?_, hs.trans HP.out.2, rfl, ⟨_, rfl, ?_⟩, (hr.set (by omega) _ _).set (by omega) _ _⟩⟩
    · rw [atomR_eq]
      exact (bind_ok HP.out.1).trans ((bind_ok hp).trans rfl)
    · exact HV.out.keep (by simp) fun k e hk => ⟨e.1, (heap_setCell_other _ ⟨W.heap.size + 1, 1, none⟩ k _ (by show k ≠ W.heap.size + 1; omega)).trans (heap_setCell_other _ ⟨W.heap.size + 1, 0, none⟩ k _ (by show k ≠ W.heap.size + 1; omega))⟩
  · have HE := Lib.hid (And.intro ho (And.intro hp hs))
    clear ho hp hs
    go_wp2_with fail
    exact ⟨rfl, Only.turned HE.out.1, .inr ⟨L2, by rw [atomR_eq]; exact (bind_ok HP.out.1).trans (bind_bad HE.out.2.1), HE.out.2.2.trans HP.out.2, rfl⟩⟩
end
end Go.Proofs.YtnbaemfkpfmheaaGreatDoor
