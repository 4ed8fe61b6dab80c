/-
  The program's reader: decl.
  The program's reader: on.
  Rows of the call's own beside one another: each in blocks of its own zone; clauses, and what a program is made of.
-/
import Derived.Test.YtnbaemfkpfmheaaGreatDoorG04
namespace Go.Proofs.YtnbaemfkpfmheaaGreatDoor
section
open Go Go.RowKit Go.Shelf

abbrev zDe : Obj := .cells #[.string ⟨#[]⟩, .bool false, .slice none 0 0] 67
abbrev bvO : Obj := .cells #[.string ⟨#[98, 97, 115, 101]⟩, .string ⟨#[118, 105, 101, 119]⟩] 9
abbrev brO (b : Nat) : Obj := .cells #[rdp b] 56
def deT (S : Nat → Prop) (w : World) (v : Value) (d : DeL) : Prop := ∃ u, v = .agg #[.string ⟨d.name.toArray⟩, .bool d.base, u] ∧ RowIn tyY S w u d.types
theorem bindR_assoc {α β γ : Type} (p : Rd α) (f : α → Rd β) (g : β → Rd γ) : bindR (bindR p f) g = bindR p fun a => bindR (f a) g := by
  funext l
  unfold bindR
  cases p l <;> rfl
theorem bindR_pure {α β : Type} (a : α) (f : α → Rd β) : bindR (pureR a) f = f a := rfl
theorem declR_eq (base : Bool) : declR base = bindR (tok1 fun _ => true) fun _ => bindR nameR fun nm => bindR (encR (sepL (isM [44]) kindR)) fun ts => bindR (markR [46]) fun _ => pureR ⟨base, nm, ts⟩ := by
  unfold declR encR rowR
  simp only [bindR_assoc, bindR_pure]
theorem which_at {S : List (List UInt8)} {n b e : Nat} {x : Wd} {L : List Wd} {W w' : World} {y : Ending} (K : Int) (h : WhEnd S n b e (x :: L) W y w') (hk : textAt S x.text 0 = K) (h0 : 0 ≤ K) : Turned (fun k => k = b) W w' ∧ Rp n w' b L e ∧ y = .returned (.int .i64 K) := by
  obtain ⟨ht, ⟨x', L', hL, -, rfl, hr⟩ | ⟨h1, -⟩⟩ := h
  · injection hL with e1 e2
    subst e1
    subst e2
    exact ⟨ht, hr, by rw [hk]⟩
  · have h2 : textAt S (txt (x :: L)) 0 = K := hk
    omega
/-- What the first region of a declaration holds: the reader, the boxes, and the new box where it is laid. -/
structure DSt (n b e : Nat) (W : World) (L : List Wd) (box : Option Nat) (X : World) : Prop where
  rd : Rp n X b L e
  only : Only W.heap.size b W X
  r0 : X.heap[W.heap.size]? = some (brO b)
  r2 : X.heap[W.heap.size + 1]? = some zDe
  sz : W.heap.size + 2 ≤ X.heap.size
  bx : ∀ ba, box = some ba → X.heap[ba]? = some zDe ∧ W.heap.size + 2 ≤ ba ∧ ba < X.heap.size
  lt : b < W.heap.size
theorem DSt.s {n b e : Nat} {W X : World} {L : List Wd} {box : Option Nat} (h : DSt n b e W L box X) : X.cell? ⟨W.heap.size, 0, none⟩ = some (rdp b) := cell_of_row X _ 0 _ _ (0, 0) h.r0
theorem DSt.on {n b e : Nat} {W X X' : World} {L L' : List Wd} {box : Option Nat} (h : DSt n b e W L box X) (ht : Turned (fun k => k = b) X X') (hr : Rp n X' b L' e) : DSt n b e W L' box X' := by
  have hb := h.lt
  have hs := h.sz
  exact ⟨hr, h.only.on ht, (ht.block _ (by omega) (by omega)).trans h.r0, (ht.block _ (by omega) (by omega)).trans h.r2, Nat.le_trans h.sz ht.size, fun ba e => ⟨(ht.block _ (h.bx ba e).2.2 (by have := (h.bx ba e).2.1; omega)).trans (h.bx ba e).1, (h.bx ba e).2.1, Nat.lt_of_lt_of_le (h.bx ba e).2.2 ht.size⟩, hb⟩
theorem DSt.alloc {n b e : Nat} {W X : World} {L : List Wd} {box : Option Nat} (h : DSt n b e W L box X) (o : Obj) : DSt n b e W L box (X.alloc o) := h.on (Turned.alloc _ X o) (h.rd.alloc o)
theorem DSt.box {n b e : Nat} {W X : World} {L : List Wd} (h : DSt n b e W L none X) (m : Nat) (hm : X.heap.size = m) : DSt n b e W L (some m) (X.alloc zDe) := by
  have h' := h.alloc zDe
  refine ⟨h'.rd, h'.only, h'.r0, h'.r2, h'.sz, fun ba e => ?_, h.lt⟩
  injection e with e
  subst e
  subst hm
  exact ⟨heap_alloc_new X zDe, h.sz, by simp⟩
theorem DSt.done {n b e : Nat} {W X : World} {L : List Wd} {ba : Nat} {box : Option Nat} {nm : List UInt8} {base : Bool} (h : DSt n b e W L box X) (hb : box = some ba) (hnW : n ≤ W.heap.size) : ∀ Y, Y = ((X.setCell ⟨ba, 0, none⟩ (.string ⟨nm.toArray⟩)).setCell ⟨ba, 1, none⟩ (.bool base)).setCell ⟨ba, 2, none⟩ (.slice none 0 0) →
    Y.cell? ⟨W.heap.size, 0, none⟩ = some (rdp b) ∧ Only W.heap.size b W Y ∧ Rp n Y b L e ∧ DeG W.heap.size b W.heap.size ba (W.heap.size + 1) zDe nm base Y [] := by
  rintro Y rfl
  obtain ⟨g1, g2, g3⟩ := h.bx ba hb
  have hs := h.sz
  have hl := h.lt
  have hn := h.rd.at_
  have hnle : n ≤ X.heap.size := h.rd.below_
  have q0 := (set3_off (w1 := X) (b := ba) (k := W.heap.size) (y0 := .string ⟨nm.toArray⟩) (y1 := .bool base) (y2 := .slice none 0 0) (by omega)).trans h.r0
  have q1 := (set3_off (w1 := X) (b := ba) (k := W.heap.size + 1) (y0 := .string ⟨nm.toArray⟩) (y1 := .bool base) (y2 := .slice none 0 0) (by omega)).trans h.r2
  have q2 := rowS3_set (y0 := .string ⟨nm.toArray⟩) (y1 := .bool base) (y2 := .slice none 0 0) g1
  refine ⟨cell_of_row _ _ 0 _ _ (0, 0) q0, ((h.only.set (by omega) _ _).set (by omega) _ _).set (by omega) _ _, ?_, ⟨⟨by omega, by simpa using g3, hl⟩, ⟨_, q2, RowIn.nil _ _ _⟩, Nat.le_refl _, by simp; omega, by omega, q0, by omega, by omega, by simp; omega, q1⟩⟩
  exact h.rd.turned (Z := fun k => k = ba) (((Turned.set X ba 0 _).trans (Turned.set _ ba 1 _) fun _ _ e => e).trans (Turned.set _ ba 2 _) fun _ _ e => e) fun k e => by omega
theorem DSt.cast {n b e : Nat} {W X Y : World} {L : List Wd} {box : Option Nat} (h : X = Y) (g : DSt n b e W L box Y) : DSt n b e W L box X := by
  rw [h]
  exact g
theorem TxsIn.cast {X Y : World} {v : Value} {S : List (List UInt8)} (h : X = Y) (g : TxsIn Y v S) : TxsIn X v S := by
  rw [h]
  exact g
theorem txs_at (X : World) (m : Nat) (hm : X.heap.size = m) : TxsIn (X.alloc bvO) (.slice (some ⟨m, 0, none⟩) 2 2) [wBase, wView] := by
  subst hm
  exact txs_new X [wBase, wView] (by simp) 2
theorem name_h {P : Program} {ops : Array Oper} {Q : Exit → Act → World → Prop} {md : Region.Mode} {S : World → Prop} {fuel : Nat} {listed : Array Bool} {a : Act} {W : World} (h : ∀ X, X = W → wpAnyH P md ops Q S fuel listed a X) : wpAnyH P md ops Q S fuel listed a W := h W rfl
set_option maxRecDepth 100000 in
set_option maxHeartbeats 8000000 in
theorem pdecl_any {W : World} {n b e : Nat} {x : Wd} {L : List Wd} (h : Rp n W b (x :: L) e) (hx : x.text = wBase ∨ x.text = wView) : Calls Tryz.prog 48 #[rdp b] W (PEnd (declR (x.text == wBase)) deT n b e (x :: L) W) := by
  have HR := Lib.hid h
  have hnW := h.below_
  have hlt := h.lt
  have mixed : Tryz.prog.follows .mixedOrders = true := by kernel_rfl
  have H0 : Hid (DSt n b e W (x :: L) none ((W.alloc (brO b)).alloc zDe).drew) := Lib.hid
    ⟨((h.alloc (brO b)).alloc zDe).drew, (((Only.refl b W).alloc (brO b)).alloc zDe).drew, (two_new W (brO b) zDe).1, (two_new W (brO b) zDe).2, by show W.heap.size + 2 ≤ ((W.alloc (brO b)).alloc zDe).heap.size; simp, fun _ e => (by cases e), hlt⟩
  have HTk := Lib.hid (show tok1 (fun _ => true) (keys (x :: L)) = .ok x.key (keys L) from tok1_yes rfl)
  obtain ⟨base, hbase⟩ : ∃ base, base = (x.text == wBase) := ⟨_, rfl⟩
  rw [← hbase]
  obtain ⟨KK, hKt, hK0, hKb⟩ : ∃ K : Int, textAt [wBase, wView] x.text 0 = K ∧ 0 ≤ K ∧ (K == 0) = base := by
    rw [textAt_two, hbase]
    rcases hx with e | e
    · exact ⟨0, by rw [e]; decide, by decide, by rw [e]; decide⟩
    · exact ⟨1, by rw [e]; decide, by decide, by rw [e]; decide⟩
  clear hbase hx h
  cases hnR : nameR (keys L) with
  | ok nm r =>
    have HNR := Lib.hid hnR
    clear hnR
    go_enter Tryz.func48, Tryz.ntmps48
    go_wp2_with fail
    refine wp_region_held_drew (S := fun X => X.cell? ⟨W.heap.size, 0, none⟩ = some (rdp b)) (by kernel_rfl) H0.out.s (fun _ => ?_)
    refine name_h fun Xr hXr => ?_
    replace H0 := Lib.hid (DSt.cast hXr H0.out)
    clear hXr
    refine take1 0 4 (v := ?_) rfl rfl (by kernel_rfl) (by kernel_rfl) (by kernel_rfl) (fun _ _ _ h => h) (by kernel_rfl) ?_ (H0.out.s) (by simp only [put_norm]; exact rfl) ?_
    rotate_left
    · rintro X0 s0; go_simp; try (with_reducible rfl)
    refine take1 1 5 (v := ?_) rfl rfl (by kernel_rfl) (by kernel_rfl) (by kernel_rfl) (fun _ _ _ h => h) (by kernel_rfl) ?_ (H0.out.s) (by simp only [put_norm]; exact rfl) ?_
    rotate_left
    · rintro X0 s0; go_simp; try (with_reducible rfl)
    refine take1 2 6 (v := ?_) rfl rfl (by kernel_rfl) (by kernel_rfl) (by kernel_rfl) (fun _ _ _ h => h) (by kernel_rfl) ?_ (H0.out.s) (by simp only [put_norm]; exact rfl) ?_
    rotate_left
    · rintro X0 s0; go_simp; try (with_reducible rfl)
    refine take1 6 10 (v := ?_) rfl rfl (by kernel_rfl) (by kernel_rfl) (by kernel_rfl) (fun _ _ _ h => h) (by kernel_rfl) ?_ (H0.out.s) (by simp only [put_norm]; exact rfl) ?_
    rotate_left
    · rintro X0 s0; go_simp; try (with_reducible rfl)
    refine wpAnyH_ready (rs := [3, 9]) (by kernel_rfl) (by simp) ?_
    refine AllReadyH.cons rfl (fun K hK => ?_) ?_
    · go_simp
      have H1a := Lib.hid (H0.out.alloc bvO)
      have HT1 := Lib.hid (txs_at Xr (Xr.heap.size) rfl)
      refine hK.out _ _ H1a.out.s (fun _ => ?_)
      clear hK K
      refine name_h fun X1 hX1 => ?_
      replace H1a := Lib.hid (DSt.cast hX1 H1a.out)
      replace HT1 := Lib.hid (TxsIn.cast hX1 HT1.out)
      clear hX1
      refine wpAnyH_ready (rs := [4, 9]) (by kernel_rfl) (by simp) ?_
      refine AllReadyH.cons rfl (fun K hK => ?_) ?_
      · go_simp
        refine (pwhich_any (S := [wBase, wView]) H1a.out.rd HT1.out (by decide)).mono ?_
        rintro y w1 hw
        obtain ⟨ht, hr, rfl⟩ := which_at KK hw hKt hK0
        have H2w := Lib.hid (H1a.out.on ht hr)
        clear hw ht hr
        go_wp2_with fail
        refine hK.out _ _ H2w.out.s (fun _ => ?_)
        clear hK K
        refine take1 5 9 (v := ?_) rfl rfl (by kernel_rfl) (by kernel_rfl) (by kernel_rfl) (fun _ _ _ h => h) (by kernel_rfl) ?_ (H2w.out.s) (by simp only [put_norm]; exact rfl) ?_
        rotate_left
        · rintro X0 s0; go_simp; try (with_reducible rfl)
        try simp only [hKb]
        refine wpAnyH_ready (rs := [7, 9]) (by kernel_rfl) (by simp) ?_
        refine AllReadyH.cons rfl (fun K hK => ?_) ?_
        · go_simp
          refine (pname_any H2w.out.rd).mono ?_
          rintro y w2 hn
          obtain ⟨ht2, L2, v, e2, hs2, rfl, hv2, hr2⟩ := PEnd.yes hn HNR.out
          obtain rfl : v = .string ⟨nm.toArray⟩ := hv2
          have H3n := Lib.hid (H2w.out.on ht2 hr2)
          have HL2 := Lib.hid (And.intro e2 hs2)
          clear hn ht2 e2 hs2 hr2
          go_wp2_with fail
          refine hK.out _ _ H3n.out.s (fun _ => ?_)
          clear hK K
          refine take1 8 12 (v := ?_) rfl rfl (by kernel_rfl) (by kernel_rfl) (by kernel_rfl) (fun _ _ _ h => h) (by kernel_rfl) ?_ (H3n.out.s) (by simp only [put_norm]; exact rfl) ?_
          rotate_left
          · rintro X0 s0; go_simp; try (with_reducible rfl)
          refine wpAnyH_ready (rs := [9]) (by kernel_rfl) (by simp) ?_
          refine AllReadyH.cons rfl (fun K hK => ?_) AllReadyH.nil
          go_simp
          have H4b := Lib.hid (H3n.out.box (w2.heap.size) rfl)
          refine hK.out _ _ H4b.out.s (fun _ => ?_)
          clear hK K
          refine name_h fun X4 hX4 => ?_
          replace H4b := Lib.hid (DSt.cast hX4 H4b.out)
          clear hX4
          obtain ⟨⟨e0, e1, e2⟩, j0, j1, j2⟩ := cells3 (H4b.out.bx _ rfl).1
          have HY := Lib.hid (H4b.out.done (nm := nm) (base := base) rfl hnW)
          refine wpAnyH_ready (rs := [10]) (by kernel_rfl) (by simp) ?_
          refine AllReadyH.cons rfl (fun K hK => ?_) AllReadyH.nil
          go_simp
          refine hK.out _ _ (HY.out _ rfl).1 (fun _ => ?_)
          clear hK K e0 e1 e2 j0 j1 j2
          refine wpAnyH_done (by kernel_rfl) ?_ _
          have x3 : _ := (HY.out _ rfl).1
          have HO3 := Lib.hid (HY.out _ rfl).2.1
          have HR3 := Lib.hid (HY.out _ rfl).2.2.1
          have HG3 := Lib.hid (HY.out _ rfl).2.2.2
          go_wp2_with fail
          refine (penclosed_any (sepL (isM [44]) kindR) 76 #[.pointer (some ⟨W.heap.size, 0, none⟩), .pointer (some ⟨w2.heap.size, 0, none⟩)] (fun _ _ => by kernel_rfl) HR3.out HO3.out HG3.out (fun _ _ _ h ht => h.on ht) (fun _ _ ho hg hr => pdecl1_any hg ho hr hnW)).mono ?_
          rintro y w5 ⟨ho, ⟨zs, L5, hp, hs, rfl, hg, hr⟩ | ⟨L5, hp, hs, rfl⟩⟩
          rotate_left
          · have HE5 := Lib.hid (And.intro ho (And.intro hp hs))
            clear ho hp hs
            go_wp2_with fail
            obtain ⟨ho, hp, hs⟩ := HE5.out
            exact ⟨rfl, Only.turned ho, .inr ⟨L5, by rw [declR_eq]; exact (bind_ok HTk.out).trans ((bind_ok (HNR.out.trans (by rw [HL2.out.1]))).trans (bind_bad hp)), hs.trans (HL2.out.2.trans (List.suffix_cons x L)), rfl⟩⟩
          have HE5 := Lib.hid (And.intro ho (And.intro hp (And.intro hs (And.intro hg hr))))
          have x5 : w5.cell? ⟨W.heap.size, 0, none⟩ = some (rdp b) := cell_of_row w5 _ 0 _ _ (0, 0) hg.2.2.2.2.2.1
          clear ho hp hs hg hr x3
          go_wp2_with fail
          refine (pmust_any [46] (by decide) HE5.out.2.2.2.2).mono ?_
          rintro y w6 ⟨ht, ⟨x6, L6, rfl, hx6, rfl, hr⟩ | ⟨hx6, rfl⟩⟩
          rotate_left
          · have HE6 := Lib.hid (And.intro ht hx6)
            clear ht hx6
            go_wp2_with fail
            obtain ⟨ho, hp, hs, hg, hr⟩ := HE5.out
            exact ⟨rfl, Only.turned (ho.on HE6.out.1), .inr ⟨L5, by rw [declR_eq]; exact (bind_ok HTk.out).trans ((bind_ok (HNR.out.trans (by rw [HL2.out.1]))).trans ((bind_ok hp).trans (bind_bad (mark_no hr.tidy rfl HE6.out.2)))), hs.trans (HL2.out.2.trans (List.suffix_cons x L)), rfl⟩⟩
          have HE6 := Lib.hid (And.intro ht (And.intro hr hx6))
          obtain ⟨⟨g1, g2, -⟩, ⟨u, g3, g4⟩, -, -, -, -, -, -, k3, k4⟩ := HE5.out.2.2.2.1.on ht
          obtain ⟨pu, cu, rfl, -⟩ := id g4
          obtain ⟨⟨d0, d1, d2⟩, m0, m1, m2⟩ := cells3 g3
          obtain ⟨⟨p0, p1, p2⟩, o0, o1, o2⟩ := cells3 k4
          have HK := Lib.hid k4
          have HV := Lib.hid g4
          clear ht hr hx6 g3 g4 k4 x5
          go_wp2_with fail
          refine bodyPost_ret (results_cell_row (fn := Tryz.f48) (by rfl) _ _ _ _ _ _ _ (by rfl) (rowS3_set HK.out) Tryz.underlying67 (by rfl) (by kernel_rfl)) (by rfl) ?_
          obtain ⟨ho, hp, hs, hg, hr5⟩ := HE5.out
          obtain ⟨ht, hr, hx6⟩ := HE6.out
          refine ⟨Only.turned ((((ho.on ht).set (Nat.le_succ _) _ _).set (Nat.le_succ _) _ _).set (Nat.le_succ _) _ _), .inl ⟨⟨base, nm, zs⟩, L6, _, ?_, (List.suffix_cons x6 L6).trans (hs.trans (HL2.out.2.trans (List.suffix_cons x L))), rfl, ⟨_, rfl, ?_⟩, ((hr.set (by omega) _ _).set (by omega) _ _).set (by omega) _ _⟩⟩
          · rw [declR_eq]
            exact (bind_ok HTk.out).trans ((bind_ok (HNR.out.trans (by rw [HL2.out.1]))).trans ((bind_ok hp).trans ((bind_ok (mark_yes (hr5.tidy x6 List.mem_cons_self) rfl hx6)).trans rfl)))
          · exact HV.out.keep (by simp) fun k e hk => ⟨e.1, set3_off e.2.2⟩
        refine AllReadyH.cons rfl (fun K hK => ?_) AllReadyH.nil
        go_simp
        have H3b := Lib.hid (H2w.out.box (w1.heap.size) rfl)
        refine hK.out _ _ H3b.out.s (fun _ => ?_)
        clear hK K
        refine name_h fun X3 hX3 => ?_
        replace H3b := Lib.hid (DSt.cast hX3 H3b.out)
        clear hX3
        refine wpAnyH_ready (rs := [7]) (by kernel_rfl) (by simp) ?_
        refine AllReadyH.cons rfl (fun K hK => ?_) AllReadyH.nil
        go_simp
        refine (pname_any H3b.out.rd).mono ?_
        rintro y w2 hn
        obtain ⟨ht2, L2, v, e2, hs2, rfl, hv2, hr2⟩ := PEnd.yes hn HNR.out
        obtain rfl : v = .string ⟨nm.toArray⟩ := hv2
        have H6n := Lib.hid (H3b.out.on ht2 hr2)
        have HL2 := Lib.hid (And.intro e2 hs2)
        clear hn ht2 e2 hs2 hr2
        go_wp2_with fail
        refine hK.out _ _ H6n.out.s (fun _ => ?_)
        clear hK K
        refine take1 8 12 (v := ?_) rfl rfl (by kernel_rfl) (by kernel_rfl) (by kernel_rfl) (fun _ _ _ h => h) (by kernel_rfl) ?_ (H6n.out.s) (by simp only [put_norm]; exact rfl) ?_
        rotate_left
        · rintro X0 s0; go_simp; try (with_reducible rfl)
        obtain ⟨⟨e0, e1, e2⟩, j0, j1, j2⟩ := cells3 (H6n.out.bx _ rfl).1
        have HY := Lib.hid (H6n.out.done (nm := nm) (base := base) rfl hnW)
        refine wpAnyH_ready (rs := [10]) (by kernel_rfl) (by simp) ?_
        refine AllReadyH.cons rfl (fun K hK => ?_) AllReadyH.nil
        go_simp
        refine hK.out _ _ (HY.out _ rfl).1 (fun _ => ?_)
        clear hK K e0 e1 e2 j0 j1 j2
        refine wpAnyH_done (by kernel_rfl) ?_ _
        have x3 : _ := (HY.out _ rfl).1
        have HO3 := Lib.hid (HY.out _ rfl).2.1
        have HR3 := Lib.hid (HY.out _ rfl).2.2.1
        have HG3 := Lib.hid (HY.out _ rfl).2.2.2
        go_wp2_with fail
        refine (penclosed_any (sepL (isM [44]) kindR) 76 #[.pointer (some ⟨W.heap.size, 0, none⟩), .pointer (some ⟨w1.heap.size, 0, none⟩)] (fun _ _ => by kernel_rfl) HR3.out HO3.out HG3.out (fun _ _ _ h ht => h.on ht) (fun _ _ ho hg hr => pdecl1_any hg ho hr hnW)).mono ?_
        rintro y w5 ⟨ho, ⟨zs, L5, hp, hs, rfl, hg, hr⟩ | ⟨L5, hp, hs, rfl⟩⟩
        rotate_left
        · have HE5 := Lib.hid (And.intro ho (And.intro hp hs))
          clear ho hp hs
          go_wp2_with fail
          obtain ⟨ho, hp, hs⟩ := HE5.out
          exact ⟨rfl, Only.turned ho, .inr ⟨L5, by rw [declR_eq]; exact (bind_ok HTk.out).trans ((bind_ok (HNR.out.trans (by rw [HL2.out.1]))).trans (bind_bad hp)), hs.trans (HL2.out.2.trans (List.suffix_cons x L)), rfl⟩⟩
        have HE5 := Lib.hid (And.intro ho (And.intro hp (And.intro hs (And.intro hg hr))))
        have x5 : w5.cell? ⟨W.heap.size, 0, none⟩ = some (rdp b) := cell_of_row w5 _ 0 _ _ (0, 0) hg.2.2.2.2.2.1
        clear ho hp hs hg hr x3
        go_wp2_with fail
        refine (pmust_any [46] (by decide) HE5.out.2.2.2.2).mono ?_
        rintro y w6 ⟨ht, ⟨x6, L6, rfl, hx6, rfl, hr⟩ | ⟨hx6, rfl⟩⟩
        rotate_left
        · have HE6 := Lib.hid (And.intro ht hx6)
          clear ht hx6
          go_wp2_with fail
          obtain ⟨ho, hp, hs, hg, hr⟩ := HE5.out
          exact ⟨rfl, Only.turned (ho.on HE6.out.1), .inr ⟨L5, by rw [declR_eq]; exact (bind_ok HTk.out).trans ((bind_ok (HNR.out.trans (by rw [HL2.out.1]))).trans ((bind_ok hp).trans (bind_bad (mark_no hr.tidy rfl HE6.out.2)))), hs.trans (HL2.out.2.trans (List.suffix_cons x L)), rfl⟩⟩
        have HE6 := Lib.hid (And.intro ht (And.intro hr hx6))
        obtain ⟨⟨g1, g2, -⟩, ⟨u, g3, g4⟩, -, -, -, -, -, -, k3, k4⟩ := HE5.out.2.2.2.1.on ht
        obtain ⟨pu, cu, rfl, -⟩ := id g4
        obtain ⟨⟨d0, d1, d2⟩, m0, m1, m2⟩ := cells3 g3
        obtain ⟨⟨p0, p1, p2⟩, o0, o1, o2⟩ := cells3 k4
        have HK := Lib.hid k4
        have HV := Lib.hid g4
        clear ht hr hx6 g3 g4 k4 x5
        go_wp2_with fail
        refine bodyPost_ret (results_cell_row (fn := Tryz.f48) (by rfl) _ _ _ _ _ _ _ (by rfl) (rowS3_set HK.out) Tryz.underlying67 (by rfl) (by kernel_rfl)) (by rfl) ?_
        obtain ⟨ho, hp, hs, hg, hr5⟩ := HE5.out
        obtain ⟨ht, hr, hx6⟩ := HE6.out
        refine ⟨Only.turned ((((ho.on ht).set (Nat.le_succ _) _ _).set (Nat.le_succ _) _ _).set (Nat.le_succ _) _ _), .inl ⟨⟨base, nm, zs⟩, L6, _, ?_, (List.suffix_cons x6 L6).trans (hs.trans (HL2.out.2.trans (List.suffix_cons x L))), rfl, ⟨_, rfl, ?_⟩, ((hr.set (by omega) _ _).set (by omega) _ _).set (by omega) _ _⟩⟩
        · rw [declR_eq]
          exact (bind_ok HTk.out).trans ((bind_ok (HNR.out.trans (by rw [HL2.out.1]))).trans ((bind_ok hp).trans ((bind_ok (mark_yes (hr5.tidy x6 List.mem_cons_self) rfl hx6)).trans rfl)))
        · exact HV.out.keep (by simp) fun k e hk => ⟨e.1, set3_off e.2.2⟩
      refine AllReadyH.cons rfl (fun K hK => ?_) AllReadyH.nil
      go_simp
      have H2b := Lib.hid (H1a.out.box (X1.heap.size) rfl)
      have HT2b := Lib.hid (TxsIn.keep HT1.out ((Below.refl _ _).alloc (Nat.le_refl _) zDe))
      refine hK.out _ _ H2b.out.s (fun _ => ?_)
      clear hK K
      refine name_h fun X2 hX2 => ?_
      replace H2b := Lib.hid (DSt.cast hX2 H2b.out)
      replace HT2b := Lib.hid (TxsIn.cast hX2 HT2b.out)
      clear hX2
      refine wpAnyH_ready (rs := [4]) (by kernel_rfl) (by simp) ?_
      refine AllReadyH.cons rfl (fun K hK => ?_) AllReadyH.nil
      go_simp
      refine (pwhich_any (S := [wBase, wView]) H2b.out.rd HT2b.out (by decide)).mono ?_
      rintro y w1 hw
      obtain ⟨ht, hr, rfl⟩ := which_at KK hw hKt hK0
      have H8w := Lib.hid (H2b.out.on ht hr)
      clear hw ht hr
      go_wp2_with fail
      refine hK.out _ _ H8w.out.s (fun _ => ?_)
      clear hK K
      refine take1 5 9 (v := ?_) rfl rfl (by kernel_rfl) (by kernel_rfl) (by kernel_rfl) (fun _ _ _ h => h) (by kernel_rfl) ?_ (H8w.out.s) (by simp only [put_norm]; exact rfl) ?_
      rotate_left
      · rintro X0 s0; go_simp; try (with_reducible rfl)
      try simp only [hKb]
      refine wpAnyH_ready (rs := [7]) (by kernel_rfl) (by simp) ?_
      refine AllReadyH.cons rfl (fun K hK => ?_) AllReadyH.nil
      go_simp
      refine (pname_any H8w.out.rd).mono ?_
      rintro y w2 hn
      obtain ⟨ht2, L2, v, e2, hs2, rfl, hv2, hr2⟩ := PEnd.yes hn HNR.out
      obtain rfl : v = .string ⟨nm.toArray⟩ := hv2
      have H9n := Lib.hid (H8w.out.on ht2 hr2)
      have HL2 := Lib.hid (And.intro e2 hs2)
      clear hn ht2 e2 hs2 hr2
      go_wp2_with fail
      refine hK.out _ _ H9n.out.s (fun _ => ?_)
      clear hK K
      refine take1 8 12 (v := ?_) rfl rfl (by kernel_rfl) (by kernel_rfl) (by kernel_rfl) (fun _ _ _ h => h) (by kernel_rfl) ?_ (H9n.out.s) (by simp only [put_norm]; exact rfl) ?_
      rotate_left
      · rintro X0 s0; go_simp; try (with_reducible rfl)
      obtain ⟨⟨e0, e1, e2⟩, j0, j1, j2⟩ := cells3 (H9n.out.bx _ rfl).1
      have HY := Lib.hid (H9n.out.done (nm := nm) (base := base) rfl hnW)
      refine wpAnyH_ready (rs := [10]) (by kernel_rfl) (by simp) ?_
      refine AllReadyH.cons rfl (fun K hK => ?_) AllReadyH.nil
      go_simp
      refine hK.out _ _ (HY.out _ rfl).1 (fun _ => ?_)
      clear hK K e0 e1 e2 j0 j1 j2
      refine wpAnyH_done (by kernel_rfl) ?_ _
      have x3 : _ := (HY.out _ rfl).1
      have HO3 := Lib.hid (HY.out _ rfl).2.1
      have HR3 := Lib.hid (HY.out _ rfl).2.2.1
      have HG3 := Lib.hid (HY.out _ rfl).2.2.2
      go_wp2_with fail
      refine (penclosed_any (sepL (isM [44]) kindR) 76 #[.pointer (some ⟨W.heap.size, 0, none⟩), .pointer (some ⟨X1.heap.size, 0, none⟩)] (fun _ _ => by kernel_rfl) HR3.out HO3.out HG3.out (fun _ _ _ h ht => h.on ht) (fun _ _ ho hg hr => pdecl1_any hg ho hr hnW)).mono ?_
      rintro y w5 ⟨ho, ⟨zs, L5, hp, hs, rfl, hg, hr⟩ | ⟨L5, hp, hs, rfl⟩⟩
      rotate_left
      · have HE5 := Lib.hid (And.intro ho (And.intro hp hs))
        clear ho hp hs
        go_wp2_with fail
        obtain ⟨ho, hp, hs⟩ := HE5.out
        exact ⟨rfl, Only.turned ho, .inr ⟨L5, by rw [declR_eq]; exact (bind_ok HTk.out).trans ((bind_ok (HNR.out.trans (by rw [HL2.out.1]))).trans (bind_bad hp)), hs.trans (HL2.out.2.trans (List.suffix_cons x L)), rfl⟩⟩
      have HE5 := Lib.hid (And.intro ho (And.intro hp (And.intro hs (And.intro hg hr))))
      have x5 : w5.cell? ⟨W.heap.size, 0, none⟩ = some (rdp b) := cell_of_row w5 _ 0 _ _ (0, 0) hg.2.2.2.2.2.1
      clear ho hp hs hg hr x3
      go_wp2_with fail
      refine (pmust_any [46] (by decide) HE5.out.2.2.2.2).mono ?_
      rintro y w6 ⟨ht, ⟨x6, L6, rfl, hx6, rfl, hr⟩ | ⟨hx6, rfl⟩⟩
      rotate_left
      · have HE6 := Lib.hid (And.intro ht hx6)
        clear ht hx6
        go_wp2_with fail
        obtain ⟨ho, hp, hs, hg, hr⟩ := HE5.out
        exact ⟨rfl, Only.turned (ho.on HE6.out.1), .inr ⟨L5, by rw [declR_eq]; exact (bind_ok HTk.out).trans ((bind_ok (HNR.out.trans (by rw [HL2.out.1]))).trans ((bind_ok hp).trans (bind_bad (mark_no hr.tidy rfl HE6.out.2)))), hs.trans (HL2.out.2.trans (List.suffix_cons x L)), rfl⟩⟩
      have HE6 := Lib.hid (And.intro ht (And.intro hr hx6))
      obtain ⟨⟨g1, g2, -⟩, ⟨u, g3, g4⟩, -, -, -, -, -, -, k3, k4⟩ := HE5.out.2.2.2.1.on ht
      obtain ⟨pu, cu, rfl, -⟩ := id g4
      obtain ⟨⟨d0, d1, d2⟩, m0, m1, m2⟩ := cells3 g3
      obtain ⟨⟨p0, p1, p2⟩, o0, o1, o2⟩ := cells3 k4
      have HK := Lib.hid k4
      have HV := Lib.hid g4
      clear ht hr hx6 g3 g4 k4 x5
      go_wp2_with fail
      refine bodyPost_ret (results_cell_row (fn := Tryz.f48) (by rfl) _ _ _ _ _ _ _ (by rfl) (rowS3_set HK.out) Tryz.underlying67 (by rfl) (by kernel_rfl)) (by rfl) ?_
      obtain ⟨ho, hp, hs, hg, hr5⟩ := HE5.out
      obtain ⟨ht, hr, hx6⟩ := HE6.out
      refine ⟨Only.turned ((((ho.on ht).set (Nat.le_succ _) _ _).set (Nat.le_succ _) _ _).set (Nat.le_succ _) _ _), .inl ⟨⟨base, nm, zs⟩, L6, _, ?_, (List.suffix_cons x6 L6).trans (hs.trans (HL2.out.2.trans (List.suffix_cons x L))), rfl, ⟨_, rfl, ?_⟩, ((hr.set (by omega) _ _).set (by omega) _ _).set (by omega) _ _⟩⟩
      · rw [declR_eq]
        exact (bind_ok HTk.out).trans ((bind_ok (HNR.out.trans (by rw [HL2.out.1]))).trans ((bind_ok hp).trans ((bind_ok (mark_yes (hr5.tidy x6 List.mem_cons_self) rfl hx6)).trans rfl)))
      · exact HV.out.keep (by simp) fun k e hk => ⟨e.1, set3_off e.2.2⟩
    refine AllReadyH.cons rfl (fun K hK => ?_) AllReadyH.nil
    go_simp
    have H1b := Lib.hid (H0.out.box (Xr.heap.size) rfl)
    refine hK.out _ _ H1b.out.s (fun _ => ?_)
    clear hK K
    refine name_h fun X1 hX1 => ?_
    replace H1b := Lib.hid (DSt.cast hX1 H1b.out)
    clear hX1
    refine wpAnyH_ready (rs := [3]) (by kernel_rfl) (by simp) ?_
    refine AllReadyH.cons rfl (fun K hK => ?_) AllReadyH.nil
    go_simp
    have H11a := Lib.hid (H1b.out.alloc bvO)
    have HT11 := Lib.hid (txs_at X1 (X1.heap.size) rfl)
    refine hK.out _ _ H11a.out.s (fun _ => ?_)
    clear hK K
    refine name_h fun X11 hX11 => ?_
    replace H11a := Lib.hid (DSt.cast hX11 H11a.out)
    replace HT11 := Lib.hid (TxsIn.cast hX11 HT11.out)
    clear hX11
    refine wpAnyH_ready (rs := [4]) (by kernel_rfl) (by simp) ?_
    refine AllReadyH.cons rfl (fun K hK => ?_) AllReadyH.nil
    go_simp
    refine (pwhich_any (S := [wBase, wView]) H11a.out.rd HT11.out (by decide)).mono ?_
    rintro y w1 hw
    obtain ⟨ht, hr, rfl⟩ := which_at KK hw hKt hK0
    have H12w := Lib.hid (H11a.out.on ht hr)
    clear hw ht hr
    go_wp2_with fail
    refine hK.out _ _ H12w.out.s (fun _ => ?_)
    clear hK K
    refine take1 5 9 (v := ?_) rfl rfl (by kernel_rfl) (by kernel_rfl) (by kernel_rfl) (fun _ _ _ h => h) (by kernel_rfl) ?_ (H12w.out.s) (by simp only [put_norm]; exact rfl) ?_
    rotate_left
    · rintro X0 s0; go_simp; try (with_reducible rfl)
    try simp only [hKb]
    refine wpAnyH_ready (rs := [7]) (by kernel_rfl) (by simp) ?_
    refine AllReadyH.cons rfl (fun K hK => ?_) AllReadyH.nil
    go_simp
    refine (pname_any H12w.out.rd).mono ?_
    rintro y w2 hn
    obtain ⟨ht2, L2, v, e2, hs2, rfl, hv2, hr2⟩ := PEnd.yes hn HNR.out
    obtain rfl : v = .string ⟨nm.toArray⟩ := hv2
    have H13n := Lib.hid (H12w.out.on ht2 hr2)
    have HL2 := Lib.hid (And.intro e2 hs2)
    clear hn ht2 e2 hs2 hr2
    go_wp2_with fail
    refine hK.out _ _ H13n.out.s (fun _ => ?_)
    clear hK K
    refine take1 8 12 (v := ?_) rfl rfl (by kernel_rfl) (by kernel_rfl) (by kernel_rfl) (fun _ _ _ h => h) (by kernel_rfl) ?_ (H13n.out.s) (by simp only [put_norm]; exact rfl) ?_
    rotate_left
    · rintro X0 s0; go_simp; try (with_reducible rfl)
    obtain ⟨⟨e0, e1, e2⟩, j0, j1, j2⟩ := cells3 (H13n.out.bx _ rfl).1
    have HY := Lib.hid (H13n.out.done (nm := nm) (base := base) rfl hnW)
    refine wpAnyH_ready (rs := [10]) (by kernel_rfl) (by simp) ?_
    refine AllReadyH.cons rfl (fun K hK => ?_) AllReadyH.nil
    go_simp
    refine hK.out _ _ (HY.out _ rfl).1 (fun _ => ?_)
    clear hK K e0 e1 e2 j0 j1 j2
    refine wpAnyH_done (by kernel_rfl) ?_ _
    have x3 : _ := (HY.out _ rfl).1
    have HO3 := Lib.hid (HY.out _ rfl).2.1
    have HR3 := Lib.hid (HY.out _ rfl).2.2.1
    have HG3 := Lib.hid (HY.out _ rfl).2.2.2
    go_wp2_with fail
    refine (penclosed_any (sepL (isM [44]) kindR) 76 #[.pointer (some ⟨W.heap.size, 0, none⟩), .pointer (some ⟨Xr.heap.size, 0, none⟩)] (fun _ _ => by kernel_rfl) HR3.out HO3.out HG3.out (fun _ _ _ h ht => h.on ht) (fun _ _ ho hg hr => pdecl1_any hg ho hr hnW)).mono ?_
    rintro y w5 ⟨ho, ⟨zs, L5, hp, hs, rfl, hg, hr⟩ | ⟨L5, hp, hs, rfl⟩⟩
    rotate_left
    · have HE5 := Lib.hid (And.intro ho (And.intro hp hs))
      clear ho hp hs
      go_wp2_with fail
      obtain ⟨ho, hp, hs⟩ := HE5.out
      exact ⟨rfl, Only.turned ho, .inr ⟨L5, by rw [declR_eq]; exact (bind_ok HTk.out).trans ((bind_ok (HNR.out.trans (by rw [HL2.out.1]))).trans (bind_bad hp)), hs.trans (HL2.out.2.trans (List.suffix_cons x L)), rfl⟩⟩
    have HE5 := Lib.hid (And.intro ho (And.intro hp (And.intro hs (And.intro hg hr))))
    have x5 : w5.cell? ⟨W.heap.size, 0, none⟩ = some (rdp b) := cell_of_row w5 _ 0 _ _ (0, 0) hg.2.2.2.2.2.1
    clear ho hp hs hg hr x3
    go_wp2_with fail
    refine (pmust_any [46] (by decide) HE5.out.2.2.2.2).mono ?_
    rintro y w6 ⟨ht, ⟨x6, L6, rfl, hx6, rfl, hr⟩ | ⟨hx6, rfl⟩⟩
    rotate_left
    · have HE6 := Lib.hid (And.intro ht hx6)
      clear ht hx6
      go_wp2_with fail
      obtain ⟨ho, hp, hs, hg, hr⟩ := HE5.out
      exact ⟨rfl, Only.turned (ho.on HE6.out.1), .inr ⟨L5, by rw [declR_eq]; exact (bind_ok HTk.out).trans ((bind_ok (HNR.out.trans (by rw [HL2.out.1]))).trans ((bind_ok hp).trans (bind_bad (mark_no hr.tidy rfl HE6.out.2)))), hs.trans (HL2.out.2.trans (List.suffix_cons x L)), rfl⟩⟩
    have HE6 := Lib.hid (And.intro ht (And.intro hr hx6))
    obtain ⟨⟨g1, g2, -⟩, ⟨u, g3, g4⟩, -, -, -, -, -, -, k3, k4⟩ := HE5.out.2.2.2.1.on ht
    obtain ⟨pu, cu, rfl, -⟩ := id g4
    obtain ⟨⟨d0, d1, d2⟩, m0, m1, m2⟩ := cells3 g3
    obtain ⟨⟨p0, p1, p2⟩, o0, o1, o2⟩ := cells3 k4
    have HK := Lib.hid k4
    have HV := Lib.hid g4
    clear ht hr hx6 g3 g4 k4 x5
    go_wp2_with fail
    refine bodyPost_ret (results_cell_row (fn := Tryz.f48) (by rfl) _ _ _ _ _ _ _ (by rfl) (rowS3_set HK.out) Tryz.underlying67 (by rfl) (by kernel_rfl)) (by rfl) ?_
    obtain ⟨ho, hp, hs, hg, hr5⟩ := HE5.out
    obtain ⟨ht, hr, hx6⟩ := HE6.out
    refine ⟨Only.turned ((((ho.on ht).set (Nat.le_succ _) _ _).set (Nat.le_succ _) _ _).set (Nat.le_succ _) _ _), .inl ⟨⟨base, nm, zs⟩, L6, _, ?_, (List.suffix_cons x6 L6).trans (hs.trans (HL2.out.2.trans (List.suffix_cons x L))), rfl, ⟨_, rfl, ?_⟩, ((hr.set (by omega) _ _).set (by omega) _ _).set (by omega) _ _⟩⟩
    · rw [declR_eq]
      exact (bind_ok HTk.out).trans ((bind_ok (HNR.out.trans (by rw [HL2.out.1]))).trans ((bind_ok hp).trans ((bind_ok (mark_yes (hr5.tidy x6 List.mem_cons_self) rfl hx6)).trans rfl)))
    · exact HV.out.keep (by simp) fun k e hk => ⟨e.1, set3_off e.2.2⟩
  | bad r =>
    have HNR := Lib.hid hnR
    clear hnR
    go_enter Tryz.func48, Tryz.ntmps48
    go_wp2_with fail
    refine wp_region_held_drew (S := fun X => X.cell? ⟨W.heap.size, 0, none⟩ = some (rdp b)) (by kernel_rfl) H0.out.s (fun _ => ?_)
    refine name_h fun Xr hXr => ?_
    replace H0 := Lib.hid (DSt.cast hXr H0.out)
    clear hXr
    refine take1 0 4 (v := ?_) rfl rfl (by kernel_rfl) (by kernel_rfl) (by kernel_rfl) (fun _ _ _ h => h) (by kernel_rfl) ?_ (H0.out.s) (by simp only [put_norm]; exact rfl) ?_
    rotate_left
    · rintro X0 s0; go_simp; try (with_reducible rfl)
    refine take1 1 5 (v := ?_) rfl rfl (by kernel_rfl) (by kernel_rfl) (by kernel_rfl) (fun _ _ _ h => h) (by kernel_rfl) ?_ (H0.out.s) (by simp only [put_norm]; exact rfl) ?_
    rotate_left
    · rintro X0 s0; go_simp; try (with_reducible rfl)
    refine take1 2 6 (v := ?_) rfl rfl (by kernel_rfl) (by kernel_rfl) (by kernel_rfl) (fun _ _ _ h => h) (by kernel_rfl) ?_ (H0.out.s) (by simp only [put_norm]; exact rfl) ?_
    rotate_left
    · rintro X0 s0; go_simp; try (with_reducible rfl)
    refine take1 6 10 (v := ?_) rfl rfl (by kernel_rfl) (by kernel_rfl) (by kernel_rfl) (fun _ _ _ h => h) (by kernel_rfl) ?_ (H0.out.s) (by simp only [put_norm]; exact rfl) ?_
    rotate_left
    · rintro X0 s0; go_simp; try (with_reducible rfl)
    refine wpAnyH_ready (rs := [3, 9]) (by kernel_rfl) (by simp) ?_
    refine AllReadyH.cons rfl (fun K hK => ?_) ?_
    · go_simp
      have H15a := Lib.hid (H0.out.alloc bvO)
      have HT15 := Lib.hid (txs_at Xr (Xr.heap.size) rfl)
      refine hK.out _ _ H15a.out.s (fun _ => ?_)
      clear hK K
      refine name_h fun X15 hX15 => ?_
      replace H15a := Lib.hid (DSt.cast hX15 H15a.out)
      replace HT15 := Lib.hid (TxsIn.cast hX15 HT15.out)
      clear hX15
      refine wpAnyH_ready (rs := [4, 9]) (by kernel_rfl) (by simp) ?_
      refine AllReadyH.cons rfl (fun K hK => ?_) ?_
      · go_simp
        refine (pwhich_any (S := [wBase, wView]) H15a.out.rd HT15.out (by decide)).mono ?_
        rintro y w1 hw
        obtain ⟨ht, hr, rfl⟩ := which_at KK hw hKt hK0
        have H16w := Lib.hid (H15a.out.on ht hr)
        clear hw ht hr
        go_wp2_with fail
        refine hK.out _ _ H16w.out.s (fun _ => ?_)
        clear hK K
        refine take1 5 9 (v := ?_) rfl rfl (by kernel_rfl) (by kernel_rfl) (by kernel_rfl) (fun _ _ _ h => h) (by kernel_rfl) ?_ (H16w.out.s) (by simp only [put_norm]; exact rfl) ?_
        rotate_left
        · rintro X0 s0; go_simp; try (with_reducible rfl)
        try simp only [hKb]
        refine wpAnyH_ready (rs := [7, 9]) (by kernel_rfl) (by simp) ?_
        refine AllReadyH.cons rfl (fun K hK => ?_) ?_
        · go_simp
          refine (pname_any H16w.out.rd).mono ?_
          rintro y w2 hn
          obtain ⟨ht2, L2, e2, hs2, rfl⟩ := PEnd.bad_ hn HNR.out
          exact ⟨rfl, Only.turned (H16w.out.only.on ht2), .inr ⟨L2, by rw [declR_eq]; exact (bind_ok HTk.out).trans (bind_bad (HNR.out.trans (by rw [e2]))), hs2.trans (List.suffix_cons x L), rfl⟩⟩
        refine AllReadyH.cons rfl (fun K hK => ?_) AllReadyH.nil
        go_simp
        have H17b := Lib.hid (H16w.out.box (w1.heap.size) rfl)
        refine hK.out _ _ H17b.out.s (fun _ => ?_)
        clear hK K
        refine name_h fun X17 hX17 => ?_
        replace H17b := Lib.hid (DSt.cast hX17 H17b.out)
        clear hX17
        refine wpAnyH_ready (rs := [7]) (by kernel_rfl) (by simp) ?_
        refine AllReadyH.cons rfl (fun K hK => ?_) AllReadyH.nil
        go_simp
        refine (pname_any H17b.out.rd).mono ?_
        rintro y w2 hn
        obtain ⟨ht2, L2, e2, hs2, rfl⟩ := PEnd.bad_ hn HNR.out
        exact ⟨rfl, Only.turned (H17b.out.only.on ht2), .inr ⟨L2, by rw [declR_eq]; exact (bind_ok HTk.out).trans (bind_bad (HNR.out.trans (by rw [e2]))), hs2.trans (List.suffix_cons x L), rfl⟩⟩
      refine AllReadyH.cons rfl (fun K hK => ?_) AllReadyH.nil
      go_simp
      have H16b := Lib.hid (H15a.out.box (X15.heap.size) rfl)
      have HT16b := Lib.hid (TxsIn.keep HT15.out ((Below.refl _ _).alloc (Nat.le_refl _) zDe))
      refine hK.out _ _ H16b.out.s (fun _ => ?_)
      clear hK K
      refine name_h fun X16 hX16 => ?_
      replace H16b := Lib.hid (DSt.cast hX16 H16b.out)
      replace HT16b := Lib.hid (TxsIn.cast hX16 HT16b.out)
      clear hX16
      refine wpAnyH_ready (rs := [4]) (by kernel_rfl) (by simp) ?_
      refine AllReadyH.cons rfl (fun K hK => ?_) AllReadyH.nil
      go_simp
      refine (pwhich_any (S := [wBase, wView]) H16b.out.rd HT16b.out (by decide)).mono ?_
      rintro y w1 hw
      obtain ⟨ht, hr, rfl⟩ := which_at KK hw hKt hK0
      have H19w := Lib.hid (H16b.out.on ht hr)
      clear hw ht hr
      go_wp2_with fail
      refine hK.out _ _ H19w.out.s (fun _ => ?_)
      clear hK K
      refine take1 5 9 (v := ?_) rfl rfl (by kernel_rfl) (by kernel_rfl) (by kernel_rfl) (fun _ _ _ h => h) (by kernel_rfl) ?_ (H19w.out.s) (by simp only [put_norm]; exact rfl) ?_
      rotate_left
      · rintro X0 s0; go_simp; try (with_reducible rfl)
      try simp only [hKb]
      refine wpAnyH_ready (rs := [7]) (by kernel_rfl) (by simp) ?_
      refine AllReadyH.cons rfl (fun K hK => ?_) AllReadyH.nil
      go_simp
      refine (pname_any H19w.out.rd).mono ?_
      rintro y w2 hn
      obtain ⟨ht2, L2, e2, hs2, rfl⟩ := PEnd.bad_ hn HNR.out
      exact ⟨rfl, Only.turned (H19w.out.only.on ht2), .inr ⟨L2, by rw [declR_eq]; exact (bind_ok HTk.out).trans (bind_bad (HNR.out.trans (by rw [e2]))), hs2.trans (List.suffix_cons x L), rfl⟩⟩
    refine AllReadyH.cons rfl (fun K hK => ?_) AllReadyH.nil
    go_simp
    have H15b := Lib.hid (H0.out.box (Xr.heap.size) rfl)
    refine hK.out _ _ H15b.out.s (fun _ => ?_)
    clear hK K
    refine name_h fun X15 hX15 => ?_
    replace H15b := Lib.hid (DSt.cast hX15 H15b.out)
    clear hX15
    refine wpAnyH_ready (rs := [3]) (by kernel_rfl) (by simp) ?_
    refine AllReadyH.cons rfl (fun K hK => ?_) AllReadyH.nil
    go_simp
    have H21a := Lib.hid (H15b.out.alloc bvO)
    have HT21 := Lib.hid (txs_at X15 (X15.heap.size) rfl)
    refine hK.out _ _ H21a.out.s (fun _ => ?_)
    clear hK K
    refine name_h fun X21 hX21 => ?_
    replace H21a := Lib.hid (DSt.cast hX21 H21a.out)
    replace HT21 := Lib.hid (TxsIn.cast hX21 HT21.out)
    clear hX21
    refine wpAnyH_ready (rs := [4]) (by kernel_rfl) (by simp) ?_
    refine AllReadyH.cons rfl (fun K hK => ?_) AllReadyH.nil
    go_simp
    refine (pwhich_any (S := [wBase, wView]) H21a.out.rd HT21.out (by decide)).mono ?_
    rintro y w1 hw
    obtain ⟨ht, hr, rfl⟩ := which_at KK hw hKt hK0
    have H22w := Lib.hid (H21a.out.on ht hr)
    clear hw ht hr
    go_wp2_with fail
    refine hK.out _ _ H22w.out.s (fun _ => ?_)
    clear hK K
    refine take1 5 9 (v := ?_) rfl rfl (by kernel_rfl) (by kernel_rfl) (by kernel_rfl) (fun _ _ _ h => h) (by kernel_rfl) ?_ (H22w.out.s) (by simp only [put_norm]; exact rfl) ?_
    rotate_left
    · rintro X0 s0; go_simp; try (with_reducible rfl)
    try simp only [hKb]
    refine wpAnyH_ready (rs := [7]) (by kernel_rfl) (by simp) ?_
    refine AllReadyH.cons rfl (fun K hK => ?_) AllReadyH.nil
    go_simp
    refine (pname_any H22w.out.rd).mono ?_
    rintro y w2 hn
    obtain ⟨ht2, L2, e2, hs2, rfl⟩ := PEnd.bad_ hn HNR.out
    exact ⟨rfl, Only.turned (H22w.out.only.on ht2), .inr ⟨L2, by rw [declR_eq]; exact (bind_ok HTk.out).trans (bind_bad (HNR.out.trans (by rw [e2]))), hs2.trans (List.suffix_cons x L), rfl⟩⟩
end
section
open Go Go.RowKit Go.Shelf

abbrev zOn : Obj := .cells #[.string ⟨#[]⟩, .slice none 0 0, .slice none 0 0] 72
def onT (S : Nat → Prop) (w : World) (v : Value) (o : OnL) : Prop := ∃ u x, v = .agg #[.string ⟨o.event.toArray⟩, u, x] ∧ RowIn paY S w u o.params ∧ RowIn acY S w x o.acts
theorem onR_eq : onR = bindR (tok1 fun _ => true) fun _ => bindR nameR fun nm => bindR (encR (sepL (isM [44]) paramR)) fun ps => bindR (bindR (moreR [58] actR) fun zs => bindR (markR [46]) fun _ => pureR zs) fun zs => pureR ⟨nm, ps, zs⟩ := by
  unfold onR encR rowR
  simp only [bindR_assoc, bindR_pure]
set_option maxRecDepth 100000 in
set_option maxHeartbeats 4000000 in
theorem pon_any {W : World} {n b e : Nat} {x : Wd} {L : List Wd} (h : Rp n W b (x :: L) e) (hx : x.text = wOn) : Calls Tryz.prog 49 #[rdp b] W (PEnd onR onT n b e (x :: L) W) := by
  have HR := Lib.hid h
  have hnW := h.below_
  have hlt := h.lt
  have HTk := Lib.hid (show tok1 (fun _ => true) (keys (x :: L)) = .ok x.key (keys L) from tok1_yes rfl)
  have HXx := Lib.hid hx
  clear h hx
  go_enter Tryz.func49, Tryz.ntmps49
  go_wp2_with fail
  refine (pmust_any wOn (by decide) ((HR.out.alloc (brO b)).alloc zOn)).mono ?_
  rintro y w1 ⟨ht, ⟨x', L', hL, -, rfl, hr⟩ | ⟨hx, -⟩⟩
  rotate_left
  · exact absurd HXx.out hx
  obtain ⟨rfl, rfl⟩ : x = x' ∧ L = L' := by injection hL with e1 e2; exact ⟨e1, e2⟩
  have hz : W.heap.size + 2 ≤ w1.heap.size := by have := ht.size; simp at this; omega
  have hr0 : w1.heap[W.heap.size]? = some (brO b) := (ht.block _ (by simp; omega) (by omega)).trans (two_new W _ zOn).1
  have hr1 : w1.heap[W.heap.size + 1]? = some zOn := (ht.block _ (by simp) (by omega)).trans (two_new W (brO b) zOn).2
  have c0 : w1.cell? ⟨W.heap.size, 0, none⟩ = some (rdp b) := cell_of_row w1 _ 0 _ _ (0, 0) hr0
  have HO1 : Hid (Only W.heap.size b W w1) := Lib.hid ((((Only.refl b W).alloc _).alloc _).on ht)
  have HR1 := Lib.hid hr
  have HK1 := Lib.hid (And.intro hr0 hr1)
  clear ht hr hL hr0 hr1
  go_wp2_with fail
  refine (pname_any HR1.out).mono ?_
  rintro y w2 ⟨ht, ⟨nm, L2, v, hp, hs, rfl, hv, hr⟩ | ⟨L2, hp, hs, rfl⟩⟩
  rotate_left
  · have HE := Lib.hid (And.intro ht (And.intro hp hs))
    clear ht hp hs
    go_wp2_with fail
    obtain ⟨ht, hp, hs⟩ := HE.out
    exact ⟨rfl, Only.turned (HO1.out.on ht), .inr ⟨L2, by rw [onR_eq]; exact (bind_ok HTk.out).trans (bind_bad hp), hs.trans (List.suffix_cons x L), rfl⟩⟩
  obtain rfl : v = .string ⟨nm.toArray⟩ := hv
  have hz2 : W.heap.size + 2 ≤ w2.heap.size := Nat.le_trans hz ht.size
  have hq0 : w2.heap[W.heap.size]? = some (brO b) := (ht.block _ (by omega) (by omega)).trans HK1.out.1
  have hq1 : w2.heap[W.heap.size + 1]? = some zOn := (ht.block _ (by omega) (by omega)).trans HK1.out.2
  have c2 : w2.cell? ⟨W.heap.size, 0, none⟩ = some (rdp b) := cell_of_row w2 _ 0 _ _ (0, 0) hq0
  have hzz : W.heap.size < w2.heap.size := by omega
  have HO2 : Hid (Only W.heap.size b W (w2.alloc (.cells #[.string ⟨nm.toArray⟩, .slice none 0 0, .slice none 0 0] 72))) := Lib.hid ((HO1.out.on ht).alloc _)
  have HR2 := Lib.hid (hr.alloc (.cells #[.string ⟨nm.toArray⟩, .slice none 0 0, .slice none 0 0] 72))
  have HN := Lib.hid (And.intro hp hs)
  obtain ⟨ba, hba⟩ : ∃ ba, ba = w2.heap.size := ⟨_, rfl⟩
  have HG : Hid (OnG W.heap.size b W.heap.size w2.heap.size (W.heap.size + 1) zOn nm (w2.alloc (.cells #[.string ⟨nm.toArray⟩, .slice none 0 0, .slice none 0 0] 72)) []) := Lib.hid
    ⟨⟨by omega, by simp, hlt⟩, ⟨.slice none 0 0, heap_alloc_new _ _, RowIn.nil _ _ _⟩, Nat.le_refl _, by simp; omega, by omega, (Below.heap_alloc _ _ _ hzz).trans hq0, by omega, by omega, by simp; omega, (Below.heap_alloc _ _ _ (by omega)).trans hq1⟩
  clear ht hp hs hr hq0 hq1 c0 HK1
  go_wp2_with fail
  refine (penclosed_any (sepL (isM [44]) paramR) 79 #[.pointer (some ⟨W.heap.size, 0, none⟩), .pointer (some ⟨w2.heap.size, 0, none⟩)] (fun _ _ => by kernel_rfl) HR2.out HO2.out HG.out (fun _ _ _ h ht => h.on ht) (fun _ _ ho hg hr => pon1_any hg ho hr hnW)).mono ?_
  rw [← hba]
  rintro y w3 ⟨ho, ⟨ps, L3, hp, hs, rfl, hg, hr⟩ | ⟨L3, hp, hs, rfl⟩⟩
  rotate_left
  · have HE := Lib.hid (And.intro ho (And.intro hp hs))
    clear ho hp hs
    go_wp2_with fail
    obtain ⟨ho, hp, hs⟩ := HE.out
    exact ⟨rfl, Only.turned ho, .inr ⟨L3, by rw [onR_eq]; exact (bind_ok HTk.out).trans ((bind_ok HN.out.1).trans (bind_bad hp)), hs.trans (HN.out.2.trans (List.suffix_cons x L)), rfl⟩⟩
  have HP : Hid ((∀ {β : Type} (f : List UInt8 → List (List UInt8 × Int) → Rd β), bindR (tok1 fun _ => true) (fun _ => bindR nameR fun nm => bindR (encR (sepL (isM [44]) paramR)) fun ps => f nm ps) (keys (x :: L)) = f nm ps (keys L3)) ∧ L3 <:+ x :: L) := Lib.hid
    ⟨fun f => (bind_ok HTk.out).trans ((bind_ok HN.out.1).trans (bind_ok hp)), hs.trans (HN.out.2.trans (List.suffix_cons x L))⟩
  have HE3 := Lib.hid (And.intro ho hr)
  obtain ⟨⟨g1, g2, g2'⟩, ⟨u, g3, g4⟩, g5, g6, g7, g8, k1, k2, k3, k4⟩ := hg
  obtain ⟨pu, cu, rfl, -⟩ := id g4
  have c3 : w3.cell? ⟨W.heap.size, 0, none⟩ = some (rdp b) := cell_of_row w3 _ 0 _ _ (0, 0) g8
  have HB3 : Hid (Bx3 W.heap.size b ba (W.heap.size + 1) zOn 72 (.string ⟨nm.toArray⟩) (.slice pu ps.length cu) (.slice none 0 0) w3) := Lib.hid ⟨⟨g1, g2, hlt, k1, by omega, k3⟩, g3, k4⟩
  have HU3 := Lib.hid g4
  have HR8 := Lib.hid (And.intro g6 (And.intro g7 g8))
  have hbaN : W.heap.size + 2 ≤ ba := by omega
  clear ho hp hs hr g3 g4 g8 k4 c2 g5 g6 g7 k1 k2 k3 g1 g2 HG HR2 HO2 hba
  go_wp2_with fail
  refine (pmay_any [58] (by decide) HE3.out.2).mono ?_
  rintro y w4 ⟨ht, ⟨x4, L4, rfl, hx, rfl, hr⟩ | ⟨hx, rfl, hr⟩⟩
  · have HE4 := Lib.hid (And.intro ht (And.intro hr hx))
    have HB4 := Lib.hid (HB3.out.on ht)
    have h84 : w4.heap[W.heap.size]? = some (brO b) := (ht.block _ HR8.out.1 (by omega)).trans HR8.out.2.2
    have HR84 := Lib.hid h84
    have c4 : w4.cell? ⟨W.heap.size, 0, none⟩ = some (rdp b) := cell_of_row w4 _ 0 _ _ (0, 0) h84
    clear ht hr hx h84 c3
    go_wp2_with fail
    refine (plistAc_any HE4.out.2.1).mono ?_
    rintro y w5 ⟨ht, ⟨zs, L5, v, hp, hs, rfl, hv, hr⟩ | ⟨L5, hp, hs, rfl⟩⟩
    rotate_left
    · have HE5 := Lib.hid (And.intro ht (And.intro hp hs))
      clear ht hp hs
      go_wp2_with fail
      obtain ⟨ht, hp, hs⟩ := HE5.out
      refine ⟨rfl, Only.turned ((HE3.out.1.on HE4.out.1).on ht), .inr ⟨L5, ?_, hs.trans ((List.suffix_cons x4 L4).trans HP.out.2), rfl⟩⟩
      rw [onR_eq]
      refine (HP.out.1 _).trans (bind_bad (bind_bad ?_))
      unfold moreR altR
      rw [if_pos (by rw [nxt_mark HE3.out.2.tidy rfl]; simpa [txt] using HE4.out.2.2)]
      exact (bind_ok (tok1_yes (by rw [tidy_mark (HE3.out.2.tidy x4 List.mem_cons_self) rfl]; simpa using HE4.out.2.2))).trans hp
    have HB5 := Lib.hid (HB4.out.on ht)
    obtain ⟨pv, cv, rfl, -⟩ := id hv
    obtain ⟨⟨b0, b1, b2⟩, k0, k1, k2⟩ := cells3 HB5.out.2.1
    have c5 : w5.cell? ⟨W.heap.size, 0, none⟩ = some (rdp b) := cell_of_row w5 _ 0 _ _ (0, 0) ((ht.block _ (by have := HB4.out.1.2.2.2.2.2; omega) (by omega)).trans HR84.out)
    have hne8 : ¬ W.heap.size = ba := by omega
    have HE5 := Lib.hid (And.intro ht (And.intro hp (And.intro hs (And.intro hv hr))))
    have c5' : (w5.setCell ⟨ba, 2, none⟩ (.slice pv zs.length cv)).cell? ⟨W.heap.size, 0, none⟩ = some (rdp b) := by rw [World.cell?_setCell_other _ _ _ _ (by simp)]; exact c5
    have HRX : Hid (Rp n (w5.setCell ⟨ba, 2, none⟩ (.slice pv zs.length cv)) b L5 e) := Lib.hid (hr.set (by omega) _ _)
    have HOX : Hid (Only W.heap.size b W (w5.setCell ⟨ba, 2, none⟩ (.slice pv zs.length cv))) := Lib.hid (((HE3.out.1.on HE4.out.1).on ht).set (by omega) _ _)
    have HBX : Hid (Bx3 W.heap.size b ba (W.heap.size + 1) zOn 72 (.string ⟨nm.toArray⟩) (.slice pu ps.length cu) (.slice pv zs.length cv) (w5.setCell ⟨ba, 2, none⟩ (.slice pv zs.length cv))) := Lib.hid (by
      obtain ⟨⟨h1, h2, h3, h4, h5, h6⟩, h7, h8⟩ := HB5.out
      exact ⟨⟨h1, by simpa using h2, h3, h4, h5, by simpa using h6⟩, heap_setCell_same w5 _ 2 _ _ _ h7, (heap_setCell_other w5 ⟨ba, 2, none⟩ _ _ h4).trans h8⟩)
    have HUX : Hid (RowIn paY (fun k => W.heap.size ≤ k ∧ k ≠ ba ∧ k ≠ W.heap.size + 1) (w5.setCell ⟨ba, 2, none⟩ (.slice pv zs.length cv)) (.slice pu ps.length cu) ps) := Lib.hid ((((HU3.out.turned HE4.out.1 fun k e e2 => by omega).turned ht fun k e e2 => by omega)).keep (by simp) fun k e hk => ⟨e, heap_setCell_other w5 ⟨ba, 2, none⟩ k _ e.2.1⟩)
    have HVX : Hid (RowIn acY (fun k => W.heap.size ≤ k ∧ k ≠ ba ∧ k ≠ W.heap.size + 1) (w5.setCell ⟨ba, 2, none⟩ (.slice pv zs.length cv)) (.slice pv zs.length cv) zs) := Lib.hid (by
      have h2 := HB4.out.1.2.1
      have h3 := HB4.out.1.2.2.2.2.2
      exact RowIn.keep hv (by simp) fun k e hk => ⟨by omega, heap_setCell_other w5 ⟨ba, 2, none⟩ k _ (by show k ≠ ba; omega)⟩)
    have HM : Hid (moreR [58] actR (keys (x4 :: L4)) = .ok zs (keys L5) ∧ L5 <:+ x4 :: L4) := Lib.hid (by
      refine ⟨?_, hs.trans (List.suffix_cons x4 L4)⟩
      unfold moreR altR
      rw [if_pos (by rw [nxt_mark HE3.out.2.tidy rfl]; simpa [txt] using HE4.out.2.2)]
      exact (bind_ok (tok1_yes (by rw [tidy_mark (HE3.out.2.tidy x4 List.mem_cons_self) rfl]; simpa using HE4.out.2.2))).trans hp)
    clear ht hp hs hv hr c4
    go_wp2_with fail
    refine (pmust_any [46] (by decide) HRX.out).mono ?_
    rintro y w6 ⟨ht, ⟨x6, L6, hL, hx, rfl, hr⟩ | ⟨hx, rfl⟩⟩
    · subst hL
      have HB6 := Lib.hid (HBX.out.on ht)
      have HF := Lib.hid (And.intro ht (And.intro hr hx))
      obtain ⟨⟨d0, d1, d2⟩, m0, m1, m2⟩ := cells3 HB6.out.2.1
      obtain ⟨⟨p0, p1, p2⟩, o0, o1, o2⟩ := cells3 HB6.out.2.2
      clear ht hr hx
      go_wp2_with fail
      refine bodyPost_ret (results_cell_row (fn := Tryz.f49) (by rfl) _ _ _ _ _ _ _ (by rfl) (rowS3_set HB6.out.2.2) Tryz.underlying72 (by rfl) (by kernel_rfl)) (by rfl) ?_
      obtain ⟨ht, hr, hx⟩ := HF.out
      refine ⟨Only.turned ((((HOX.out.on ht).set (Nat.le_succ _) _ _).set (Nat.le_succ _) _ _).set (Nat.le_succ _) _ _), .inl ⟨⟨nm, ps, zs⟩, L6, _, ?_, (List.suffix_cons x6 L6).trans (HM.out.2.trans HP.out.2), rfl, ⟨_, _, rfl, ?_, ?_⟩, ((hr.set (by omega) _ _).set (by omega) _ _).set (by omega) _ _⟩⟩
      · rw [onR_eq]
        exact (HP.out.1 _).trans ((bind_ok ((bind_ok HM.out.1).trans ((bind_ok (mark_yes (HRX.out.tidy x6 List.mem_cons_self) rfl hx)).trans rfl))).trans rfl)
      · exact (HUX.out.turned ht fun k e e2 => by omega).keep (by simp) fun k e hk => ⟨e.1, set3_off e.2.2⟩
      · exact (HVX.out.turned ht fun k e e2 => by omega).keep (by simp) fun k e hk => ⟨e.1, set3_off e.2.2⟩
    · have HF := Lib.hid (And.intro ht hx)
      clear ht hx
      go_wp2_with fail
      obtain ⟨ht, hx⟩ := HF.out
      exact ⟨rfl, Only.turned (HOX.out.on ht), .inr ⟨L5, by rw [onR_eq]; exact (HP.out.1 _).trans (bind_bad ((bind_ok HM.out.1).trans (bind_bad (mark_no HRX.out.tidy rfl hx)))), HM.out.2.trans HP.out.2, rfl⟩⟩
  · have HE4 := Lib.hid (And.intro ht (And.intro hr hx))
    have c4 : w4.cell? ⟨W.heap.size, 0, none⟩ = some (rdp b) := cell_of_row w4 _ 0 _ _ (0, 0) ((ht.block _ HR8.out.1 (by omega)).trans HR8.out.2.2)
    have HRX := Lib.hid hr
    have HOX := Lib.hid (HE3.out.1.on ht)
    have HBX := Lib.hid (HB3.out.on ht)
    have HUX := Lib.hid (HU3.out.turned ht fun k e e2 => by omega)
    obtain ⟨zs, hzs⟩ : ∃ zs : List ActL, zs = [] := ⟨_, rfl⟩
    have HVX : Hid (RowIn acY (fun k => W.heap.size ≤ k ∧ k ≠ ba ∧ k ≠ W.heap.size + 1) w4 (.slice none 0 0) zs) := Lib.hid (by rw [hzs]; exact RowIn.nil _ _ _)
    obtain ⟨L5, hL5⟩ : ∃ L5, L5 = L3 := ⟨_, rfl⟩
    have HM : Hid (moreR [58] actR (keys L3) = .ok zs (keys L5) ∧ L5 <:+ L3) := Lib.hid (by
      rw [hL5, hzs]
      refine ⟨?_, List.suffix_refl _⟩
      unfold moreR altR
      rw [if_neg (by rw [nxt_mark HE3.out.2.tidy rfl]; simpa using hx)]
      rfl)
    rw [← hL5] at HRX
    clear ht hr hx hzs hL5
    go_wp2_with fail
    refine (pmust_any [46] (by decide) HRX.out).mono ?_
    rintro y w6 ⟨ht, ⟨x6, L6, hL, hx, rfl, hr⟩ | ⟨hx, rfl⟩⟩
    · subst hL
      have HB6 := Lib.hid (HBX.out.on ht)
      have HF := Lib.hid (And.intro ht (And.intro hr hx))
      obtain ⟨⟨d0, d1, d2⟩, m0, m1, m2⟩ := cells3 HB6.out.2.1
      obtain ⟨⟨p0, p1, p2⟩, o0, o1, o2⟩ := cells3 HB6.out.2.2
      clear ht hr hx
      go_wp2_with fail
      refine bodyPost_ret (results_cell_row (fn := Tryz.f49) (by rfl) _ _ _ _ _ _ _ (by rfl) (rowS3_set HB6.out.2.2) Tryz.underlying72 (by rfl) (by kernel_rfl)) (by rfl) ?_
      obtain ⟨ht, hr, hx⟩ := HF.out
      refine ⟨Only.turned ((((HOX.out.on ht).set (Nat.le_succ _) _ _).set (Nat.le_succ _) _ _).set (Nat.le_succ _) _ _), .inl ⟨⟨nm, ps, zs⟩, L6, _, ?_, (List.suffix_cons x6 L6).trans (HM.out.2.trans HP.out.2), rfl, ⟨_, _, rfl, ?_, ?_⟩, ((hr.set (by omega) _ _).set (by omega) _ _).set (by omega) _ _⟩⟩
      · rw [onR_eq]
        exact (HP.out.1 _).trans ((bind_ok ((bind_ok HM.out.1).trans ((bind_ok (mark_yes (HRX.out.tidy x6 List.mem_cons_self) rfl hx)).trans rfl))).trans rfl)
      · exact (HUX.out.turned ht fun k e e2 => by omega).keep (by simp) fun k e hk => ⟨e.1, set3_off e.2.2⟩
      · exact (HVX.out.turned ht fun k e e2 => by omega).keep (by simp) fun k e hk => ⟨e.1, set3_off e.2.2⟩
    · have HF := Lib.hid (And.intro ht hx)
      clear ht hx
      go_wp2_with fail
      obtain ⟨ht, hx⟩ := HF.out
      exact ⟨rfl, Only.turned (HOX.out.on ht), .inr ⟨L5, by rw [onR_eq]; exact (HP.out.1 _).trans (bind_bad ((bind_ok HM.out.1).trans (bind_bad (mark_no HRX.out.tidy rfl hx)))), HM.out.2.trans HP.out.2, rfl⟩⟩
end
section
open Go Go.RowKit Go.Shelf

section
variable {α : Type}
/-- A row of the call's own; its block and those inside lie in Z. -/
def RowZ (Y : Lay α) (et : TypeId) (Z : Nat → Prop) (w : World) (v : Value) (L : List α) : Prop :=
  ∃ us, w.ownsRow 0 et Y.sz v L.length us ∧ (∀ k, v.ownBlock = some k → Z k) ∧ ∀ j (h : j < L.length), ∃ xs, Y.is (fun k => Z k ∧ v.ownBlock ≠ some k) w xs L[j] ∧ ∀ i u, xs[i]? = some u → us[j * Y.sz + i]? = some u
theorem RowZ.nil (Y : Lay α) (et : TypeId) (Z : Nat → Prop) (w : World) : RowZ Y et Z w (.slice none 0 0) [] := ⟨[], World.ownsRow_nil w 0 _ _, fun k e => by simp [Value.ownBlock] at e, fun j h => by simp at h⟩
theorem RowZ.lt {Y : Lay α} {et : TypeId} {Z : Nat → Prop} {w : World} {v : Value} {L : List α} (h : RowZ Y et Z w v L) : ∀ k, v.ownBlock = some k → Z k ∧ k < w.heap.size := by
  obtain ⟨us, h, hz, -⟩ := h
  exact fun k e => ⟨hz k e, (World.ownsRow.lt h k e).2⟩
theorem RowZ.slice {Y : Lay α} {et : TypeId} {Z : Nat → Prop} {w : World} {v : Value} {L : List α} (h : RowZ Y et Z w v L) : ∃ p c, v = .slice p L.length c := by
  obtain ⟨us, h, -⟩ := h
  rcases h.2 with ⟨rfl, e⟩ | ⟨g, cap, cur, rfl, -⟩
  · exact ⟨none, 0, by rw [e]⟩
  · exact ⟨_, _, rfl⟩
theorem RowZ.keep {Y : Lay α} {et : TypeId} {Z Z' : Nat → Prop} {w w' : World} {v : Value} {L : List α} (h : RowZ Y et Z w v L) (hs : w.heap.size ≤ w'.heap.size) (hb : ∀ k, Z k → k < w.heap.size → Z' k ∧ w'.heap[k]? = w.heap[k]?) : RowZ Y et Z' w' v L := by
  have hlt := h.lt
  obtain ⟨us, h1, hz, h2⟩ := h
  refine ⟨us, ownsRow_keep h1 fun k e => (hb k (hlt k e).1 (hlt k e).2).2, fun k e => (hb k (hlt k e).1 (hlt k e).2).1, fun j hj => ?_⟩
  obtain ⟨xs, hx, hc⟩ := h2 j hj
  exact ⟨xs, Y.keep hx hs fun k e hk => ⟨⟨(hb k e.1 hk).1, e.2⟩, (hb k e.1 hk).2⟩, hc⟩
theorem RowZ.in_ {Y : Lay α} {et : TypeId} {Z : Nat → Prop} {w : World} {v : Value} {L : List α} (h : RowZ Y et Z w v L) : RowIn Y Z w v L := by
  obtain ⟨us, ho, hz, h⟩ := h
  rcases Nat.eq_zero_or_pos L.length with h0 | h0
  · obtain rfl := List.eq_nil_of_length_eq_zero h0
    rcases ho.2 with ⟨rfl, -⟩ | ⟨g, cap, cur, rfl, -, -, hnc, hcm, -⟩
    · exact ⟨none, 0, rfl, by simp, by simp, .inl rfl⟩
    · exact ⟨_, cap, rfl, by simp, hcm, .inl rfl⟩
  · have hcap : ∃ g cap, v = .slice (some ⟨g, 0, none⟩) L.length cap ∧ L.length ≤ cap ∧ cap ≤ maxLen ∧ g < w.heap.size := by
      rcases ho.2 with ⟨rfl, e⟩ | ⟨g, cap, cur, rfl, hB, hg, hnc, hcm, -⟩
      · omega
      · exact ⟨g, cap, rfl, hnc, hcm, (Array.getElem?_eq_some_iff.1 hg).1⟩
    obtain ⟨g, cap, rfl, g1, g2, g3⟩ := hcap
    refine ⟨_, cap, rfl, g1, g2, .inr ⟨g, 0, rfl, hz g rfl, g3, fun j hj => ?_⟩⟩
    obtain ⟨xs, hx, hc⟩ := h j hj
    refine ⟨xs, Y.keep hx (Nat.le_refl _) fun k e _ => ⟨e.1, rfl⟩, fun i u e => ?_⟩
    have hcell := World.ownsRow.cells ho (g := g) rfl (j * Y.sz + i) u (hc i u e)
    rw [addr_add] at hcell
    exact hcell
theorem run_appZ (Y : Lay α) (w : World) (Z Zx : Nat → Prop) (st et ty : TypeId) (z : Value) (by_ : Nat) (hu : Tryz.prog.underlying st = some (.slice et)) (hi : (Tryz.prog.info? et).map (fun i => (i.zero, i.size, i.bytes)) = some (some z, Y.sz, by_)) (hzc : z.cells.size = Y.sz) (hsz : 0 < Y.sz) (hby : by_ ≤ 1000) (v : Value) (T : List α) (x : α) (us : List Value) (b c : Nat)
    (hown : RowZ Y et Z w v T) (hx : Y.is Zx w us x) (hxo : ∀ k, Zx k → v.ownBlock ≠ some k) (hc : ∀ j u, us[j]? = some u → w.cell? ⟨b, 0 + j, none⟩ = some u) (hn : T.length ≤ 1000000) :
    ∃ v' w', (Builtin.append_ #[st, st] ty #[v, .slice (some ⟨b, 0, none⟩) 1 c]).run Tryz.prog w = .ok v' w' ∧ RowZ Y et (fun k => Z k ∨ Zx k ∨ k = w.heap.size) w' v' (T ++ [x]) ∧ w.grownBy w' v.ownBlock := by
  obtain ⟨i0, hi, hz0, hz1, hz2⟩ := info_parts hi
  have hbytes : (T.length + 1) * by_ ≤ 140737488355328 := by
    have : (T.length + 1) * by_ ≤ 1000001 * 1000 := Nat.mul_le_mul (by omega) hby
    omega
  have hlt := hown.lt
  obtain ⟨xs, ho, hzo, hxs⟩ := hown
  obtain ⟨v', w', hr, ho', hg, -, hv⟩ := run_append_own_at (P := Tryz.prog) w 0 st ty et i0 z Y.sz by_ hu hi hz0 hz1 hz2 hzc hsz v _ xs ho ⟨b, 0, none⟩ 1 c us
    (by rw [Y.len hx]; simp) (fun j u hu => by rw [addr_add]; exact hc j u hu) (Y.one hx) (by unfold maxLen; omega) hbytes (Nat.zero_le _)
  have hlen : xs.length = T.length * Y.sz := ho.1
  have hne : ∀ k, k < w.heap.size → v.ownBlock ≠ some k → v'.ownBlock ≠ some k := fun k hk e e2 => by
    rcases hv with hv | hv
    · exact e (hv.symm.trans e2)
    · rw [hv] at e2; cases e2; omega
  refine ⟨v', w', hr, ⟨xs ++ us, by rw [List.length_append]; exact ho', fun k e => ?_, fun j hj => ?_⟩, hg⟩
  · rcases hv with hv | hv
    · exact .inl (hzo k (hv.symm.trans e))
    · rw [hv] at e; cases e; exact .inr (.inr rfl)
  by_cases e : j < T.length
  · obtain ⟨ys, hy, hcy⟩ := hxs j e
    rw [List.getElem_append_left e]
    refine ⟨ys, Y.keep hy hg.size fun k e hk => ⟨⟨.inl e.1, hne k hk e.2⟩, hg.block k hk fun e2 => e.2 e2.symm⟩, fun i u hu => ?_⟩
    have := hcy i u hu
    rw [List.getElem?_append_left (List.getElem?_eq_some_iff.1 this).1]
    exact this
  · obtain rfl : j = T.length := by simp at hj; omega
    rw [List.getElem_append_right (Nat.le_refl _)]
    simp only [Nat.sub_self, List.getElem_cons_zero]
    refine ⟨us, Y.keep hx hg.size fun k e hk => ⟨⟨.inr (.inl e), hne k hk (hxo k e)⟩, hg.block k hk fun e2 => hxo k e e2.symm⟩, fun i u hu => ?_⟩
    rw [List.getElem?_append_right (by omega), hlen, Nat.add_sub_cancel_left]
    exact hu
theorem step_appZ {ops : Array Oper} {o : Oper} {a : Act} {w : World} {K : Act → World → Prop} {Q : Exit → Act → World → Prop} {E : Prop} (Y : Lay α) (hgd : o.guard = none) (s y : Operand) (st et : TypeId)
    (ho : o.op = .call { callee := .builtin .append, args := #[s, y], argTypes := #[st, st] }) (Z Zx : Nat → Prop) (z : Value) (by_ : Nat) (hu : Tryz.prog.underlying st = some (.slice et)) (hi : (Tryz.prog.info? et).map (fun i => (i.zero, i.size, i.bytes)) = some (some z, Y.sz, by_)) (hzc : z.cells.size = Y.sz) (hsz : 0 < Y.sz) (hby : by_ ≤ 1000) (v : Value) (T : List α) (x : α) (us : List Value) (b c : Nat)
    (hs : a.eval s = v) (hx : a.eval y = .slice (some ⟨b, 0, none⟩) 1 c) (hown : RowZ Y et Z w v T) (hin : Y.is Zx w us x) (hxo : ∀ k, Zx k → v.ownBlock ≠ some k) (hc : ∀ j u, us[j]? = some u → w.cell? ⟨b, 0 + j, none⟩ = some u) (hn : T.length ≤ 1000000)
    (h : ∀ v' w', RowZ Y et (fun k => Z k ∨ Zx k ∨ k = w.heap.size) w' v' (T ++ [x]) → w.grownBy w' v.ownBlock → K (a.put o.dst v') w') : if Region.wanted o (yielded ops a.tmps) = true then Oper.wp Tryz.prog o a w K Q else E := by
  have hw : Region.wanted o (yielded ops a.tmps) = true := by simp [Region.wanted, hgd]
  rw [if_pos hw]
  obtain ⟨v', w', hr, h2, h3⟩ := run_appZ Y w Z Zx st et o.type z by_ hu hi hzc hsz hby v T x us b c hown hin hxo hc hn
  unfold Oper.wp execOp
  simp only [ho, resolve, invoke, builtin, Sem.run_bind, Sem.run_pure, Result.andThen_ok, List.map_toArray, List.map_cons, List.map_nil, hs, hx, hr]
  exact h v' w' h2 h3
end
/-! Clauses -/
def ClL.decl? : ClL → Option DeL
  | .decl d => some d
  | _ => none
def ClL.on? : ClL → Option OnL
  | .on d => some d
  | _ => none
def ClL.rule? : ClL → Option RuL
  | .rule d => some d
  | _ => none
/-- The program of these clauses. -/
def ofCs (cs : List ClL) : PrL := ⟨cs.filterMap ClL.decl?, cs.filterMap ClL.on?, cs.filterMap ClL.rule?⟩
theorem clause_decl {L : List Wd} {x : Wd} (h : ∀ w ∈ x :: L, TidyW w) (hx : x.text = wBase ∨ x.text = wView) : clauseR (keys (x :: L)) = bindR (declR (x.text == wBase)) (fun d => pureR (.decl d)) (keys (x :: L)) := by
  unfold clauseR altR
  rcases hx with e | e
  · rw [if_pos (by rw [nxt_word h rfl]; simpa [txt] using e), e]
    rfl
  · rw [if_neg (by rw [nxt_word h rfl]; simp [txt, e]; decide), if_pos (by rw [nxt_word h rfl]; simpa [txt] using e), e]
    rfl
theorem clause_on {L : List Wd} {x : Wd} (h : ∀ w ∈ x :: L, TidyW w) (e : x.text = wOn) : clauseR (keys (x :: L)) = bindR onR (fun d => pureR (.on d)) (keys (x :: L)) := by
  unfold clauseR altR
  rw [if_neg (by rw [nxt_word h rfl]; simp [txt, e]; decide), if_neg (by rw [nxt_word h rfl]; simp [txt, e]; decide), if_pos (by rw [nxt_word h rfl]; simpa [txt] using e)]
theorem clause_rule {L : List Wd} (h : ∀ w ∈ L, TidyW w) (h1 : txt L ≠ wBase) (h2 : txt L ≠ wView) (h3 : txt L ≠ wOn) : clauseR (keys L) = bindR ruleR (fun d => pureR (.rule d)) (keys L) := by
  unfold clauseR altR
  rw [if_neg (by rw [nxt_word h rfl]; simpa using h1), if_neg (by rw [nxt_word h rfl]; simpa using h2), if_neg (by rw [nxt_word h rfl]; simpa using h3)]
/-- What is read behind these clauses. -/
def contP (cs : List ClL) (r : List Kt) : Rs (List ClL) := (progR r).bind fun ds x => .ok (cs ++ ds) x
theorem contP_nil (l : List Kt) : progR l = contP [] l := by
  unfold contP
  cases progR l <;> rfl
theorem contP_next {cs : List ClL} {l r : List Kt} {c : ClL} (hl : l ≠ []) (h : clauseR l = .ok c r) : contP cs l = contP (cs ++ [c]) r := by
  unfold contP
  rw [progR_eq hl, h]
  simp only [Rs.bind]
  cases progR r with
  | ok ds x => simp
  | bad x => rfl
theorem contP_bad {cs : List ClL} {l r : List Kt} (hl : l ≠ []) (h : clauseR l = .bad r) : contP cs l = .bad r := by
  unfold contP
  rw [progR_eq hl, h]
  rfl
theorem contP_end (cs : List ClL) : contP cs [] = .ok cs [] := by
  unfold contP
  rw [progR_nil]
  simp [Rs.bind]
end
end Go.Proofs.YtnbaemfkpfmheaaGreatDoor
