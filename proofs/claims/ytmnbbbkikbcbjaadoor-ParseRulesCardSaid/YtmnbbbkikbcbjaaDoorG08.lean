/-
  The program's reader: decl.
-/
import Derived.Test.YtmnbbbkikbcbjaaDoorG07
namespace Go.Proofs.YtmnbbbkikbcbjaaDoor
open Go Go.RowKit Go.Shelf

abbrev zDe : Obj := .cells #[.string ⟨#[]⟩, .bool false, .slice none 0 0] 62
abbrev bvO : Obj := .cells #[.string ⟨#[98, 97, 115, 101]⟩, .string ⟨#[118, 105, 101, 119]⟩] 9
abbrev brO (b : Nat) : Obj := .cells #[rdp b] 45
def deT (S : Nat → Prop) (w : World) (v : Value) (d : DeL) : Prop := ∃ u, v = .agg #[.string ⟨d.name.toArray⟩, .bool d.base, u] ∧ RowIn tyY S w u d.types
theorem bindR_assoc {α β γ : Type} (p : Rd α) (f : α → Rd β) (g : β → Rd γ) : bindR (bindR p f) g = bindR p fun a => bindR (f a) g := by
  funext l
  unfold bindR
  cases p l <;> rfl
theorem bindR_pure {α β : Type} (a : α) (f : α → Rd β) : bindR (pureR a) f = f a := rfl
theorem declR_eq (base : Bool) : declR base = bindR (tok1 fun _ => true) fun _ => bindR nameR fun nm => bindR (encR (sepL (isM [44]) kindR)) fun ts => bindR (markR [46]) fun _ => pureR ⟨base, nm, ts⟩ := by
  unfold declR encR rowR
  simp only [bindR_assoc, bindR_pure]
theorem which_at {S : List (List UInt8)} {n b e : Nat} {x : Wd} {L : List Wd} {W w' : World} {y : Ending} (K : Int) (h : WhEnd S n b e (x :: L) W y w') (hk : textAt S x.text 0 = K) (h0 : 0 ≤ K) : Turned (fun k => k = b) W w' ∧ Rp n w' b L e ∧ y = .returned (.int .i64 K) := by
  obtain ⟨ht, ⟨x', L', hL, -, rfl, hr⟩ | ⟨h1, -⟩⟩ := h
  · injection hL with e1 e2
    subst e1
    subst e2
    exact ⟨ht, hr, by rw [hk]⟩
  · have h2 : textAt S (txt (x :: L)) 0 = K := hk
    omega
/-- What the first region of a declaration holds: the reader, the boxes, and the new box where it is laid. -/
structure DSt (n b e : Nat) (W : World) (L : List Wd) (box : Option Nat) (X : World) : Prop where
  rd : Rp n X b L e
  only : Only W.heap.size b W X
  r0 : X.heap[W.heap.size]? = some (brO b)
  r2 : X.heap[W.heap.size + 1]? = some zDe
  sz : W.heap.size + 2 ≤ X.heap.size
  bx : ∀ ba, box = some ba → X.heap[ba]? = some zDe ∧ W.heap.size + 2 ≤ ba ∧ ba < X.heap.size
  lt : b < W.heap.size
theorem DSt.s {n b e : Nat} {W X : World} {L : List Wd} {box : Option Nat} (h : DSt n b e W L box X) : X.cell? ⟨W.heap.size, 0, none⟩ = some (rdp b) := cell_of_row X _ 0 _ _ (0, 0) h.r0
theorem DSt.on {n b e : Nat} {W X X' : World} {L L' : List Wd} {box : Option Nat} (h : DSt n b e W L box X) (ht : Turned (fun k => k = b) X X') (hr : Rp n X' b L' e) : DSt n b e W L' box X' := by
  have hb := h.lt
  have hs := h.sz
  exact ⟨hr, h.only.on ht, (ht.block _ (by omega) (by omega)).trans h.r0, (ht.block _ (by omega) (by omega)).trans h.r2, Nat.le_trans h.sz ht.size, fun ba e => ⟨(ht.block _ (h.bx ba e).2.2 (by have := (h.bx ba e).2.1; omega)).trans (h.bx ba e).1, (h.bx ba e).2.1, Nat.lt_of_lt_of_le (h.bx ba e).2.2 ht.size⟩, hb⟩
theorem DSt.alloc {n b e : Nat} {W X : World} {L : List Wd} {box : Option Nat} (h : DSt n b e W L box X) (o : Obj) : DSt n b e W L box (X.alloc o) := h.on (Turned.alloc _ X o) (h.rd.alloc o)
theorem DSt.box {n b e : Nat} {W X : World} {L : List Wd} (h : DSt n b e W L none X) (m : Nat) (hm : X.heap.size = m) : DSt n b e W L (some m) (X.alloc zDe) := by
  have h' := h.alloc zDe
  refine ⟨h'.rd, h'.only, h'.r0, h'.r2, h'.sz, fun ba e => ?_, h.lt⟩
  injection e with e
  subst e
  subst hm
  exact ⟨heap_alloc_new X zDe, h.sz, by simp⟩
theorem DSt.done {n b e : Nat} {W X : World} {L : List Wd} {ba : Nat} {box : Option Nat} {nm : List UInt8} {base : Bool} (h : DSt n b e W L box X) (hb : box = some ba) (hnW : n ≤ W.heap.size) : ∀ Y, Y = ((X.setCell ⟨ba, 0, none⟩ (.string ⟨nm.toArray⟩)).setCell ⟨ba, 1, none⟩ (.bool base)).setCell ⟨ba, 2, none⟩ (.slice none 0 0) →
    Y.cell? ⟨W.heap.size, 0, none⟩ = some (rdp b) ∧ Only W.heap.size b W Y ∧ Rp n Y b L e ∧ DeG W.heap.size b W.heap.size ba (W.heap.size + 1) zDe nm base Y [] := by
  rintro Y rfl
  obtain ⟨g1, g2, g3⟩ := h.bx ba hb
  have hs := h.sz
  have hl := h.lt
  have hn := h.rd.at_
  have hnle : n ≤ X.heap.size := h.rd.below_
  have q0 := (set3_off (w1 := X) (b := ba) (k := W.heap.size) (y0 := .string ⟨nm.toArray⟩) (y1 := .bool base) (y2 := .slice none 0 0) (by omega)).trans h.r0
  have q1 := (set3_off (w1 := X) (b := ba) (k := W.heap.size + 1) (y0 := .string ⟨nm.toArray⟩) (y1 := .bool base) (y2 := .slice none 0 0) (by omega)).trans h.r2
  have q2 := rowS3_set (y0 := .string ⟨nm.toArray⟩) (y1 := .bool base) (y2 := .slice none 0 0) g1
  refine ⟨cell_of_row _ _ 0 _ _ (0, 0) q0, ((h.only.set (by omega) _ _).set (by omega) _ _).set (by omega) _ _, ?_, ⟨⟨by omega, by simpa using g3, hl⟩, ⟨_, q2, RowIn.nil _ _ _⟩, Nat.le_refl _, by simp; omega, by omega, q0, by omega, by omega, by simp; omega, q1⟩⟩
  exact h.rd.turned (Z := fun k => k = ba) (((Turned.set X ba 0 _).trans (Turned.set _ ba 1 _) fun _ _ e => e).trans (Turned.set _ ba 2 _) fun _ _ e => e) fun k e => by omega
theorem DSt.cast {n b e : Nat} {W X Y : World} {L : List Wd} {box : Option Nat} (h : X = Y) (g : DSt n b e W L box Y) : DSt n b e W L box X := by
  rw [h]
  exact g
theorem TxsIn.cast {X Y : World} {v : Value} {S : List (List UInt8)} (h : X = Y) (g : TxsIn Y v S) : TxsIn X v S := by
  rw [h]
  exact g
theorem txs_at (X : World) (m : Nat) (hm : X.heap.size = m) : TxsIn (X.alloc bvO) (.slice (some ⟨m, 0, none⟩) 2 2) [wBase, wView] := by
  subst hm
  exact txs_new X [wBase, wView] (by simp) 2
theorem name_h {P : Program} {ops : Array Oper} {Q : Exit → Act → World → Prop} {md : Region.Mode} {S : World → Prop} {fuel : Nat} {listed : Array Bool} {a : Act} {W : World} (h : ∀ X, X = W → wpAnyH P md ops Q S fuel listed a X) : wpAnyH P md ops Q S fuel listed a W := h W rfl
set_option maxRecDepth 100000 in
set_option maxHeartbeats 8000000 in
theorem pdecl_any {W : World} {n b e : Nat} {x : Wd} {L : List Wd} (h : Rp n W b (x :: L) e) (hx : x.text = wBase ∨ x.text = wView) : Calls Tryd.prog 26 #[rdp b] W (PEnd (declR (x.text == wBase)) deT n b e (x :: L) W) := by
  have HR := Lib.hid h
  have hnW := h.below_
  have hlt := h.lt
  have mixed : Tryd.prog.follows .mixedOrders = true := by kernel_rfl
  have H0 : Hid (DSt n b e W (x :: L) none ((W.alloc (brO b)).alloc zDe).drew) := Lib.hid
    ⟨((h.alloc (brO b)).alloc zDe).drew, (((Only.refl b W).alloc (brO b)).alloc zDe).drew, (two_new W (brO b) zDe).1, (two_new W (brO b) zDe).2, by show W.heap.size + 2 ≤ ((W.alloc (brO b)).alloc zDe).heap.size; simp, fun _ e => (by cases e), hlt⟩
  have HTk := Lib.hid (show tok1 (fun _ => true) (keys (x :: L)) = .ok x.key (keys L) from tok1_yes rfl)
  obtain ⟨base, hbase⟩ : ∃ base, base = (x.text == wBase) := ⟨_, rfl⟩
  rw [← hbase]
  obtain ⟨KK, hKt, hK0, hKb⟩ : ∃ K : Int, textAt [wBase, wView] x.text 0 = K ∧ 0 ≤ K ∧ (K == 0) = base := by
    rw [textAt_two, hbase]
    rcases hx with e | e
    · exact ⟨0, by rw [e]; decide, by decide, by rw [e]; decide⟩
    · exact ⟨1, by rw [e]; decide, by decide, by rw [e]; decide⟩
  clear hbase hx h
  cases hnR : nameR (keys L) with
  | ok nm r =>
    have HNR := Lib.hid hnR
    clear hnR
    go_enter Tryd.func26, Tryd.ntmps26
    go_wp2_with fail
    refine wp_region_held_drew (S := fun X => X.cell? ⟨W.heap.size, 0, none⟩ = some (rdp b)) (by kernel_rfl) H0.out.s (fun _ => ?_)
    refine name_h fun Xr hXr => ?_
    replace H0 := Lib.hid (DSt.cast hXr H0.out)
    clear hXr
    refine take1 0 4 (v := ?_) rfl rfl (by kernel_rfl) (by kernel_rfl) (by kernel_rfl) (fun _ _ _ h => h) (by kernel_rfl) ?_ (H0.out.s) (by simp only [put_norm]; exact rfl) ?_
    rotate_left
    · rintro X0 s0; go_simp; try (with_reducible rfl)
    refine take1 1 5 (v := ?_) rfl rfl (by kernel_rfl) (by kernel_rfl) (by kernel_rfl) (fun _ _ _ h => h) (by kernel_rfl) ?_ (H0.out.s) (by simp only [put_norm]; exact rfl) ?_
    rotate_left
    · rintro X0 s0; go_simp; try (with_reducible rfl)
    refine take1 2 6 (v := ?_) rfl rfl (by kernel_rfl) (by kernel_rfl) (by kernel_rfl) (fun _ _ _ h => h) (by kernel_rfl) ?_ (H0.out.s) (by simp only [put_norm]; exact rfl) ?_
    rotate_left
    · rintro X0 s0; go_simp; try (with_reducible rfl)
    refine take1 6 10 (v := ?_) rfl rfl (by kernel_rfl) (by kernel_rfl) (by kernel_rfl) (fun _ _ _ h => h) (by kernel_rfl) ?_ (H0.out.s) (by simp only [put_norm]; exact rfl) ?_
    rotate_left
    · rintro X0 s0; go_simp; try (with_reducible rfl)
    refine wpAnyH_ready (rs := [3, 9]) (by kernel_rfl) (by simp) ?_
    refine AllReadyH.cons rfl (fun K hK => ?_) ?_
    · go_simp
      have H1a := Lib.hid (H0.out.alloc bvO)
      have HT1 := Lib.hid (txs_at Xr (Xr.heap.size) rfl)
      refine hK.out _ _ H1a.out.s (fun _ => ?_)
      clear hK K
      refine name_h fun X1 hX1 => ?_
      replace H1a := Lib.hid (DSt.cast hX1 H1a.out)
      replace HT1 := Lib.hid (TxsIn.cast hX1 HT1.out)
      clear hX1
      refine wpAnyH_ready (rs := [4, 9]) (by kernel_rfl) (by simp) ?_
      refine AllReadyH.cons rfl (fun K hK => ?_) ?_
      · go_simp
        refine (pwhich_any (S := [wBase, wView]) H1a.out.rd HT1.out (by decide)).mono ?_
        rintro y w1 hw
        obtain ⟨ht, hr, rfl⟩ := which_at KK hw hKt hK0
        have H2w := Lib.hid (H1a.out.on ht hr)
        clear hw ht hr
        go_wp2_with fail
        refine hK.out _ _ H2w.out.s (fun _ => ?_)
        clear hK K
        refine take1 5 9 (v := ?_) rfl rfl (by kernel_rfl) (by kernel_rfl) (by kernel_rfl) (fun _ _ _ h => h) (by kernel_rfl) ?_ (H2w.out.s) (by simp only [put_norm]; exact rfl) ?_
        rotate_left
        · rintro X0 s0; go_simp; try (with_reducible rfl)
        try simp only [hKb]
        refine wpAnyH_ready (rs := [7, 9]) (by kernel_rfl) (by simp) ?_
        refine AllReadyH.cons rfl (fun K hK => ?_) ?_
        · go_simp
          refine (pname_any H2w.out.rd).mono ?_
          rintro y w2 hn
          obtain ⟨ht2, L2, v, e2, hs2, rfl, hv2, hr2⟩ := PEnd.yes hn HNR.out
          obtain rfl : v = .string ⟨nm.toArray⟩ := hv2
          have H3n := Lib.hid (H2w.out.on ht2 hr2)
          have HL2 := Lib.hid (And.intro e2 hs2)
          clear hn ht2 e2 hs2 hr2
          go_wp2_with fail
          refine hK.out _ _ H3n.out.s (fun _ => ?_)
          clear hK K
          refine take1 8 12 (v := ?_) rfl rfl (by kernel_rfl) (by kernel_rfl) (by kernel_rfl) (fun _ _ _ h => h) (by kernel_rfl) ?_ (H3n.out.s) (by simp only [put_norm]; exact rfl) ?_
          rotate_left
          · rintro X0 s0; go_simp; try (with_reducible rfl)
          refine wpAnyH_ready (rs := [9]) (by kernel_rfl) (by simp) ?_
          refine AllReadyH.cons rfl (fun K hK => ?_) AllReadyH.nil
          go_simp
          have H4b := Lib.hid (H3n.out.box (w2.heap.size) rfl)
          refine hK.out _ _ H4b.out.s (fun _ => ?_)
          clear hK K
          refine name_h fun X4 hX4 => ?_
          replace H4b := Lib.hid (DSt.cast hX4 H4b.out)
          clear hX4
          obtain ⟨⟨e0, e1, e2⟩, j0, j1, j2⟩ := cells3 (H4b.out.bx _ rfl).1
          have HY := Lib.hid (H4b.out.done (nm := nm) (base := base) rfl hnW)
          refine wpAnyH_ready (rs := [10]) (by kernel_rfl) (by simp) ?_
          refine AllReadyH.cons rfl (fun K hK => ?_) AllReadyH.nil
          go_simp
          refine hK.out _ _ (HY.out _ rfl).1 (fun _ => ?_)
          clear hK K e0 e1 e2 j0 j1 j2
          refine wpAnyH_done (by kernel_rfl) ?_ _
          have x3 : _ := (HY.out _ rfl).1
          have HO3 := Lib.hid (HY.out _ rfl).2.1
          have HR3 := Lib.hid (HY.out _ rfl).2.2.1
          have HG3 := Lib.hid (HY.out _ rfl).2.2.2
          go_wp2_with fail
          refine (penclosed_any (sepL (isM [44]) kindR) 37 #[.pointer (some ⟨W.heap.size, 0, none⟩), .pointer (some ⟨w2.heap.size, 0, none⟩)] (fun _ _ => by kernel_rfl) HR3.out HO3.out HG3.out (fun _ _ _ h ht => h.on ht) (fun _ _ ho hg hr => pdecl1_any hg ho hr hnW)).mono ?_
          rintro y w5 ⟨ho, ⟨zs, L5, hp, hs, rfl, hg, hr⟩ | ⟨L5, hp, hs, rfl⟩⟩
          rotate_left
          · have HE5 := Lib.hid (And.intro ho (And.intro hp hs))
            clear ho hp hs
            go_wp2_with fail
            obtain ⟨ho, hp, hs⟩ := HE5.out
            exact ⟨rfl, Only.turned ho, .inr ⟨L5, by rw [declR_eq]; exact (bind_ok HTk.out).trans ((bind_ok (HNR.out.trans (by rw [HL2.out.1]))).trans (bind_bad hp)), hs.trans (HL2.out.2.trans (List.suffix_cons x L)), rfl⟩⟩
          have HE5 := Lib.hid (And.intro ho (And.intro hp (And.intro hs (And.intro hg hr))))
          have x5 : w5.cell? ⟨W.heap.size, 0, none⟩ = some (rdp b) := cell_of_row w5 _ 0 _ _ (0, 0) hg.2.2.2.2.2.1
          clear ho hp hs hg hr x3
          go_wp2_with fail
          refine (pmust_any [46] (by decide) HE5.out.2.2.2.2).mono ?_
          rintro y w6 ⟨ht, ⟨x6, L6, rfl, hx6, rfl, hr⟩ | ⟨hx6, rfl⟩⟩
          rotate_left
          · have HE6 := Lib.hid (And.intro ht hx6)
            clear ht hx6
            go_wp2_with fail
            obtain ⟨ho, hp, hs, hg, hr⟩ := HE5.out
            exact ⟨rfl, Only.turned (ho.on HE6.out.1), .inr ⟨L5, by rw [declR_eq]; exact (bind_ok HTk.out).trans ((bind_ok (HNR.out.trans (by rw [HL2.out.1]))).trans ((bind_ok hp).trans (bind_bad (mark_no hr.tidy rfl HE6.out.2)))), hs.trans (HL2.out.2.trans (List.suffix_cons x L)), rfl⟩⟩
          have HE6 := Lib.hid (And.intro ht (And.intro hr hx6))
          obtain ⟨⟨g1, g2, -⟩, ⟨u, g3, g4⟩, -, -, -, -, -, -, k3, k4⟩ := HE5.out.2.2.2.1.on ht
          obtain ⟨pu, cu, rfl, -⟩ := id g4
          obtain ⟨⟨d0, d1, d2⟩, m0, m1, m2⟩ := cells3 g3
          obtain ⟨⟨p0, p1, p2⟩, o0, o1, o2⟩ := cells3 k4
          have HK := Lib.hid k4
          have HV := Lib.hid g4
          clear ht hr hx6 g3 g4 k4 x5
          go_wp2_with fail
          refine bodyPost_ret (results_cell_row (fn := Tryd.f26) (by rfl) _ _ _ _ _ _ _ (by rfl) (rowS3_set HK.out) Tryd.underlying62 (by rfl) (by kernel_rfl)) (by rfl) ?_
          obtain ⟨ho, hp, hs, hg, hr5⟩ := HE5.out
          obtain ⟨ht, hr, hx6⟩ := HE6.out
          refine ⟨Only.turned ((((ho.on ht).set (Nat.le_succ _) _ _).set (Nat.le_succ _) _ _).set (Nat.le_succ _) _ _), .inl ⟨⟨base, nm, zs⟩, L6, _, ?_, (List.suffix_cons x6 L6).trans (hs.trans (HL2.out.2.trans (List.suffix_cons x L))), rfl, ⟨_, rfl, ?_⟩, ((hr.set (by omega) _ _).set (by omega) _ _).set (by omega) _ _⟩⟩
          · rw [declR_eq]
            exact (bind_ok HTk.out).trans ((bind_ok (HNR.out.trans (by rw [HL2.out.1]))).trans ((bind_ok hp).trans ((bind_ok (mark_yes (hr5.tidy x6 List.mem_cons_self) rfl hx6)).trans rfl)))
          · exact HV.out.keep (by simp) fun k e hk => ⟨e.1, set3_off e.2.2⟩
        refine AllReadyH.cons rfl (fun K hK => ?_) AllReadyH.nil
        go_simp
        have H3b := Lib.hid (H2w.out.box (w1.heap.size) rfl)
        refine hK.out _ _ H3b.out.s (fun _ => ?_)
        clear hK K
        refine name_h fun X3 hX3 => ?_
        replace H3b := Lib.hid (DSt.cast hX3 H3b.out)
        clear hX3
        refine wpAnyH_ready (rs := [7]) (by kernel_rfl) (by simp) ?_
        refine AllReadyH.cons rfl (fun K hK => ?_) AllReadyH.nil
        go_simp
        refine (pname_any H3b.out.rd).mono ?_
        rintro y w2 hn
        obtain ⟨ht2, L2, v, e2, hs2, rfl, hv2, hr2⟩ := PEnd.yes hn HNR.out
        obtain rfl : v = .string ⟨nm.toArray⟩ := hv2
        have H6n := Lib.hid (H3b.out.on ht2 hr2)
        have HL2 := Lib.hid (And.intro e2 hs2)
        clear hn ht2 e2 hs2 hr2
        go_wp2_with fail
        refine hK.out _ _ H6n.out.s (fun _ => ?_)
        clear hK K
        refine take1 8 12 (v := ?_) rfl rfl (by kernel_rfl) (by kernel_rfl) (by kernel_rfl) (fun _ _ _ h => h) (by kernel_rfl) ?_ (H6n.out.s) (by simp only [put_norm]; exact rfl) ?_
        rotate_left
        · rintro X0 s0; go_simp; try (with_reducible rfl)
        obtain ⟨⟨e0, e1, e2⟩, j0, j1, j2⟩ := cells3 (H6n.out.bx _ rfl).1
        have HY := Lib.hid (H6n.out.done (nm := nm) (base := base) rfl hnW)
        refine wpAnyH_ready (rs := [10]) (by kernel_rfl) (by simp) ?_
        refine AllReadyH.cons rfl (fun K hK => ?_) AllReadyH.nil
        go_simp
        refine hK.out _ _ (HY.out _ rfl).1 (fun _ => ?_)
        clear hK K e0 e1 e2 j0 j1 j2
        refine wpAnyH_done (by kernel_rfl) ?_ _
        have x3 : _ := (HY.out _ rfl).1
        have HO3 := Lib.hid (HY.out _ rfl).2.1
        have HR3 := Lib.hid (HY.out _ rfl).2.2.1
        have HG3 := Lib.hid (HY.out _ rfl).2.2.2
        go_wp2_with fail
        refine (penclosed_any (sepL (isM [44]) kindR) 37 #[.pointer (some ⟨W.heap.size, 0, none⟩), .pointer (some ⟨w1.heap.size, 0, none⟩)] (fun _ _ => by kernel_rfl) HR3.out HO3.out HG3.out (fun _ _ _ h ht => h.on ht) (fun _ _ ho hg hr => pdecl1_any hg ho hr hnW)).mono ?_
        rintro y w5 ⟨ho, ⟨zs, L5, hp, hs, rfl, hg, hr⟩ | ⟨L5, hp, hs, rfl⟩⟩
        rotate_left
        · have HE5 := Lib.hid (And.intro ho (And.intro hp hs))
          clear ho hp hs
          go_wp2_with fail
          obtain ⟨ho, hp, hs⟩ := HE5.out
          exact ⟨rfl, Only.turned ho, .inr ⟨L5, by rw [declR_eq]; exact (bind_ok HTk.out).trans ((bind_ok (HNR.out.trans (by rw [HL2.out.1]))).trans (bind_bad hp)), hs.trans (HL2.out.2.trans (List.suffix_cons x L)), rfl⟩⟩
        have HE5 := Lib.hid (And.intro ho (And.intro hp (And.intro hs (And.intro hg hr))))
        have x5 : w5.cell? ⟨W.heap.size, 0, none⟩ = some (rdp b) := cell_of_row w5 _ 0 _ _ (0, 0) hg.2.2.2.2.2.1
        clear ho hp hs hg hr x3
        go_wp2_with fail
        refine (pmust_any [46] (by decide) HE5.out.2.2.2.2).mono ?_
        rintro y w6 ⟨ht, ⟨x6, L6, rfl, hx6, rfl, hr⟩ | ⟨hx6, rfl⟩⟩
        rotate_left
        · have HE6 := Lib.hid (And.intro ht hx6)
          clear ht hx6
          go_wp2_with fail
          obtain ⟨ho, hp, hs, hg, hr⟩ := HE5.out
          exact ⟨rfl, Only.turned (ho.on HE6.out.1), .inr ⟨L5, by rw [declR_eq]; exact (bind_ok HTk.out).trans ((bind_ok (HNR.out.trans (by rw [HL2.out.1]))).trans ((bind_ok hp).trans (bind_bad (mark_no hr.tidy rfl HE6.out.2)))), hs.trans (HL2.out.2.trans (List.suffix_cons x L)), rfl⟩⟩
        have HE6 := Lib.hid (And.intro ht (And.intro hr hx6))
        obtain ⟨⟨g1, g2, -⟩, ⟨u, g3, g4⟩, -, -, -, -, -, -, k3, k4⟩ := HE5.out.2.2.2.1.on ht
        obtain ⟨pu, cu, rfl, -⟩ := id g4
        obtain ⟨⟨d0, d1, d2⟩, m0, m1, m2⟩ := cells3 g3
        obtain ⟨⟨p0, p1, p2⟩, o0, o1, o2⟩ := cells3 k4
        have HK := Lib.hid k4
        have HV := Lib.hid g4
        clear ht hr hx6 g3 g4 k4 x5
        go_wp2_with fail
        refine bodyPost_ret (results_cell_row (fn := Tryd.f26) (by rfl) _ _ _ _ _ _ _ (by rfl) (rowS3_set HK.out) Tryd.underlying62 (by rfl) (by kernel_rfl)) (by rfl) ?_
        obtain ⟨ho, hp, hs, hg, hr5⟩ := HE5.out
        obtain ⟨ht, hr, hx6⟩ := HE6.out
        refine ⟨Only.turned ((((ho.on ht).set (Nat.le_succ _) _ _).set (Nat.le_succ _) _ _).set (Nat.le_succ _) _ _), .inl ⟨⟨base, nm, zs⟩, L6, _, ?_, (List.suffix_cons x6 L6).trans (hs.trans (HL2.out.2.trans (List.suffix_cons x L))), rfl, ⟨_, rfl, ?_⟩, ((hr.set (by omega) _ _).set (by omega) _ _).set (by omega) _ _⟩⟩
        · rw [declR_eq]
          exact (bind_ok HTk.out).trans ((bind_ok (HNR.out.trans (by rw [HL2.out.1]))).trans ((bind_ok hp).trans ((bind_ok (mark_yes (hr5.tidy x6 List.mem_cons_self) rfl hx6)).trans rfl)))
        · exact HV.out.keep (by simp) fun k e hk => ⟨e.1, set3_off e.2.2⟩
      refine AllReadyH.cons rfl (fun K hK => ?_) AllReadyH.nil
      go_simp
      have H2b := Lib.hid (H1a.out.box (X1.heap.size) rfl)
      have HT2b := Lib.hid (TxsIn.keep HT1.out ((Below.refl _ _).alloc (Nat.le_refl _) zDe))
      refine hK.out _ _ H2b.out.s (fun _ => ?_)
      clear hK K
      refine name_h fun X2 hX2 => ?_
      replace H2b := Lib.hid (DSt.cast hX2 H2b.out)
      replace HT2b := Lib.hid (TxsIn.cast hX2 HT2b.out)
      clear hX2
      refine wpAnyH_ready (rs := [4]) (by kernel_rfl) (by simp) ?_
      refine AllReadyH.cons rfl (fun K hK => ?_) AllReadyH.nil
      go_simp
      refine (pwhich_any (S := [wBase, wView]) H2b.out.rd HT2b.out (by decide)).mono ?_
      rintro y w1 hw
      obtain ⟨ht, hr, rfl⟩ := which_at KK hw hKt hK0
      have H8w := Lib.hid (H2b.out.on ht hr)
      clear hw ht hr
      go_wp2_with fail
      refine hK.out _ _ H8w.out.s (fun _ => ?_)
      clear hK K
      refine take1 5 9 (v := ?_) rfl rfl (by kernel_rfl) (by kernel_rfl) (by kernel_rfl) (fun _ _ _ h => h) (by kernel_rfl) ?_ (H8w.out.s) (by simp only [put_norm]; exact rfl) ?_
      rotate_left
      · rintro X0 s0; go_simp; try (with_reducible rfl)
      try simp only [hKb]
      refine wpAnyH_ready (rs := [7]) (by kernel_rfl) (by simp) ?_
      refine AllReadyH.cons rfl (fun K hK => ?_) AllReadyH.nil
      go_simp
      refine (pname_any H8w.out.rd).mono ?_
      rintro y w2 hn
      obtain ⟨ht2, L2, v, e2, hs2, rfl, hv2, hr2⟩ := PEnd.yes hn HNR.out
      obtain rfl : v = .string ⟨nm.toArray⟩ := hv2
      have H9n := Lib.hid (H8w.out.on ht2 hr2)
      have HL2 := Lib.hid (And.intro e2 hs2)
      clear hn ht2 e2 hs2 hr2
      go_wp2_with fail
      refine hK.out _ _ H9n.out.s (fun _ => ?_)
      clear hK K
      refine take1 8 12 (v := ?_) rfl rfl (by kernel_rfl) (by kernel_rfl) (by kernel_rfl) (fun _ _ _ h => h) (by kernel_rfl) ?_ (H9n.out.s) (by simp only [put_norm]; exact rfl) ?_
      rotate_left
      · rintro X0 s0; go_simp; try (with_reducible rfl)
      obtain ⟨⟨e0, e1, e2⟩, j0, j1, j2⟩ := cells3 (H9n.out.bx _ rfl).1
      have HY := Lib.hid (H9n.out.done (nm := nm) (base := base) rfl hnW)
      refine wpAnyH_ready (rs := [10]) (by kernel_rfl) (by simp) ?_
      refine AllReadyH.cons rfl (fun K hK => ?_) AllReadyH.nil
      go_simp
      refine hK.out _ _ (HY.out _ rfl).1 (fun _ => ?_)
      clear hK K e0 e1 e2 j0 j1 j2
      refine wpAnyH_done (by kernel_rfl) ?_ _
      have x3 : _ := (HY.out _ rfl).1
      have HO3 := Lib.hid (HY.out _ rfl).2.1
      have HR3 := Lib.hid (HY.out _ rfl).2.2.1
      have HG3 := Lib.hid (HY.out _ rfl).2.2.2
      go_wp2_with fail
      refine (penclosed_any (sepL (isM [44]) kindR) 37 #[.pointer (some ⟨W.heap.size, 0, none⟩), .pointer (some ⟨X1.heap.size, 0, none⟩)] (fun _ _ => by kernel_rfl) HR3.out HO3.out HG3.out (fun _ _ _ h ht => h.on ht) (fun _ _ ho hg hr => pdecl1_any hg ho hr hnW)).mono ?_
      rintro y w5 ⟨ho, ⟨zs, L5, hp, hs, rfl, hg, hr⟩ | ⟨L5, hp, hs, rfl⟩⟩
      rotate_left
      · have HE5 := Lib.hid (And.intro ho (And.intro hp hs))
        clear ho hp hs
        go_wp2_with fail
        obtain ⟨ho, hp, hs⟩ := HE5.out
        exact ⟨rfl, Only.turned ho, .inr ⟨L5, by rw [declR_eq]; exact (bind_ok HTk.out).trans ((bind_ok (HNR.out.trans (by rw [HL2.out.1]))).trans (bind_bad hp)), hs.trans (HL2.out.2.trans (List.suffix_cons x L)), rfl⟩⟩
      have HE5 := Lib.hid (And.intro ho (And.intro hp (And.intro hs (And.intro hg hr))))
      have x5 : w5.cell? ⟨W.heap.size, 0, none⟩ = some (rdp b) := cell_of_row w5 _ 0 _ _ (0, 0) hg.2.2.2.2.2.1
      clear ho hp hs hg hr x3
      go_wp2_with fail
      refine (pmust_any [46] (by decide) HE5.out.2.2.2.2).mono ?_
      rintro y w6 ⟨ht, ⟨x6, L6, rfl, hx6, rfl, hr⟩ | ⟨hx6, rfl⟩⟩
      rotate_left
      · have HE6 := Lib.hid (And.intro ht hx6)
        clear ht hx6
        go_wp2_with fail
        obtain ⟨ho, hp, hs, hg, hr⟩ := HE5.out
        exact ⟨rfl, Only.turned (ho.on HE6.out.1), .inr ⟨L5, by rw [declR_eq]; exact (bind_ok HTk.out).trans ((bind_ok (HNR.out.trans (by rw [HL2.out.1]))).trans ((bind_ok hp).trans (bind_bad (mark_no hr.tidy rfl HE6.out.2)))), hs.trans (HL2.out.2.trans (List.suffix_cons x L)), rfl⟩⟩
      have HE6 := Lib.hid (And.intro ht (And.intro hr hx6))
      obtain ⟨⟨g1, g2, -⟩, ⟨u, g3, g4⟩, -, -, -, -, -, -, k3, k4⟩ := HE5.out.2.2.2.1.on ht
      obtain ⟨pu, cu, rfl, -⟩ := id g4
      obtain ⟨⟨d0, d1, d2⟩, m0, m1, m2⟩ := cells3 g3
      obtain ⟨⟨p0, p1, p2⟩, o0, o1, o2⟩ := cells3 k4
      have HK := Lib.hid k4
      have HV := Lib.hid g4
      clear ht hr hx6 g3 g4 k4 x5
      go_wp2_with fail
      refine bodyPost_ret (results_cell_row (fn := Tryd.f26) (by rfl) _ _ _ _ _ _ _ (by rfl) (rowS3_set HK.out) Tryd.underlying62 (by rfl) (by kernel_rfl)) (by rfl) ?_
      obtain ⟨ho, hp, hs, hg, hr5⟩ := HE5.out
      obtain ⟨ht, hr, hx6⟩ := HE6.out
      refine ⟨Only.turned ((((ho.on ht).set (Nat.le_succ _) _ _).set (Nat.le_succ _) _ _).set (Nat.le_succ _) _ _), .inl ⟨⟨base, nm, zs⟩, L6, _, ?_, (List.suffix_cons x6 L6).trans (hs.trans (HL2.out.2.trans (List.suffix_cons x L))), rfl, ⟨_, rfl, ?_⟩, ((hr.set (by omega) _ _).set (by omega) _ _).set (by omega) _ _⟩⟩
      · rw [declR_eq]
        exact (bind_ok HTk.out).trans ((bind_ok (HNR.out.trans (by rw [HL2.out.1]))).trans ((bind_ok hp).trans ((bind_ok (mark_yes (hr5.tidy x6 List.mem_cons_self) rfl hx6)).trans rfl)))
      · exact HV.out.keep (by simp) fun k e hk => ⟨e.1, set3_off e.2.2⟩
    refine AllReadyH.cons rfl (fun K hK => ?_) AllReadyH.nil
    go_simp
    have H1b := Lib.hid (H0.out.box (Xr.heap.size) rfl)
    refine hK.out _ _ H1b.out.s (fun _ => ?_)
    clear hK K
    refine name_h fun X1 hX1 => ?_
    replace H1b := Lib.hid (DSt.cast hX1 H1b.out)
    clear hX1
    refine wpAnyH_ready (rs := [3]) (by kernel_rfl) (by simp) ?_
    refine AllReadyH.cons rfl (fun K hK => ?_) AllReadyH.nil
    go_simp
    have H11a := Lib.hid (H1b.out.alloc bvO)
    have HT11 := Lib.hid (txs_at X1 (X1.heap.size) rfl)
    refine hK.out _ _ H11a.out.s (fun _ => ?_)
    clear hK K
    refine name_h fun X11 hX11 => ?_
    replace H11a := Lib.hid (DSt.cast hX11 H11a.out)
    replace HT11 := Lib.hid (TxsIn.cast hX11 HT11.out)
    clear hX11
    refine wpAnyH_ready (rs := [4]) (by kernel_rfl) (by simp) ?_
    refine AllReadyH.cons rfl (fun K hK => ?_) AllReadyH.nil
    go_simp
    refine (pwhich_any (S := [wBase, wView]) H11a.out.rd HT11.out (by decide)).mono ?_
    rintro y w1 hw
    obtain ⟨ht, hr, rfl⟩ := which_at KK hw hKt hK0
    have H12w := Lib.hid (H11a.out.on ht hr)
    clear hw ht hr
    go_wp2_with fail
    refine hK.out _ _ H12w.out.s (fun _ => ?_)
    clear hK K
    refine take1 5 9 (v := ?_) rfl rfl (by kernel_rfl) (by kernel_rfl) (by kernel_rfl) (fun _ _ _ h => h) (by kernel_rfl) ?_ (H12w.out.s) (by simp only [put_norm]; exact rfl) ?_
    rotate_left
    · rintro X0 s0; go_simp; try (with_reducible rfl)
    try simp only [hKb]
    refine wpAnyH_ready (rs := [7]) (by kernel_rfl) (by simp) ?_
    refine AllReadyH.cons rfl (fun K hK => ?_) AllReadyH.nil
    go_simp
    refine (pname_any H12w.out.rd).mono ?_
    rintro y w2 hn
    obtain ⟨ht2, L2, v, e2, hs2, rfl, hv2, hr2⟩ := PEnd.yes hn HNR.out
    obtain rfl : v = .string ⟨nm.toArray⟩ := hv2
    have H13n := Lib.hid (H12w.out.on ht2 hr2)
    have HL2 := Lib.hid (And.intro e2 hs2)
    clear hn ht2 e2 hs2 hr2
    go_wp2_with fail
    refine hK.out _ _ H13n.out.s (fun _ => ?_)
    clear hK K
    refine take1 8 12 (v := ?_) rfl rfl (by kernel_rfl) (by kernel_rfl) (by kernel_rfl) (fun _ _ _ h => h) (by kernel_rfl) ?_ (H13n.out.s) (by simp only [put_norm]; exact rfl) ?_
    rotate_left
    · rintro X0 s0; go_simp; try (with_reducible rfl)
    obtain ⟨⟨e0, e1, e2⟩, j0, j1, j2⟩ := cells3 (H13n.out.bx _ rfl).1
    have HY := Lib.hid (H13n.out.done (nm := nm) (base := base) rfl hnW)
    refine wpAnyH_ready (rs := [10]) (by kernel_rfl) (by simp) ?_
    refine AllReadyH.cons rfl (fun K hK => ?_) AllReadyH.nil
    go_simp
    refine hK.out _ _ (HY.out _ rfl).1 (fun _ => ?_)
    clear hK K e0 e1 e2 j0 j1 j2
    refine wpAnyH_done (by kernel_rfl) ?_ _
    have x3 : _ := (HY.out _ rfl).1
    have HO3 := Lib.hid (HY.out _ rfl).2.1
    have HR3 := Lib.hid (HY.out _ rfl).2.2.1
    have HG3 := Lib.hid (HY.out _ rfl).2.2.2
    go_wp2_with fail
    refine (penclosed_any (sepL (isM [44]) kindR) 37 #[.pointer (some ⟨W.heap.size, 0, none⟩), .pointer (some ⟨Xr.heap.size, 0, none⟩)] (fun _ _ => by kernel_rfl) HR3.out HO3.out HG3.out (fun _ _ _ h ht => h.on ht) (fun _ _ ho hg hr => pdecl1_any hg ho hr hnW)).mono ?_
    rintro y w5 ⟨ho, ⟨zs, L5, hp, hs, rfl, hg, hr⟩ | ⟨L5, hp, hs, rfl⟩⟩
    rotate_left
    · have HE5 := Lib.hid (And.intro ho (And.intro hp hs))
      clear ho hp hs
      go_wp2_with fail
      obtain ⟨ho, hp, hs⟩ := HE5.out
      exact ⟨rfl, Only.turned ho, .inr ⟨L5, by rw [declR_eq]; exact (bind_ok HTk.out).trans ((bind_ok (HNR.out.trans (by rw [HL2.out.1]))).trans (bind_bad hp)), hs.trans (HL2.out.2.trans (List.suffix_cons x L)), rfl⟩⟩
    have HE5 := Lib.hid (And.intro ho (And.intro hp (And.intro hs (And.intro hg hr))))
    have x5 : w5.cell? ⟨W.heap.size, 0, none⟩ = some (rdp b) := cell_of_row w5 _ 0 _ _ (0, 0) hg.2.2.2.2.2.1
    clear ho hp hs hg hr x3
    go_wp2_with fail
    refine (pmust_any [46] (by decide) HE5.out.2.2.2.2).mono ?_
    rintro y w6 ⟨ht, ⟨x6, L6, rfl, hx6, rfl, hr⟩ | ⟨hx6, rfl⟩⟩
    rotate_left
    · have HE6 := Lib.hid (And.intro ht hx6)
      clear ht hx6
      go_wp2_with fail
      obtain ⟨ho, hp, hs, hg, hr⟩ := HE5.out
      exact ⟨rfl, Only.turned (ho.on HE6.out.1), .inr ⟨L5, by rw [declR_eq]; exact (bind_ok HTk.out).trans ((bind_ok (HNR.out.trans (by rw [HL2.out.1]))).trans ((bind_ok hp).trans (bind_bad (mark_no hr.tidy rfl HE6.out.2)))), hs.trans (HL2.out.2.trans (List.suffix_cons x L)), rfl⟩⟩
    have HE6 := Lib.hid (And.intro ht (And.intro hr hx6))
    obtain ⟨⟨g1, g2, -⟩, ⟨u, g3, g4⟩, -, -, -, -, -, -, k3, k4⟩ := HE5.out.2.2.2.1.on ht
    obtain ⟨pu, cu, rfl, -⟩ := id g4
    obtain ⟨⟨d0, d1, d2⟩, m0, m1, m2⟩ := cells3 g3
    obtain ⟨⟨p0, p1, p2⟩, o0, o1, o2⟩ := cells3 k4
    have HK := Lib.hid k4
    have HV := Lib.hid g4
    clear ht hr hx6 g3 g4 k4 x5
    go_wp2_with fail
    refine bodyPost_ret (results_cell_row (fn := Tryd.f26) (by rfl) _ _ _ _ _ _ _ (by rfl) (rowS3_set HK.out) Tryd.underlying62 (by rfl) (by kernel_rfl)) (by rfl) ?_
    obtain ⟨ho, hp, hs, hg, hr5⟩ := HE5.out
    obtain ⟨ht, hr, hx6⟩ := HE6.out
    refine ⟨Only.turned ((((ho.on ht).set (Nat.le_succ _) _ _).set (Nat.le_succ _) _ _).set (Nat.le_succ _) _ _), .inl ⟨⟨base, nm, zs⟩, L6, _, ?_, (List.suffix_cons x6 L6).trans (hs.trans (HL2.out.2.trans (List.suffix_cons x L))), rfl, ⟨_, rfl, ?_⟩, ((hr.set (by omega) _ _).set (by omega) _ _).set (by omega) _ _⟩⟩
    · rw [declR_eq]
      exact (bind_ok HTk.out).trans ((bind_ok (HNR.out.trans (by rw [HL2.out.1]))).trans ((bind_ok hp).trans ((bind_ok (mark_yes (hr5.tidy x6 List.mem_cons_self) rfl hx6)).trans rfl)))
    · exact HV.out.keep (by simp) fun k e hk => ⟨e.1, set3_off e.2.2⟩
  | bad r =>
    have HNR := Lib.hid hnR
    clear hnR
    go_enter Tryd.func26, Tryd.ntmps26
    go_wp2_with fail
    refine wp_region_held_drew (S := fun X => X.cell? ⟨W.heap.size, 0, none⟩ = some (rdp b)) (by kernel_rfl) H0.out.s (fun _ => ?_)
    refine name_h fun Xr hXr => ?_
    replace H0 := Lib.hid (DSt.cast hXr H0.out)
    clear hXr
    refine take1 0 4 (v := ?_) rfl rfl (by kernel_rfl) (by kernel_rfl) (by kernel_rfl) (fun _ _ _ h => h) (by kernel_rfl) ?_ (H0.out.s) (by simp only [put_norm]; exact rfl) ?_
    rotate_left
    · rintro X0 s0; go_simp; try (with_reducible rfl)
    refine take1 1 5 (v := ?_) rfl rfl (by kernel_rfl) (by kernel_rfl) (by kernel_rfl) (fun _ _ _ h => h) (by kernel_rfl) ?_ (H0.out.s) (by simp only [put_norm]; exact rfl) ?_
    rotate_left
    · rintro X0 s0; go_simp; try (with_reducible rfl)
    refine take1 2 6 (v := ?_) rfl rfl (by kernel_rfl) (by kernel_rfl) (by kernel_rfl) (fun _ _ _ h => h) (by kernel_rfl) ?_ (H0.out.s) (by simp only [put_norm]; exact rfl) ?_
    rotate_left
    · rintro X0 s0; go_simp; try (with_reducible rfl)
    refine take1 6 10 (v := ?_) rfl rfl (by kernel_rfl) (by kernel_rfl) (by kernel_rfl) (fun _ _ _ h => h) (by kernel_rfl) ?_ (H0.out.s) (by simp only [put_norm]; exact rfl) ?_
    rotate_left
    · rintro X0 s0; go_simp; try (with_reducible rfl)
    refine wpAnyH_ready (rs := [3, 9]) (by kernel_rfl) (by simp) ?_
    refine AllReadyH.cons rfl (fun K hK => ?_) ?_
    · go_simp
      have H15a := Lib.hid (H0.out.alloc bvO)
      have HT15 := Lib.hid (txs_at Xr (Xr.heap.size) rfl)
      refine hK.out _ _ H15a.out.s (fun _ => ?_)
      clear hK K
      refine name_h fun X15 hX15 => ?_
      replace H15a := Lib.hid (DSt.cast hX15 H15a.out)
      replace HT15 := Lib.hid (TxsIn.cast hX15 HT15.out)
      clear hX15
      refine wpAnyH_ready (rs := [4, 9]) (by kernel_rfl) (by simp) ?_
      refine AllReadyH.cons rfl (fun K hK => ?_) ?_
      · go_simp
        refine (pwhich_any (S := [wBase, wView]) H15a.out.rd HT15.out (by decide)).mono ?_
        rintro y w1 hw
        obtain ⟨ht, hr, rfl⟩ := which_at KK hw hKt hK0
        have H16w := Lib.hid (H15a.out.on ht hr)
        clear hw ht hr
        go_wp2_with fail
        refine hK.out _ _ H16w.out.s (fun _ => ?_)
        clear hK K
        refine take1 5 9 (v := ?_) rfl rfl (by kernel_rfl) (by kernel_rfl) (by kernel_rfl) (fun _ _ _ h => h) (by kernel_rfl) ?_ (H16w.out.s) (by simp only [put_norm]; exact rfl) ?_
        rotate_left
        · rintro X0 s0; go_simp; try (with_reducible rfl)
        try simp only [hKb]
        refine wpAnyH_ready (rs := [7, 9]) (by kernel_rfl) (by simp) ?_
        refine AllReadyH.cons rfl (fun K hK => ?_) ?_
        · go_simp
          refine (pname_any H16w.out.rd).mono ?_
          rintro y w2 hn
          obtain ⟨ht2, L2, e2, hs2, rfl⟩ := PEnd.bad_ hn HNR.out
          exact ⟨rfl, Only.turned (H16w.out.only.on ht2), .inr ⟨L2, by rw [declR_eq]; exact (bind_ok HTk.out).trans (bind_bad (HNR.out.trans (by rw [e2]))), hs2.trans (List.suffix_cons x L), rfl⟩⟩
        refine AllReadyH.cons rfl (fun K hK => ?_) AllReadyH.nil
        go_simp
        have H17b := Lib.hid (H16w.out.box (w1.heap.size) rfl)
        refine hK.out _ _ H17b.out.s (fun _ => ?_)
        clear hK K
        refine name_h fun X17 hX17 => ?_
        replace H17b := Lib.hid (DSt.cast hX17 H17b.out)
        clear hX17
        refine wpAnyH_ready (rs := [7]) (by kernel_rfl) (by simp) ?_
        refine AllReadyH.cons rfl (fun K hK => ?_) AllReadyH.nil
        go_simp
        refine (pname_any H17b.out.rd).mono ?_
        rintro y w2 hn
        obtain ⟨ht2, L2, e2, hs2, rfl⟩ := PEnd.bad_ hn HNR.out
        exact ⟨rfl, Only.turned (H17b.out.only.on ht2), .inr ⟨L2, by rw [declR_eq]; exact (bind_ok HTk.out).trans (bind_bad (HNR.out.trans (by rw [e2]))), hs2.trans (List.suffix_cons x L), rfl⟩⟩
      refine AllReadyH.cons rfl (fun K hK => ?_) AllReadyH.nil
      go_simp
      have H16b := Lib.hid (H15a.out.box (X15.heap.size) rfl)
      have HT16b := Lib.hid (TxsIn.keep HT15.out ((Below.refl _ _).alloc (Nat.le_refl _) zDe))
      refine hK.out _ _ H16b.out.s (fun _ => ?_)
      clear hK K
      refine name_h fun X16 hX16 => ?_
      replace H16b := Lib.hid (DSt.cast hX16 H16b.out)
      replace HT16b := Lib.hid (TxsIn.cast hX16 HT16b.out)
      clear hX16
      refine wpAnyH_ready (rs := [4]) (by kernel_rfl) (by simp) ?_
      refine AllReadyH.cons rfl (fun K hK => ?_) AllReadyH.nil
      go_simp
      refine (pwhich_any (S := [wBase, wView]) H16b.out.rd HT16b.out (by decide)).mono ?_
      rintro y w1 hw
      obtain ⟨ht, hr, rfl⟩ := which_at KK hw hKt hK0
      have H19w := Lib.hid (H16b.out.on ht hr)
      clear hw ht hr
      go_wp2_with fail
      refine hK.out _ _ H19w.out.s (fun _ => ?_)
      clear hK K
      refine take1 5 9 (v := ?_) rfl rfl (by kernel_rfl) (by kernel_rfl) (by kernel_rfl) (fun _ _ _ h => h) (by kernel_rfl) ?_ (H19w.out.s) (by simp only [put_norm]; exact rfl) ?_
      rotate_left
      · rintro X0 s0; go_simp; try (with_reducible rfl)
      try simp only [hKb]
      refine wpAnyH_ready (rs := [7]) (by kernel_rfl) (by simp) ?_
      refine AllReadyH.cons rfl (fun K hK => ?_) AllReadyH.nil
      go_simp
      refine (pname_any H19w.out.rd).mono ?_
      rintro y w2 hn
      obtain ⟨ht2, L2, e2, hs2, rfl⟩ := PEnd.bad_ hn HNR.out
      exact ⟨rfl, Only.turned (H19w.out.only.on ht2), .inr ⟨L2, by rw [declR_eq]; exact (bind_ok HTk.out).trans (bind_bad (HNR.out.trans (by rw [e2]))), hs2.trans (List.suffix_cons x L), rfl⟩⟩
    refine AllReadyH.cons rfl (fun K hK => ?_) AllReadyH.nil
    go_simp
    have H15b := Lib.hid (H0.out.box (Xr.heap.size) rfl)
    refine hK.out _ _ H15b.out.s (fun _ => ?_)
    clear hK K
    refine name_h fun X15 hX15 => ?_
    replace H15b := Lib.hid (DSt.cast hX15 H15b.out)
    clear hX15
    refine wpAnyH_ready (rs := [3]) (by kernel_rfl) (by simp) ?_
    refine AllReadyH.cons rfl (fun K hK => ?_) AllReadyH.nil
    go_simp
    have H21a := Lib.hid (H15b.out.alloc bvO)
    have HT21 := Lib.hid (txs_at X15 (X15.heap.size) rfl)
    refine hK.out _ _ H21a.out.s (fun _ => ?_)
    clear hK K
    refine name_h fun X21 hX21 => ?_
    replace H21a := Lib.hid (DSt.cast hX21 H21a.out)
    replace HT21 := Lib.hid (TxsIn.cast hX21 HT21.out)
    clear hX21
    refine wpAnyH_ready (rs := [4]) (by kernel_rfl) (by simp) ?_
    refine AllReadyH.cons rfl (fun K hK => ?_) AllReadyH.nil
    go_simp
    refine (pwhich_any (S := [wBase, wView]) H21a.out.rd HT21.out (by decide)).mono ?_
    rintro y w1 hw
    obtain ⟨ht, hr, rfl⟩ := which_at KK hw hKt hK0
    have H22w := Lib.hid (H21a.out.on ht hr)
    clear hw ht hr
    go_wp2_with fail
    refine hK.out _ _ H22w.out.s (fun _ => ?_)
    clear hK K
    refine take1 5 9 (v := ?_) rfl rfl (by kernel_rfl) (by kernel_rfl) (by kernel_rfl) (fun _ _ _ h => h) (by kernel_rfl) ?_ (H22w.out.s) (by simp only [put_norm]; exact rfl) ?_
    rotate_left
    · rintro X0 s0; go_simp; try (with_reducible rfl)
    try simp only [hKb]
    refine wpAnyH_ready (rs := [7]) (by kernel_rfl) (by simp) ?_
    refine AllReadyH.cons rfl (fun K hK => ?_) AllReadyH.nil
    go_simp
    refine (pname_any H22w.out.rd).mono ?_
    rintro y w2 hn
    obtain ⟨ht2, L2, e2, hs2, rfl⟩ := PEnd.bad_ hn HNR.out
    exact ⟨rfl, Only.turned (H22w.out.only.on ht2), .inr ⟨L2, by rw [declR_eq]; exact (bind_ok HTk.out).trans (bind_bad (HNR.out.trans (by rw [e2]))), hs2.trans (List.suffix_cons x L), rfl⟩⟩
end Go.Proofs.YtmnbbbkikbcbjaaDoor
