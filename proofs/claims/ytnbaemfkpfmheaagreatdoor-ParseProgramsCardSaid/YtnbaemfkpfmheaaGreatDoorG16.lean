/-
  The document's reader: atom.
  The document's reader: literal, act.
  The document's reader: rule.
  The document's reader: decl.
  The document's reader: on.
  The document's reader: open, end, Rule, Atom.
  The document's reader: Program.
-/
import Derived.Test.YtnbaemfkpfmheaaGreatDoorG15
import Derived.Test.YtnbaemfkpfmheaaGreatDoorLxX
import Derived.Test.YtnbaemfkpfmheaaGreatDoorG06
namespace Go.Proofs.YtnbaemfkpfmheaaGreatDoor
section
open Go Go.RowKit Go.Shelf

def aqT (S : Nat → Prop) (w : World) (v : Value) (a : AtL) : Prop := ∃ u, v = .agg #[.string ⟨a.pred.toArray⟩, u] ∧ RowIn tmY S w u a.args
set_option maxRecDepth 100000 in
set_option maxHeartbeats 4000000 in
theorem qatom_any {n b e : Nat} {W : World} {L : List Wd} {s : Qs} (h : Rq n W b L e s) :
    Calls Tryz.prog 35 #[rdq b] W (QEnd atomR aqT n b e L s W) := by
  have HR := Lib.hid h
  have hlt := h.lt
  have hnW := h.below_
  have hne : W.heap.size ≠ b := by omega
  have HEat := Lib.hid (fit_term.eats)
  clear h
  go_enter Tryz.func35, Tryz.ntmps35
  go_wp2_with fail
  refine (qtakeName_any (HR.out.alloc (.cells #[.string ⟨#[]⟩, .slice none 0 0] 38))).mono ?_
  rintro y w1 ⟨ht, nm, s1, v1, ha, rfl, hv, hr⟩
  obtain rfl : v1 = .string ⟨nm.toArray⟩ := hv
  obtain ⟨ba, hba⟩ : ∃ ba, ba = w1.heap.size := ⟨_, rfl⟩
  have hz1 : W.heap.size + 1 ≤ w1.heap.size := by have := ht.size; simpa using this
  have hr0 : w1.heap[W.heap.size]? = some (.cells #[.string ⟨#[]⟩, .slice none 0 0] 38 (0, 0)) := (ht.block _ (by simp) hne).trans (heap_alloc_new W _)
  have HB1 : Hid (LqB tmY 84 n b e L W ba (ba + 1) 38 (fun y => #[.string ⟨nm.toArray⟩, y]) (.cells #[.string ⟨#[]⟩, .slice none 0 0] 38 (0, 0)) w1 (.slice none 0 0) [] s1 (w1.alloc (.cells #[.string ⟨nm.toArray⟩, .slice none 0 0] 38))) := Lib.hid (by
    rw [hba]
    exact ⟨RowOwn.nil _ _ _ _, hr.alloc _, (((Only.refl b W).alloc _).on ht).alloc _, heap_alloc_new w1 _, (Below.heap_alloc _ _ _ (by omega)).trans hr0, fun k _ k2 k3 => Below.heap_alloc _ _ _ (by omega), by omega, by omega, by simp, hnW⟩)
  have HA1 := Lib.hid ha
  clear ht ha hr hr0
  go_wp2_with fail
  rw [← hba]
  refine (qmark_any HB1.out.rd [40] rfl).mono ?_
  rintro y w2 ⟨ht, u2, s2, v2, ha, rfl, rfl, hr⟩
  have HB2 := Lib.hid (HB1.out.turn ht hr)
  have HP : Hid (∀ (zs : List TmL) (s' : Qs), Aft (rowR termR) L e s2 zs s' → Aft atomR L e s ⟨nm, zs⟩ s') := Lib.hid (fun zs s' h => HA1.out.bind (ha.bind (h.map fun l0 => (⟨nm, l0⟩ : AtL))))
  clear ht ha hr hba hz1
  go_wp2_with fail
  refine (qnext_any HB2.out.rd 6 [41]).mono ?_
  rw [isKT_m (m := [41]) rfl]
  rintro y w3 ⟨⟨hx, rfl⟩ | ⟨hx, rfl⟩, hs, hr⟩
  · obtain ⟨c1, f1, -, hl⟩ := hr.inc
    have hi := nxB.lt hx
    have HB3 := Lib.hid ((HB2.out.still hs).inc hi)
    have HA3 := Lib.hid (Aft.step (e := e) hx hi)
    have HX := Lib.hid hx
    obtain ⟨⟨x0, x1⟩, xf0, xf1⟩ := cells2 (HB2.out.still hs).box
    obtain ⟨⟨y0, y1⟩, yf0, yf1⟩ := cells2 (HB2.out.still hs).res
    have hlo := HB3.out.lo
    have hbq : b ≠ ba := by have := HB3.out.lt; omega
    have hbw : b ≠ W.heap.size := by omega
    have hbq' : ba ≠ b := Ne.symm hbq
    clear hs hr hx
    go_wp2_with fail
    refine bodyPost_ret (results_cell_row (fn := Tryz.f35) (by rfl) _ _ _ _ _ _ _ (by rfl) (row2_set HB3.out.res) Tryz.underlying38 (by rfl) (by kernel_rfl)) (by rfl) ?_
    refine ⟨Only.turned ((HB3.out.only.set (Nat.le_refl _) _ _).set (Nat.le_refl _) _ _), ⟨nm, []⟩, _, _, ?_, rfl, ⟨_, rfl, RowIn.nil _ _ _⟩, (HB3.out.rd.set HB3.out.nW _ _).set HB3.out.nW _ _⟩
    exact HP.out _ _ (Aft.bind (Aft.alt_yes (Aft.pure HB2.out.rd.le []) HX.out) ((HA3.out.map fun _ => ()).map fun _ => ([] : List TmL)))
  · have HB3 := Lib.hid (HB2.out.still hs)
    have HX := Lib.hid hx
    obtain ⟨s0, hs0⟩ : ∃ s0, s0 = s2 := ⟨_, rfl⟩
    have hJ0 : Hid (LqB tmY 84 n b e L W ba (ba + 1) 38 (fun y => #[.string ⟨nm.toArray⟩, y]) (.cells #[.string ⟨#[]⟩, .slice none 0 0] 38 (0, 0)) w1 (.slice none 0 0) [] s2 w3 ∧ (∀ rest s', Aft (sepL (isM [44]) termR) L e s2 rest s' → Aft (sepL (isM [44]) termR) L e s0 ([] ++ rest) s') ∧ ([] : List TmL).length ≤ s2.i) := Lib.hid ⟨HB3.out, fun rest s' h => by rw [hs0]; exact h, Nat.zero_le _⟩
    rw [← hs0] at HX HP
    clear hs hr hx hs0
    go_wp2_with fail
    go_loopw [19] (fun _ wr => ∃ v zs s, Hid (LqB tmY 84 n b e L W ba (ba + 1) 38 (fun y => #[.string ⟨nm.toArray⟩, y]) (.cells #[.string ⟨#[]⟩, .slice none 0 0] 38 (0, 0)) w1 v zs s wr ∧ (∀ rest s', Aft (sepL (isM [44]) termR) L e s rest s' → Aft (sepL (isM [44]) termR) L e s0 (zs ++ rest) s') ∧ zs.length ≤ s.i)) (fun _ wr => L.length + 1 - atW wr b)
    case atStart => exact ⟨_, _, _, hJ0⟩
    case round =>
      obtain ⟨v, zs, s, HJ⟩ := hrel
      obtain ⟨c1, f1, c3, hl⟩ := HJ.out.1.rd.inc
      cases hbad : s.bad with
      | true =>
        rw [hbad] at c3
        have HM := Lib.hid (And.intro HJ.out.1 (show Aft (sepL (isM [44]) termR) L e s0 zs s by have h := HJ.out.2.1 [] s (Aft.stay HJ.out.1.rd.le hbad []); rwa [List.append_nil] at h))
        clear hJ0 HJ hbad
        go_wp2_with fail
        refine (qmark_any HM.out.1.rd [41] rfl).mono ?_
        rintro y w8 ⟨ht, u9, s9, v9, ha, rfl, rfl, hr⟩
        have HB9 := Lib.hid (HM.out.1.turn ht hr)
        have HA9 := Lib.hid ha
        obtain ⟨⟨x0, x1⟩, xf0, xf1⟩ := cells2 HB9.out.box
        obtain ⟨⟨y0, y1⟩, yf0, yf1⟩ := cells2 HB9.out.res
        obtain ⟨pw, cw, rfl⟩ : ∃ p c, v = .slice p zs.length c := (by obtain ⟨p, c, h, -⟩ := HM.out.1.own.in_; exact ⟨p, c, h⟩)
        clear ht ha hr
        go_wp2_with fail
        refine bodyPost_ret (results_cell_row (fn := Tryz.f35) (by rfl) _ _ _ _ _ _ _ (by rfl) (row2_set HB9.out.res) Tryz.underlying38 (by rfl) (by kernel_rfl)) (by rfl) ?_
        refine ⟨Only.turned ((HB9.out.only.set (Nat.le_refl _) _ _).set (Nat.le_refl _) _ _), ⟨nm, zs⟩, s9, _, ?_, rfl, ⟨_, rfl, ?_⟩, (HB9.out.rd.set HB9.out.nW _ _).set HB9.out.nW _ _⟩
        · exact HP.out _ _ (Aft.bind (Aft.alt_no HM.out.2 HX.out) (HA9.out.map fun _ => zs))
        · exact HB9.out.own.in_.keep (by simp) fun k ek _ => ⟨by have := HB9.out.lo; have := HB9.out.loB; omega, (heap_setCell_other _ ⟨W.heap.size, 1, none⟩ k _ (by show k ≠ W.heap.size; have := HB9.out.lo; have := HB9.out.loB; omega)).trans (heap_setCell_other _ ⟨W.heap.size, 0, none⟩ k _ (by show k ≠ W.heap.size; have := HB9.out.lo; have := HB9.out.loB; omega))⟩

      | false =>
        rw [hbad] at c3
        obtain ⟨pv, cv, rfl⟩ : ∃ p c, v = .slice p zs.length c := (by obtain ⟨p, c, h, -⟩ := HJ.out.1.own.in_; exact ⟨p, c, h⟩)
        have HS0 := Lib.hid (show wr.drew.cell? ⟨ba, 1, none⟩ = some (.slice pv zs.length cv) from cell_of_row wr ba 1 _ _ (0, 0) HJ.out.1.box)
        have HBd := Lib.hid hbad
        clear hJ0 hbad
        go_wp2_with fail
        refine Till.begin (S := fun X => X.cell? ⟨ba, 1, none⟩ = some (.slice pv zs.length cv)) (z := 5) (by kernel_rfl) ?_
        refine Till.takeY 0 24 (v := ?_) rfl rfl (by kernel_rfl) (by kernel_rfl) (by kernel_rfl) (by decide) (fun _ _ _ h => h) (by kernel_rfl) ?_ (fun _ => HS0.out) (by first | (simp only [put_norm]; exact rfl) | exact rfl) ?_
        rotate_left
        · rintro X0 -
          go_simp; try (with_reducible rfl)
        refine Till.takeY 2 26 (v := ?_) rfl rfl (by kernel_rfl) (by kernel_rfl) (by kernel_rfl) (by decide) (fun _ _ _ h => h) (by kernel_rfl) ?_ (fun _ => HS0.out) (by first | (simp only [put_norm]; exact rfl) | exact rfl) ?_
        rotate_left
        · rintro X0 -
          go_simp; try (with_reducible rfl)
        refine Till.take [5] 1 25 (v := ?_) rfl rfl (by kernel_rfl) (by kernel_rfl) (by kernel_rfl) (by kernel_rfl) (fun _ _ _ h => h) (by kernel_rfl) ?_ HS0.out (by first | (simp only [put_norm]; exact rfl) | exact rfl) ?_
        rotate_left
        · rintro X0 s0
          go_simp; try (with_reducible rfl)
        refine Till.one 3 (by kernel_rfl) rfl (fun K hK => ?_)
        go_simp
        go_at_call 69
        refine (qterm_any HJ.out.1.rd.drew).mono ?_
        rintro y w3 ⟨ht, a, s1, va, ha, rfl, hva, hr⟩
        obtain rfl : va = .agg #[.int .i64 a.kind, .string ⟨a.name.toArray⟩, .int .i64 a.val.1, .int .i64 a.val.2.1, .string a.val.2.2] := hva
        have HB3 := Lib.hid (HJ.out.1.drew.turn ht hr)
        have HA := Lib.hid ha
        have HS3 := Lib.hid (show w3.cell? ⟨ba, 1, none⟩ = some (.slice pv zs.length cv) from cell_of_row w3 ba 1 _ _ (0, 0) HB3.out.box)
        clear ht ha hr
        go_simp
        refine hK.out _ _ (fun _ => HS3.out) ?_
        clear hK K
        try simp only [put_norm]
        refine Till.one 4 (by kernel_rfl) rfl (fun K hK => ?_)
        go_simp
        have hz3 : ba < w3.heap.size := HB3.out.hib
        have HS4 := Lib.hid (show (w3.alloc (.cells #[.int .i64 a.kind, .string ⟨a.name.toArray⟩, .int .i64 a.val.1, .int .i64 a.val.2.1, .string a.val.2.2] 84)).cell? ⟨ba, 1, none⟩ = some (.slice pv zs.length cv) from (World.cell?_of_block (a := ⟨ba, 1, none⟩) (Below.heap_alloc _ _ _ hz3)).trans HS3.out)
        have HL3 : Hid (RowOwn tmY 84 (ba + 1) (w3.alloc (.cells #[.int .i64 a.kind, .string ⟨a.name.toArray⟩, .int .i64 a.val.1, .int .i64 a.val.2.1, .string a.val.2.2] 84)) (.slice pv zs.length cv) zs ∧ tmY.is (fun k => ba + 1 ≤ k ∧ (Value.slice pv zs.length cv).ownBlock ≠ some k) (w3.alloc (.cells #[.int .i64 a.kind, .string ⟨a.name.toArray⟩, .int .i64 a.val.1, .int .i64 a.val.2.1, .string a.val.2.2] 84)) [.int .i64 a.kind, .string ⟨a.name.toArray⟩, .int .i64 a.val.1, .int .i64 a.val.2.1, .string a.val.2.2] a ∧ zs.length ≤ 1000000 ∧ ba + 1 ≤ (w3.alloc (.cells #[.int .i64 a.kind, .string ⟨a.name.toArray⟩, .int .i64 a.val.1, .int .i64 a.val.2.1, .string a.val.2.2] 84)).heap.size) := Lib.hid ⟨HB3.out.lit _, rfl, by have := HJ.out.2.2; have := HJ.out.1.rd.le; have := HJ.out.1.rd.len; omega, by simp; omega⟩
        refine hK.out _ _ (fun _ => HS4.out) ?_
        clear hK K
        try simp only [put_norm]
        refine Till.one 5 (by kernel_rfl) rfl (fun K hK => ?_)
        refine step_appY tmY rfl (.tmp 25) (.tmp 28) 36 84 rfl (ba + 1) (.agg #[.int .i64 0, .string ⟨#[]⟩, .int .i64 0, .int .i64 0, .string ⟨#[]⟩]) 56 Tryz.underlying36 Tryz.infoTm rfl (by decide) (by decide) _ zs a [.int .i64 a.kind, .string ⟨a.name.toArray⟩, .int .i64 a.val.1, .int .i64 a.val.2.1, .string a.val.2.2] w3.heap.size 1 rfl rfl HL3.out.1 HL3.out.2.1 (lit_rowcells w3 [.int .i64 a.kind, .string ⟨a.name.toArray⟩, .int .i64 a.val.1, .int .i64 a.val.2.1, .string a.val.2.2] _) HL3.out.2.2.1 HL3.out.2.2.2 ?_
        intro v4 w4 ho hg hv4
        obtain ⟨p4, n4, c4, rfl⟩ : ∃ p n c, v4 = .slice p n c := (by obtain ⟨p, c, h, -⟩ := ho.in_; exact ⟨p, _, c, h⟩)
        have HN := Lib.hid (HB3.out.app (idx := 1) ho hg rfl)
        obtain ⟨⟨x0, x1⟩, xf0, xf1⟩ := cells2 HN.out.2
        clear ho hg hv4
        refine hK.out _ _ (fun h => nomatch (show (true : Bool) = false from h)) ?_
        clear hK K
        try simp only [put_norm]
        refine Till.takeY 6 30 (v := ?_) rfl rfl (by kernel_rfl) (by kernel_rfl) (by kernel_rfl) (by decide) (fun _ _ _ h => h) (by kernel_rfl) ?_ (fun h => nomatch (show (true : Bool) = false from h)) (by first | (simp only [put_norm]; exact rfl) | exact rfl) ?_
        rotate_left
        · rintro X0 -
          go_simp; try (with_reducible rfl)
        refine Till.one 7 (by kernel_rfl) rfl (fun K hK => ?_)
        go_simp
        refine hK.out _ _ (fun h => nomatch (show (true : Bool) = false from h)) ?_
        clear hK K
        try simp only [put_norm]
        refine Till.done (by kernel_rfl) ?_ _
        go_wp2_with fail

        refine (qnext_any HN.out.1.rd 6 [44]).mono ?_
        rw [isKT_m (m := [44]) rfl]
        rintro y w6 ⟨⟨hx, rfl⟩ | ⟨hx, rfl⟩, hs, hr⟩
        · have hi := nxB.lt hx
          have HB6 := Lib.hid ((HN.out.1.still hs).inc hi)
          obtain ⟨d1, g1, d3, hl1⟩ := hr.inc
          have HXx := Lib.hid hx
          clear hs hr hx x0 x1 xf0 xf1
          go_wp2_with fail
          go_roundw
          case rel =>
            refine ⟨_, zs ++ [a], { s1 with i := s1.i + 1 }, Lib.hid ⟨HB6.out, fun rest s' h => ?_, ?_⟩⟩
            · rw [List.append_assoc]
              exact HJ.out.2.1 _ _ (Aft.sep_next HEat.out HA.out HBd.out HXx.out h)
            · have := HJ.out.2.2
              have := HA.out.up
              simp
              omega
          case measure =>
            rw [HB6.out.rd.atW, HJ.out.1.rd.atW]
            have := HA.out.up
            show L.length + 1 - (s1.i + 1) < L.length + 1 - s.i
            omega
        · have HM := Lib.hid (And.intro (HN.out.1.still hs) (HJ.out.2.1 [a] s1 (Aft.sep_last HEat.out HA.out HBd.out hx)))
          clear hs hr hx x0 x1 xf0 xf1 HJ HB3 HA
          go_wp2_with fail
          refine (qmark_any HM.out.1.rd [41] rfl).mono ?_
          rintro y w8 ⟨ht, u9, s9, v9, ha, rfl, rfl, hr⟩
          have HB9 := Lib.hid (HM.out.1.turn ht hr)
          have HA9 := Lib.hid ha
          obtain ⟨⟨x0, x1⟩, xf0, xf1⟩ := cells2 HB9.out.box
          obtain ⟨⟨y0, y1⟩, yf0, yf1⟩ := cells2 HB9.out.res
          clear ht ha hr
          go_wp2_with fail
          refine bodyPost_ret (results_cell_row (fn := Tryz.f35) (by rfl) _ _ _ _ _ _ _ (by rfl) (row2_set HB9.out.res) Tryz.underlying38 (by rfl) (by kernel_rfl)) (by rfl) ?_
          refine ⟨Only.turned ((HB9.out.only.set (Nat.le_refl _) _ _).set (Nat.le_refl _) _ _), ⟨nm, (zs ++ [a])⟩, s9, _, ?_, rfl, ⟨_, rfl, ?_⟩, (HB9.out.rd.set HB9.out.nW _ _).set HB9.out.nW _ _⟩
          · exact HP.out _ _ (Aft.bind (Aft.alt_no HM.out.2 HX.out) (HA9.out.map fun _ => (zs ++ [a])))
          · exact HB9.out.own.in_.keep (by simp) fun k ek _ => ⟨by have := HB9.out.lo; have := HB9.out.loB; omega, (heap_setCell_other _ ⟨W.heap.size, 1, none⟩ k _ (by show k ≠ W.heap.size; have := HB9.out.lo; have := HB9.out.loB; omega)).trans (heap_setCell_other _ ⟨W.heap.size, 0, none⟩ k _ (by show k ≠ W.heap.size; have := HB9.out.lo; have := HB9.out.loB; omega))⟩

end
section
open Go Go.RowKit Go.Shelf

theorem rowQ14_set {w1 : World} {b : Nat} {t : TypeId} {x0 x1 x2 x3 x4 x5 x6 x7 x8 x9 x10 x11 x12 x13 y0 y1 y2 y3 y4 y5 y6 y7 y8 y9 y10 y11 y12 y13 : Value} (h : w1.heap[b]? = some (.cells #[x0, x1, x2, x3, x4, x5, x6, x7, x8, x9, x10, x11, x12, x13] t (0, 0))) :
    ((((((((((((((w1.setCell ⟨b, 0, none⟩ y0).setCell ⟨b, 1, none⟩ y1).setCell ⟨b, 2, none⟩ y2).setCell ⟨b, 3, none⟩ y3).setCell ⟨b, 4, none⟩ y4).setCell ⟨b, 5, none⟩ y5).setCell ⟨b, 6, none⟩ y6).setCell ⟨b, 7, none⟩ y7).setCell ⟨b, 8, none⟩ y8).setCell ⟨b, 9, none⟩ y9).setCell ⟨b, 10, none⟩ y10).setCell ⟨b, 11, none⟩ y11).setCell ⟨b, 12, none⟩ y12).setCell ⟨b, 13, none⟩ y13).heap[b]? = some (.cells #[y0, y1, y2, y3, y4, y5, y6, y7, y8, y9, y10, y11, y12, y13] t (0, 0)) := by
  have h0 : (w1.setCell ⟨b, 0, none⟩ y0).heap[b]? = some (.cells #[y0, x1, x2, x3, x4, x5, x6, x7, x8, x9, x10, x11, x12, x13] t (0, 0)) := Go.heap_setCell_same _ b 0 _ _ y0 h
  have h1 : ((w1.setCell ⟨b, 0, none⟩ y0).setCell ⟨b, 1, none⟩ y1).heap[b]? = some (.cells #[y0, y1, x2, x3, x4, x5, x6, x7, x8, x9, x10, x11, x12, x13] t (0, 0)) := Go.heap_setCell_same _ b 1 _ _ y1 h0
  have h2 : (((w1.setCell ⟨b, 0, none⟩ y0).setCell ⟨b, 1, none⟩ y1).setCell ⟨b, 2, none⟩ y2).heap[b]? = some (.cells #[y0, y1, y2, x3, x4, x5, x6, x7, x8, x9, x10, x11, x12, x13] t (0, 0)) := Go.heap_setCell_same _ b 2 _ _ y2 h1
  have h3 : ((((w1.setCell ⟨b, 0, none⟩ y0).setCell ⟨b, 1, none⟩ y1).setCell ⟨b, 2, none⟩ y2).setCell ⟨b, 3, none⟩ y3).heap[b]? = some (.cells #[y0, y1, y2, y3, x4, x5, x6, x7, x8, x9, x10, x11, x12, x13] t (0, 0)) := Go.heap_setCell_same _ b 3 _ _ y3 h2
  have h4 : (((((w1.setCell ⟨b, 0, none⟩ y0).setCell ⟨b, 1, none⟩ y1).setCell ⟨b, 2, none⟩ y2).setCell ⟨b, 3, none⟩ y3).setCell ⟨b, 4, none⟩ y4).heap[b]? = some (.cells #[y0, y1, y2, y3, y4, x5, x6, x7, x8, x9, x10, x11, x12, x13] t (0, 0)) := Go.heap_setCell_same _ b 4 _ _ y4 h3
  have h5 : ((((((w1.setCell ⟨b, 0, none⟩ y0).setCell ⟨b, 1, none⟩ y1).setCell ⟨b, 2, none⟩ y2).setCell ⟨b, 3, none⟩ y3).setCell ⟨b, 4, none⟩ y4).setCell ⟨b, 5, none⟩ y5).heap[b]? = some (.cells #[y0, y1, y2, y3, y4, y5, x6, x7, x8, x9, x10, x11, x12, x13] t (0, 0)) := Go.heap_setCell_same _ b 5 _ _ y5 h4
  have h6 : (((((((w1.setCell ⟨b, 0, none⟩ y0).setCell ⟨b, 1, none⟩ y1).setCell ⟨b, 2, none⟩ y2).setCell ⟨b, 3, none⟩ y3).setCell ⟨b, 4, none⟩ y4).setCell ⟨b, 5, none⟩ y5).setCell ⟨b, 6, none⟩ y6).heap[b]? = some (.cells #[y0, y1, y2, y3, y4, y5, y6, x7, x8, x9, x10, x11, x12, x13] t (0, 0)) := Go.heap_setCell_same _ b 6 _ _ y6 h5
  have h7 : ((((((((w1.setCell ⟨b, 0, none⟩ y0).setCell ⟨b, 1, none⟩ y1).setCell ⟨b, 2, none⟩ y2).setCell ⟨b, 3, none⟩ y3).setCell ⟨b, 4, none⟩ y4).setCell ⟨b, 5, none⟩ y5).setCell ⟨b, 6, none⟩ y6).setCell ⟨b, 7, none⟩ y7).heap[b]? = some (.cells #[y0, y1, y2, y3, y4, y5, y6, y7, x8, x9, x10, x11, x12, x13] t (0, 0)) := Go.heap_setCell_same _ b 7 _ _ y7 h6
  have h8 : (((((((((w1.setCell ⟨b, 0, none⟩ y0).setCell ⟨b, 1, none⟩ y1).setCell ⟨b, 2, none⟩ y2).setCell ⟨b, 3, none⟩ y3).setCell ⟨b, 4, none⟩ y4).setCell ⟨b, 5, none⟩ y5).setCell ⟨b, 6, none⟩ y6).setCell ⟨b, 7, none⟩ y7).setCell ⟨b, 8, none⟩ y8).heap[b]? = some (.cells #[y0, y1, y2, y3, y4, y5, y6, y7, y8, x9, x10, x11, x12, x13] t (0, 0)) := Go.heap_setCell_same _ b 8 _ _ y8 h7
  have h9 : ((((((((((w1.setCell ⟨b, 0, none⟩ y0).setCell ⟨b, 1, none⟩ y1).setCell ⟨b, 2, none⟩ y2).setCell ⟨b, 3, none⟩ y3).setCell ⟨b, 4, none⟩ y4).setCell ⟨b, 5, none⟩ y5).setCell ⟨b, 6, none⟩ y6).setCell ⟨b, 7, none⟩ y7).setCell ⟨b, 8, none⟩ y8).setCell ⟨b, 9, none⟩ y9).heap[b]? = some (.cells #[y0, y1, y2, y3, y4, y5, y6, y7, y8, y9, x10, x11, x12, x13] t (0, 0)) := Go.heap_setCell_same _ b 9 _ _ y9 h8
  have h10 : (((((((((((w1.setCell ⟨b, 0, none⟩ y0).setCell ⟨b, 1, none⟩ y1).setCell ⟨b, 2, none⟩ y2).setCell ⟨b, 3, none⟩ y3).setCell ⟨b, 4, none⟩ y4).setCell ⟨b, 5, none⟩ y5).setCell ⟨b, 6, none⟩ y6).setCell ⟨b, 7, none⟩ y7).setCell ⟨b, 8, none⟩ y8).setCell ⟨b, 9, none⟩ y9).setCell ⟨b, 10, none⟩ y10).heap[b]? = some (.cells #[y0, y1, y2, y3, y4, y5, y6, y7, y8, y9, y10, x11, x12, x13] t (0, 0)) := Go.heap_setCell_same _ b 10 _ _ y10 h9
  have h11 : ((((((((((((w1.setCell ⟨b, 0, none⟩ y0).setCell ⟨b, 1, none⟩ y1).setCell ⟨b, 2, none⟩ y2).setCell ⟨b, 3, none⟩ y3).setCell ⟨b, 4, none⟩ y4).setCell ⟨b, 5, none⟩ y5).setCell ⟨b, 6, none⟩ y6).setCell ⟨b, 7, none⟩ y7).setCell ⟨b, 8, none⟩ y8).setCell ⟨b, 9, none⟩ y9).setCell ⟨b, 10, none⟩ y10).setCell ⟨b, 11, none⟩ y11).heap[b]? = some (.cells #[y0, y1, y2, y3, y4, y5, y6, y7, y8, y9, y10, y11, x12, x13] t (0, 0)) := Go.heap_setCell_same _ b 11 _ _ y11 h10
  have h12 : (((((((((((((w1.setCell ⟨b, 0, none⟩ y0).setCell ⟨b, 1, none⟩ y1).setCell ⟨b, 2, none⟩ y2).setCell ⟨b, 3, none⟩ y3).setCell ⟨b, 4, none⟩ y4).setCell ⟨b, 5, none⟩ y5).setCell ⟨b, 6, none⟩ y6).setCell ⟨b, 7, none⟩ y7).setCell ⟨b, 8, none⟩ y8).setCell ⟨b, 9, none⟩ y9).setCell ⟨b, 10, none⟩ y10).setCell ⟨b, 11, none⟩ y11).setCell ⟨b, 12, none⟩ y12).heap[b]? = some (.cells #[y0, y1, y2, y3, y4, y5, y6, y7, y8, y9, y10, y11, y12, x13] t (0, 0)) := Go.heap_setCell_same _ b 12 _ _ y12 h11
  have h13 : ((((((((((((((w1.setCell ⟨b, 0, none⟩ y0).setCell ⟨b, 1, none⟩ y1).setCell ⟨b, 2, none⟩ y2).setCell ⟨b, 3, none⟩ y3).setCell ⟨b, 4, none⟩ y4).setCell ⟨b, 5, none⟩ y5).setCell ⟨b, 6, none⟩ y6).setCell ⟨b, 7, none⟩ y7).setCell ⟨b, 8, none⟩ y8).setCell ⟨b, 9, none⟩ y9).setCell ⟨b, 10, none⟩ y10).setCell ⟨b, 11, none⟩ y11).setCell ⟨b, 12, none⟩ y12).setCell ⟨b, 13, none⟩ y13).heap[b]? = some (.cells #[y0, y1, y2, y3, y4, y5, y6, y7, y8, y9, y10, y11, y12, y13] t (0, 0)) := Go.heap_setCell_same _ b 13 _ _ y13 h12
  exact h13
theorem cellsQ14 {W : World} {b : Nat} {x0 x1 x2 x3 x4 x5 x6 x7 x8 x9 x10 x11 x12 x13 : Value} {t : TypeId} (h : W.heap[b]? = some (.cells #[x0, x1, x2, x3, x4, x5, x6, x7, x8, x9, x10, x11, x12, x13] t (0, 0))) :
    (W.cell? ⟨b, 0, none⟩ = some x0 ∧ W.cell? ⟨b, 1, none⟩ = some x1 ∧ W.cell? ⟨b, 2, none⟩ = some x2 ∧ W.cell? ⟨b, 3, none⟩ = some x3 ∧ W.cell? ⟨b, 4, none⟩ = some x4 ∧ W.cell? ⟨b, 5, none⟩ = some x5 ∧ W.cell? ⟨b, 6, none⟩ = some x6 ∧ W.cell? ⟨b, 7, none⟩ = some x7 ∧ W.cell? ⟨b, 8, none⟩ = some x8 ∧ W.cell? ⟨b, 9, none⟩ = some x9 ∧ W.cell? ⟨b, 10, none⟩ = some x10 ∧ W.cell? ⟨b, 11, none⟩ = some x11 ∧ W.cell? ⟨b, 12, none⟩ = some x12 ∧ W.cell? ⟨b, 13, none⟩ = some x13) ∧ W.frozen? ⟨b, 0, none⟩ = false ∧ W.frozen? ⟨b, 1, none⟩ = false ∧ W.frozen? ⟨b, 2, none⟩ = false ∧ W.frozen? ⟨b, 3, none⟩ = false ∧ W.frozen? ⟨b, 4, none⟩ = false ∧ W.frozen? ⟨b, 5, none⟩ = false ∧ W.frozen? ⟨b, 6, none⟩ = false ∧ W.frozen? ⟨b, 7, none⟩ = false ∧ W.frozen? ⟨b, 8, none⟩ = false ∧ W.frozen? ⟨b, 9, none⟩ = false ∧ W.frozen? ⟨b, 10, none⟩ = false ∧ W.frozen? ⟨b, 11, none⟩ = false ∧ W.frozen? ⟨b, 12, none⟩ = false ∧ W.frozen? ⟨b, 13, none⟩ = false :=
  ⟨⟨(cell_of_row _ b 0 _ _ (0, 0) h).trans rfl, (cell_of_row _ b 1 _ _ (0, 0) h).trans rfl, (cell_of_row _ b 2 _ _ (0, 0) h).trans rfl, (cell_of_row _ b 3 _ _ (0, 0) h).trans rfl, (cell_of_row _ b 4 _ _ (0, 0) h).trans rfl, (cell_of_row _ b 5 _ _ (0, 0) h).trans rfl, (cell_of_row _ b 6 _ _ (0, 0) h).trans rfl, (cell_of_row _ b 7 _ _ (0, 0) h).trans rfl, (cell_of_row _ b 8 _ _ (0, 0) h).trans rfl, (cell_of_row _ b 9 _ _ (0, 0) h).trans rfl, (cell_of_row _ b 10 _ _ (0, 0) h).trans rfl, (cell_of_row _ b 11 _ _ (0, 0) h).trans rfl, (cell_of_row _ b 12 _ _ (0, 0) h).trans rfl, (cell_of_row _ b 13 _ _ (0, 0) h).trans rfl⟩, frozen_of_row _ b 0 _ _ h, frozen_of_row _ b 1 _ _ h, frozen_of_row _ b 2 _ _ h, frozen_of_row _ b 3 _ _ h, frozen_of_row _ b 4 _ _ h, frozen_of_row _ b 5 _ _ h, frozen_of_row _ b 6 _ _ h, frozen_of_row _ b 7 _ _ h, frozen_of_row _ b 8 _ _ h, frozen_of_row _ b 9 _ _ h, frozen_of_row _ b 10 _ _ h, frozen_of_row _ b 11 _ _ h, frozen_of_row _ b 12 _ _ h, frozen_of_row _ b 13 _ _ h⟩
theorem setQ14_off {w1 : World} {b k : Nat} {y0 y1 y2 y3 y4 y5 y6 y7 y8 y9 y10 y11 y12 y13 : Value} (h : k ≠ b) : ((((((((((((((w1.setCell ⟨b, 0, none⟩ y0).setCell ⟨b, 1, none⟩ y1).setCell ⟨b, 2, none⟩ y2).setCell ⟨b, 3, none⟩ y3).setCell ⟨b, 4, none⟩ y4).setCell ⟨b, 5, none⟩ y5).setCell ⟨b, 6, none⟩ y6).setCell ⟨b, 7, none⟩ y7).setCell ⟨b, 8, none⟩ y8).setCell ⟨b, 9, none⟩ y9).setCell ⟨b, 10, none⟩ y10).setCell ⟨b, 11, none⟩ y11).setCell ⟨b, 12, none⟩ y12).setCell ⟨b, 13, none⟩ y13).heap[k]? = w1.heap[k]? := (heap_setCell_other _ ⟨b, 13, none⟩ k _ h).trans ((heap_setCell_other _ ⟨b, 12, none⟩ k _ h).trans ((heap_setCell_other _ ⟨b, 11, none⟩ k _ h).trans ((heap_setCell_other _ ⟨b, 10, none⟩ k _ h).trans ((heap_setCell_other _ ⟨b, 9, none⟩ k _ h).trans ((heap_setCell_other _ ⟨b, 8, none⟩ k _ h).trans ((heap_setCell_other _ ⟨b, 7, none⟩ k _ h).trans ((heap_setCell_other _ ⟨b, 6, none⟩ k _ h).trans ((heap_setCell_other _ ⟨b, 5, none⟩ k _ h).trans ((heap_setCell_other _ ⟨b, 4, none⟩ k _ h).trans ((heap_setCell_other _ ⟨b, 3, none⟩ k _ h).trans ((heap_setCell_other _ ⟨b, 2, none⟩ k _ h).trans ((heap_setCell_other _ ⟨b, 1, none⟩ k _ h).trans (heap_setCell_other _ ⟨b, 0, none⟩ k _ h)))))))))))))
theorem rowQ3_set {w1 : World} {b : Nat} {t : TypeId} {x0 x1 x2 y0 y1 y2 : Value} (h : w1.heap[b]? = some (.cells #[x0, x1, x2] t (0, 0))) :
    (((w1.setCell ⟨b, 0, none⟩ y0).setCell ⟨b, 1, none⟩ y1).setCell ⟨b, 2, none⟩ y2).heap[b]? = some (.cells #[y0, y1, y2] t (0, 0)) := by
  have h0 : (w1.setCell ⟨b, 0, none⟩ y0).heap[b]? = some (.cells #[y0, x1, x2] t (0, 0)) := Go.heap_setCell_same _ b 0 _ _ y0 h
  have h1 : ((w1.setCell ⟨b, 0, none⟩ y0).setCell ⟨b, 1, none⟩ y1).heap[b]? = some (.cells #[y0, y1, x2] t (0, 0)) := Go.heap_setCell_same _ b 1 _ _ y1 h0
  have h2 : (((w1.setCell ⟨b, 0, none⟩ y0).setCell ⟨b, 1, none⟩ y1).setCell ⟨b, 2, none⟩ y2).heap[b]? = some (.cells #[y0, y1, y2] t (0, 0)) := Go.heap_setCell_same _ b 2 _ _ y2 h1
  exact h2
theorem cellsQ3 {W : World} {b : Nat} {x0 x1 x2 : Value} {t : TypeId} (h : W.heap[b]? = some (.cells #[x0, x1, x2] t (0, 0))) :
    (W.cell? ⟨b, 0, none⟩ = some x0 ∧ W.cell? ⟨b, 1, none⟩ = some x1 ∧ W.cell? ⟨b, 2, none⟩ = some x2) ∧ W.frozen? ⟨b, 0, none⟩ = false ∧ W.frozen? ⟨b, 1, none⟩ = false ∧ W.frozen? ⟨b, 2, none⟩ = false :=
  ⟨⟨(cell_of_row _ b 0 _ _ (0, 0) h).trans rfl, (cell_of_row _ b 1 _ _ (0, 0) h).trans rfl, (cell_of_row _ b 2 _ _ (0, 0) h).trans rfl⟩, frozen_of_row _ b 0 _ _ h, frozen_of_row _ b 1 _ _ h, frozen_of_row _ b 2 _ _ h⟩
theorem setQ3_off {w1 : World} {b k : Nat} {y0 y1 y2 : Value} (h : k ≠ b) : (((w1.setCell ⟨b, 0, none⟩ y0).setCell ⟨b, 1, none⟩ y1).setCell ⟨b, 2, none⟩ y2).heap[k]? = w1.heap[k]? := (heap_setCell_other _ ⟨b, 2, none⟩ k _ h).trans ((heap_setCell_other _ ⟨b, 1, none⟩ k _ h).trans (heap_setCell_other _ ⟨b, 0, none⟩ k _ h))
theorem RowIn.shapeQ {α : Type} {Y : Lay α} {S : Nat → Prop} {w : World} {v : Value} {L : List α} (h : RowIn Y S w v L) : ∃ p c, v = .slice p L.length c := by
  obtain ⟨p, c, rfl, -⟩ := h
  exact ⟨p, c, rfl⟩
def lqT (S : Nat → Prop) (w : World) (v : Value) (l : LiL) : Prop := ∃ u, v = .agg #[.int .i64 l.kind, .string ⟨l.atom.pred.toArray⟩, u, .int .i64 l.op, .int .i64 l.a.kind, .string ⟨l.a.name.toArray⟩, .int .i64 l.a.val.1, .int .i64 l.a.val.2.1, .string l.a.val.2.2, .int .i64 l.b.kind, .string ⟨l.b.name.toArray⟩, .int .i64 l.b.val.1, .int .i64 l.b.val.2.1, .string l.b.val.2.2] ∧ RowIn tmY S w u l.atom.args
def cqT (S : Nat → Prop) (w : World) (v : Value) (c : ActL) : Prop := ∃ u, v = .agg #[.bool c.plus, .string ⟨c.atom.pred.toArray⟩, u] ∧ RowIn tmY S w u c.atom.args
/-- A box beside the result's, while parts are read. -/
structure LqM (n b e : Nat) (L : List Wd) (W : World) (bl : Nat) (bo ro : Obj) (s : Qs) (w : World) : Prop where
  rd : Rq n w b L e s
  only : Only W.heap.size b W w
  box : w.heap[bl]? = some bo
  res : w.heap[W.heap.size]? = some ro
  lo : W.heap.size < bl
  hi : bl < w.heap.size
  nW : n ≤ W.heap.size
section
variable {n b e : Nat} {L : List Wd} {W : World} {bl : Nat} {bo ro : Obj} {s s' : Qs} {w w' : World}
theorem LqM.turn (h : LqM n b e L W bl bo ro s w) (ht : Turned (fun k => k = b) w w') (hr : Rq n w' b L e s') : LqM n b e L W bl bo ro s' w' := by
  have h1 := Nat.lt_of_lt_of_le h.rd.at_ h.nW
  have h2 := h.lo
  have h3 := h.hi
  exact ⟨hr, h.only.on ht, (ht.block _ h3 (by omega)).trans h.box, (ht.block _ (by omega) (by omega)).trans h.res, h2, Nat.lt_of_lt_of_le h3 ht.size, h.nW⟩
theorem LqM.put {cs cs' : Array Value} {t : TypeId} {i : Nat} {v : Value} (h : LqM n b e L W bl (.cells cs t (0, 0)) ro s w) (hc : cs.setIfInBounds i v = cs') : LqM n b e L W bl (.cells cs' t (0, 0)) ro s (w.setCell ⟨bl, i, none⟩ v) := by
  have h2 := h.lo
  have h4 := h.nW
  exact ⟨h.rd.set (by omega) _ _, h.only.set (by omega) _ _, by rw [← hc]; exact Go.heap_setCell_same w bl i _ _ v h.box, (heap_setCell_other w ⟨bl, i, none⟩ _ v (by show W.heap.size ≠ bl; omega)).trans h.res, h2, by simpa using h.hi, h4⟩
end
set_option maxRecDepth 100000 in
set_option maxHeartbeats 8000000 in
theorem qact_any {n b e : Nat} {W : World} {L : List Wd} {s : Qs} (h : Rq n W b L e s) :
    Calls Tryz.prog 56 #[rdq b] W (QEnd actR cqT n b e L s W) := by
  have HR := Lib.hid h
  have hlt := h.lt
  have hnW := h.below_
  have hle := h.le
  have hne : W.heap.size ≠ b := by omega
  clear h
  go_enter Tryz.func56, Tryz.ntmps56
  go_wp2_with fail
  refine (qnext_any (HR.out.alloc (.cells #[.bool false, .string ⟨#[]⟩, .slice none 0 0] 118 (0, 0))) 6 [43]).mono ?_
  rw [isKT_m (m := [43]) rfl]
  rintro y w1 ⟨⟨hx, rfl⟩ | ⟨hx, rfl⟩, hs, hr⟩
  · obtain ⟨c1, f1, -, hl⟩ := hr.inc
    have hi := nxB.lt hx
    have HX := Lib.hid hx
    have HA1 := Lib.hid (Aft.step (e := e) hx hi)
    have HS : Hid (Only W.heap.size b W (w1.setCell ⟨b, 1, none⟩ (.int .i64 ((s.i : Int) + 1))) ∧ Rq n (w1.setCell ⟨b, 1, none⟩ (.int .i64 ((s.i : Int) + 1))) b L e { s with i := s.i + 1 } ∧ (w1.setCell ⟨b, 1, none⟩ (.int .i64 ((s.i : Int) + 1))).heap[W.heap.size]? = some (.cells #[.bool false, .string ⟨#[]⟩, .slice none 0 0] 118 (0, 0))) := Lib.hid ⟨(((Only.refl b W).alloc _).on (hs.turned _)).on (Turned.set w1 b 1 _), hr.step hi, (heap_setCell_other w1 ⟨b, 1, none⟩ _ _ hne).trans ((heap_of_still hs _).trans (heap_alloc_new W _))⟩
    have HSz := Lib.hid (show W.heap.size < (w1.setCell ⟨b, 1, none⟩ (.int .i64 ((s.i : Int) + 1))).heap.size by have := hs.1.size; simp at this ⊢; omega)
    clear hs hr hx
    go_wp2_with fail
    refine (qatom_any HS.out.2.1).mono ?_
    rintro y w5 ⟨ht, a, s', v5, ha, rfl, ⟨u, rfl, hu⟩, hr⟩
    obtain ⟨pu, cu, rfl⟩ := RowIn.shapeQ hu
    have q1 : w5.heap[W.heap.size]? = some (.cells #[.bool false, .string ⟨#[]⟩, .slice none 0 0] 118 (0, 0)) := (ht.block _ (Array.getElem?_eq_some_iff.1 HS.out.2.2).1 hne).trans HS.out.2.2
    have hsz := HS.out.1.size
    have hsz2 := ht.size
    obtain ⟨CC, FF⟩ := cellsQ3 q1
    obtain ⟨d0, d1, d2⟩ := CC
    obtain ⟨k0, k1, k2⟩ := FF
    have HQ := Lib.hid q1
    have HT : Hid (Only W.heap.size b W w5) := Lib.hid (HS.out.1.on ht)
    have HE := Lib.hid (And.intro ha (And.intro hr hu))
    obtain ⟨pn, hpn⟩ : ∃ pn : ByteArray, pn = ⟨a.pred.toArray⟩ := ⟨_, rfl⟩
    obtain ⟨m, hm⟩ : ∃ m, m = a.args.length := ⟨_, rfl⟩
    rw [← hpn, ← hm]
    have HPn := Lib.hid (And.intro hpn hm)
    clear q1 ht ha hr hu hpn hm
    go_wp2_with fail
    refine bodyPost_ret (results_cell_row (fn := Tryz.f56) (by rfl) _ _ _ _ _ _ _ (by rfl) (rowQ3_set HQ.out) Tryz.underlying118 (by rfl) (by kernel_rfl)) (by rfl) ?_
    obtain ⟨ha, hr, hu⟩ := HE.out
    obtain ⟨rfl, rfl⟩ := HPn.out
    refine ⟨Only.turned ((((HT.out).set (Nat.le_refl _) _ _).set (Nat.le_refl _) _ _).set (Nat.le_refl _) _ _), ⟨true, a⟩, s', _, Aft.alt_yes (HA1.out.bind (ha.map fun a => (⟨true, a⟩ : ActL))) HX.out, rfl, ⟨_, rfl, hu.keep (by simp) fun k ek _ => ⟨Nat.le_trans hsz ek, setQ3_off (Nat.ne_of_gt (Nat.lt_of_lt_of_le HSz.out ek))⟩⟩, (((hr).set hnW _ _).set hnW _ _).set hnW _ _⟩
  · have HX := Lib.hid hx
    have HS1 := Lib.hid (And.intro hs hr)
    clear hs hr hx
    go_wp2_with fail
    refine (qmark_any HS1.out.2 [45] rfl).mono ?_
    rintro y w2 ⟨ht, u2, s2, v2, ha2, rfl, rfl, hr⟩
    have HA2 := Lib.hid ha2
    have HSz := Lib.hid (show W.heap.size < w2.heap.size by have := ht.size; have := HS1.out.1.1.size; simp at this; omega)
    have HS : Hid (Only W.heap.size b W w2 ∧ Rq n w2 b L e s2 ∧ w2.heap[W.heap.size]? = some (.cells #[.bool false, .string ⟨#[]⟩, .slice none 0 0] 118 (0, 0))) := Lib.hid ⟨(((Only.refl b W).alloc _).on (HS1.out.1.turned _)).on ht, hr, (ht.block _ (by rw [HS1.out.1.2]; simp) hne).trans ((heap_of_still HS1.out.1 _).trans (heap_alloc_new W _))⟩
    clear ht hr ha2
    go_wp2_with fail
    refine (qatom_any HS.out.2.1).mono ?_
    rintro y w5 ⟨ht, a, s', v5, ha, rfl, ⟨u, rfl, hu⟩, hr⟩
    obtain ⟨pu, cu, rfl⟩ := RowIn.shapeQ hu
    have q1 : w5.heap[W.heap.size]? = some (.cells #[.bool false, .string ⟨#[]⟩, .slice none 0 0] 118 (0, 0)) := (ht.block _ (Array.getElem?_eq_some_iff.1 HS.out.2.2).1 hne).trans HS.out.2.2
    have hsz := HS.out.1.size
    have hsz2 := ht.size
    obtain ⟨CC, FF⟩ := cellsQ3 q1
    obtain ⟨d0, d1, d2⟩ := CC
    obtain ⟨k0, k1, k2⟩ := FF
    have HQ := Lib.hid q1
    have HT : Hid (Only W.heap.size b W w5) := Lib.hid (HS.out.1.on ht)
    have HE := Lib.hid (And.intro ha (And.intro hr hu))
    obtain ⟨pn, hpn⟩ : ∃ pn : ByteArray, pn = ⟨a.pred.toArray⟩ := ⟨_, rfl⟩
    obtain ⟨m, hm⟩ : ∃ m, m = a.args.length := ⟨_, rfl⟩
    rw [← hpn, ← hm]
    have HPn := Lib.hid (And.intro hpn hm)
    clear q1 ht ha hr hu hpn hm
    go_wp2_with fail
    refine bodyPost_ret (results_cell_row (fn := Tryz.f56) (by rfl) _ _ _ _ _ _ _ (by rfl) (rowQ3_set HQ.out) Tryz.underlying118 (by rfl) (by kernel_rfl)) (by rfl) ?_
    obtain ⟨ha, hr, hu⟩ := HE.out
    obtain ⟨rfl, rfl⟩ := HPn.out
    refine ⟨Only.turned ((((HT.out).set (Nat.le_refl _) _ _).set (Nat.le_refl _) _ _).set (Nat.le_refl _) _ _), ⟨false, a⟩, s', _, Aft.alt_no (HA2.out.bind (ha.map fun a => (⟨false, a⟩ : ActL))) HX.out, rfl, ⟨_, rfl, hu.keep (by simp) fun k ek _ => ⟨Nat.le_trans hsz ek, setQ3_off (Nat.ne_of_gt (Nat.lt_of_lt_of_le HSz.out ek))⟩⟩, (((hr).set hnW _ _).set hnW _ _).set hnW _ _⟩
set_option maxRecDepth 100000 in
set_option maxHeartbeats 8000000 in
theorem qliteral_any {n b e : Nat} {W : World} {L : List Wd} {s : Qs} (h : Rq n W b L e s) :
    Calls Tryz.prog 57 #[rdq b] W (QEnd literalR lqT n b e L s W) := by
  have HR := Lib.hid h
  have hlt := h.lt
  have hnW := h.below_
  have hle := h.le
  have hne : W.heap.size ≠ b := by omega
  clear h
  go_enter Tryz.func57, Tryz.ntmps57
  go_wp2_with fail
  refine (qnext_any (HR.out.alloc (.cells #[.int .i64 0, .string ⟨#[]⟩, .slice none 0 0, .int .i64 0, .int .i64 0, .string ⟨#[]⟩, .int .i64 0, .int .i64 0, .string ⟨#[]⟩, .int .i64 0, .string ⟨#[]⟩, .int .i64 0, .int .i64 0, .string ⟨#[]⟩] 86 (0, 0))) 1 [110, 111, 116]).mono ?_
  rw [isKT_w (m := [110, 111, 116]) rfl]
  rintro y w1 ⟨⟨hx, rfl⟩ | ⟨hx, rfl⟩, hs, hr⟩
  · obtain ⟨c1, f1, -, hl⟩ := hr.inc
    have hi := nxB.lt hx
    have HX := Lib.hid hx
    have HA1 := Lib.hid (Aft.step (e := e) hx hi)
    have HS : Hid (Only W.heap.size b W (w1.setCell ⟨b, 1, none⟩ (.int .i64 ((s.i : Int) + 1))) ∧ Rq n (w1.setCell ⟨b, 1, none⟩ (.int .i64 ((s.i : Int) + 1))) b L e { s with i := s.i + 1 } ∧ (w1.setCell ⟨b, 1, none⟩ (.int .i64 ((s.i : Int) + 1))).heap[W.heap.size]? = some (.cells #[.int .i64 0, .string ⟨#[]⟩, .slice none 0 0, .int .i64 0, .int .i64 0, .string ⟨#[]⟩, .int .i64 0, .int .i64 0, .string ⟨#[]⟩, .int .i64 0, .string ⟨#[]⟩, .int .i64 0, .int .i64 0, .string ⟨#[]⟩] 86 (0, 0))) := Lib.hid ⟨(((Only.refl b W).alloc _).on (hs.turned _)).on (Turned.set w1 b 1 _), hr.step hi, (heap_setCell_other w1 ⟨b, 1, none⟩ _ _ hne).trans ((heap_of_still hs _).trans (heap_alloc_new W _))⟩
    have HSz := Lib.hid (show W.heap.size < (w1.setCell ⟨b, 1, none⟩ (.int .i64 ((s.i : Int) + 1))).heap.size by have := hs.1.size; simp at this ⊢; omega)
    clear hs hr hx
    go_wp2_with fail
    refine (qatom_any HS.out.2.1).mono ?_
    rintro y w5 ⟨ht, a, s', v5, ha, rfl, ⟨u, rfl, hu⟩, hr⟩
    obtain ⟨pu, cu, rfl⟩ := RowIn.shapeQ hu
    have q1 : w5.heap[W.heap.size]? = some (.cells #[.int .i64 0, .string ⟨#[]⟩, .slice none 0 0, .int .i64 0, .int .i64 0, .string ⟨#[]⟩, .int .i64 0, .int .i64 0, .string ⟨#[]⟩, .int .i64 0, .string ⟨#[]⟩, .int .i64 0, .int .i64 0, .string ⟨#[]⟩] 86 (0, 0)) := (ht.block _ (Array.getElem?_eq_some_iff.1 HS.out.2.2).1 hne).trans HS.out.2.2
    have hsz := HS.out.1.size
    have hsz2 := ht.size
    obtain ⟨CC, FF⟩ := cellsQ14 q1
    obtain ⟨d0, d1, d2, d3, d4, d5, d6, d7, d8, d9, d10, d11, d12, d13⟩ := CC
    obtain ⟨k0, k1, k2, k3, k4, k5, k6, k7, k8, k9, k10, k11, k12, k13⟩ := FF
    have HQ := Lib.hid q1
    have HT : Hid (Only W.heap.size b W w5) := Lib.hid (HS.out.1.on ht)
    have HE := Lib.hid (And.intro ha (And.intro hr hu))
    obtain ⟨pn, hpn⟩ : ∃ pn : ByteArray, pn = ⟨a.pred.toArray⟩ := ⟨_, rfl⟩
    obtain ⟨m, hm⟩ : ∃ m, m = a.args.length := ⟨_, rfl⟩
    rw [← hpn, ← hm]
    have HPn := Lib.hid (And.intro hpn hm)
    clear q1 ht ha hr hu hpn hm
    go_wp2_with fail
    refine bodyPost_ret (results_cell_row (fn := Tryz.f57) (by rfl) _ _ _ _ _ _ _ (by rfl) (rowQ14_set HQ.out) Tryz.underlying86 (by rfl) (by kernel_rfl)) (by rfl) ?_
    obtain ⟨ha, hr, hu⟩ := HE.out
    obtain ⟨rfl, rfl⟩ := HPn.out
    refine ⟨Only.turned (((((((((((((((HT.out).set (Nat.le_refl _) _ _).set (Nat.le_refl _) _ _).set (Nat.le_refl _) _ _).set (Nat.le_refl _) _ _).set (Nat.le_refl _) _ _).set (Nat.le_refl _) _ _).set (Nat.le_refl _) _ _).set (Nat.le_refl _) _ _).set (Nat.le_refl _) _ _).set (Nat.le_refl _) _ _).set (Nat.le_refl _) _ _).set (Nat.le_refl _) _ _).set (Nat.le_refl _) _ _).set (Nat.le_refl _) _ _), ⟨2, a, 0, zeroT, zeroT⟩, s', _, Aft.alt_yes (HA1.out.bind (ha.map fun a => (⟨2, a, 0, zeroT, zeroT⟩ : LiL))) HX.out, rfl, ⟨_, rfl, hu.keep (by simp) fun k ek _ => ⟨Nat.le_trans hsz ek, setQ14_off (Nat.ne_of_gt (Nat.lt_of_lt_of_le HSz.out ek))⟩⟩, ((((((((((((((hr).set hnW _ _).set hnW _ _).set hnW _ _).set hnW _ _).set hnW _ _).set hnW _ _).set hnW _ _).set hnW _ _).set hnW _ _).set hnW _ _).set hnW _ _).set hnW _ _).set hnW _ _).set hnW _ _⟩
  · have HX := Lib.hid hx
    have HS1 := Lib.hid (And.intro hs hr)
    clear hs hr hx
    go_wp2_with fail
    refine (qname_any HS1.out.2).mono ?_
    rintro y w2 ⟨⟨hx, rfl⟩ | ⟨hx, rfl⟩, hs, hr⟩
    · have HY := Lib.hid hx
      have HS : Hid (Only W.heap.size b W w2 ∧ Rq n w2 b L e s ∧ w2.heap[W.heap.size]? = some (.cells #[.int .i64 0, .string ⟨#[]⟩, .slice none 0 0, .int .i64 0, .int .i64 0, .string ⟨#[]⟩, .int .i64 0, .int .i64 0, .string ⟨#[]⟩, .int .i64 0, .string ⟨#[]⟩, .int .i64 0, .int .i64 0, .string ⟨#[]⟩] 86 (0, 0))) := Lib.hid ⟨(((Only.refl b W).alloc _).on (HS1.out.1.turned _)).on (hs.turned _), hr, (heap_of_still hs _).trans ((heap_of_still HS1.out.1 _).trans (heap_alloc_new W _))⟩
      have HSz := Lib.hid (show W.heap.size < w2.heap.size by have := hs.1.size; have := HS1.out.1.1.size; simp at this; omega)
      clear hs hr hx
      go_wp2_with fail
      refine (qatom_any HS.out.2.1).mono ?_
      rintro y w5 ⟨ht, a, s', v5, ha, rfl, ⟨u, rfl, hu⟩, hr⟩
      obtain ⟨pu, cu, rfl⟩ := RowIn.shapeQ hu
      have q1 : w5.heap[W.heap.size]? = some (.cells #[.int .i64 0, .string ⟨#[]⟩, .slice none 0 0, .int .i64 0, .int .i64 0, .string ⟨#[]⟩, .int .i64 0, .int .i64 0, .string ⟨#[]⟩, .int .i64 0, .string ⟨#[]⟩, .int .i64 0, .int .i64 0, .string ⟨#[]⟩] 86 (0, 0)) := (ht.block _ (Array.getElem?_eq_some_iff.1 HS.out.2.2).1 hne).trans HS.out.2.2
      have hsz := HS.out.1.size
      have hsz2 := ht.size
      obtain ⟨CC, FF⟩ := cellsQ14 q1
      obtain ⟨d0, d1, d2, d3, d4, d5, d6, d7, d8, d9, d10, d11, d12, d13⟩ := CC
      obtain ⟨k0, k1, k2, k3, k4, k5, k6, k7, k8, k9, k10, k11, k12, k13⟩ := FF
      have HQ := Lib.hid q1
      have HT : Hid (Only W.heap.size b W w5) := Lib.hid (HS.out.1.on ht)
      have HE := Lib.hid (And.intro ha (And.intro hr hu))
      obtain ⟨pn, hpn⟩ : ∃ pn : ByteArray, pn = ⟨a.pred.toArray⟩ := ⟨_, rfl⟩
      obtain ⟨m, hm⟩ : ∃ m, m = a.args.length := ⟨_, rfl⟩
      rw [← hpn, ← hm]
      have HPn := Lib.hid (And.intro hpn hm)
      clear q1 ht ha hr hu hpn hm
      go_wp2_with fail
      refine bodyPost_ret (results_cell_row (fn := Tryz.f57) (by rfl) _ _ _ _ _ _ _ (by rfl) (rowQ14_set HQ.out) Tryz.underlying86 (by rfl) (by kernel_rfl)) (by rfl) ?_
      obtain ⟨ha, hr, hu⟩ := HE.out
      obtain ⟨rfl, rfl⟩ := HPn.out
      refine ⟨Only.turned (((((((((((((((HT.out).set (Nat.le_refl _) _ _).set (Nat.le_refl _) _ _).set (Nat.le_refl _) _ _).set (Nat.le_refl _) _ _).set (Nat.le_refl _) _ _).set (Nat.le_refl _) _ _).set (Nat.le_refl _) _ _).set (Nat.le_refl _) _ _).set (Nat.le_refl _) _ _).set (Nat.le_refl _) _ _).set (Nat.le_refl _) _ _).set (Nat.le_refl _) _ _).set (Nat.le_refl _) _ _).set (Nat.le_refl _) _ _), ⟨1, a, 0, zeroT, zeroT⟩, s', _, Aft.alt_no (Aft.alt_yes (ha.map fun a => (⟨1, a, 0, zeroT, zeroT⟩ : LiL)) HY.out) HX.out, rfl, ⟨_, rfl, hu.keep (by simp) fun k ek _ => ⟨Nat.le_trans hsz ek, setQ14_off (Nat.ne_of_gt (Nat.lt_of_lt_of_le HSz.out ek))⟩⟩, ((((((((((((((hr).set hnW _ _).set hnW _ _).set hnW _ _).set hnW _ _).set hnW _ _).set hnW _ _).set hnW _ _).set hnW _ _).set hnW _ _).set hnW _ _).set hnW _ _).set hnW _ _).set hnW _ _).set hnW _ _⟩
    · have HY := Lib.hid hx
      obtain ⟨bl, hbl⟩ : ∃ bl, bl = w2.heap.size := ⟨_, rfl⟩
      have HSz := Lib.hid (show W.heap.size < w2.heap.size by have := hs.1.size; have := HS1.out.1.1.size; simp at this; omega)
      have HM : Hid (LqM n b e L W bl (.cells #[.int .i64 3, .string ⟨#[]⟩, .slice none 0 0, .int .i64 0, .int .i64 0, .string ⟨#[]⟩, .int .i64 0, .int .i64 0, .string ⟨#[]⟩, .int .i64 0, .string ⟨#[]⟩, .int .i64 0, .int .i64 0, .string ⟨#[]⟩] 86 (0, 0)) (.cells #[.int .i64 0, .string ⟨#[]⟩, .slice none 0 0, .int .i64 0, .int .i64 0, .string ⟨#[]⟩, .int .i64 0, .int .i64 0, .string ⟨#[]⟩, .int .i64 0, .string ⟨#[]⟩, .int .i64 0, .int .i64 0, .string ⟨#[]⟩] 86 (0, 0)) s (w2.alloc (.cells #[.int .i64 3, .string ⟨#[]⟩, .slice none 0 0, .int .i64 0, .int .i64 0, .string ⟨#[]⟩, .int .i64 0, .int .i64 0, .string ⟨#[]⟩, .int .i64 0, .string ⟨#[]⟩, .int .i64 0, .int .i64 0, .string ⟨#[]⟩] 86 (0, 0)))) := Lib.hid (by
        rw [hbl]
        exact ⟨hr.alloc _, ((((Only.refl b W).alloc _).on (HS1.out.1.turned _)).on (hs.turned _)).alloc _, heap_alloc_new w2 _, (Below.heap_alloc _ _ _ HSz.out).trans ((heap_of_still hs _).trans ((heap_of_still HS1.out.1 _).trans (heap_alloc_new W _))), HSz.out, by simp, hnW⟩)
      clear hs hr hx
      go_wp2_with fail
      rw [← hbl]
      clear hbl
      refine (qterm_any HM.out.rd).mono ?_
      rintro y w3 ⟨ht, a, s3, v3, ha3, rfl, hv, hr⟩
      obtain rfl : v3 = .agg #[.int .i64 a.kind, .string ⟨a.name.toArray⟩, .int .i64 a.val.1, .int .i64 a.val.2.1, .string a.val.2.2] := hv
      have HA3 := Lib.hid ha3
      have HN3 := Lib.hid (HM.out.turn ht hr)
      obtain ⟨⟨c0, c1, c2, c3, c4, c5, c6, c7, c8, c9, c10, c11, c12, c13⟩, f0, f1, f2, f3, f4, f5, f6, f7, f8, f9, f10, f11, f12, f13⟩ := cellsQ14 HN3.out.box
      clear ht ha3 hr
      go_wp2_with fail
      have HM3 : Hid (LqM n b e L W bl (.cells #[.int .i64 3, .string ⟨#[]⟩, .slice none 0 0, .int .i64 0, .int .i64 a.kind, .string ⟨a.name.toArray⟩, .int .i64 a.val.1, .int .i64 a.val.2.1, .string a.val.2.2, .int .i64 0, .string ⟨#[]⟩, .int .i64 0, .int .i64 0, .string ⟨#[]⟩] 86 (0, 0)) (.cells #[.int .i64 0, .string ⟨#[]⟩, .slice none 0 0, .int .i64 0, .int .i64 0, .string ⟨#[]⟩, .int .i64 0, .int .i64 0, .string ⟨#[]⟩, .int .i64 0, .string ⟨#[]⟩, .int .i64 0, .int .i64 0, .string ⟨#[]⟩] 86 (0, 0)) s3 (((((w3.setCell ⟨bl, 4, none⟩ (.int .i64 a.kind)).setCell ⟨bl, 5, none⟩ (.string ⟨a.name.toArray⟩)).setCell ⟨bl, 6, none⟩ (.int .i64 a.val.1)).setCell ⟨bl, 7, none⟩ (.int .i64 a.val.2.1)).setCell ⟨bl, 8, none⟩ (.string a.val.2.2))) := Lib.hid (((((HN3.out.put rfl).put rfl).put rfl).put rfl).put rfl)
      clear c0 c1 c2 c3 c4 c5 c6 c7 c8 c9 c10 c11 c12 c13 f0 f1 f2 f3 f4 f5 f6 f7 f8 f9 f10 f11 f12 f13
      refine (qop_any HM3.out.rd).mono ?_
      rintro y w4 ⟨ht, o, s4, v4, ha4, rfl, hv, hr⟩
      obtain rfl : v4 = .int .i64 o := hv
      have HA4 := Lib.hid ha4
      have HN4 := Lib.hid (HM3.out.turn ht hr)
      obtain ⟨⟨c0, c1, c2, c3, c4, c5, c6, c7, c8, c9, c10, c11, c12, c13⟩, f0, f1, f2, f3, f4, f5, f6, f7, f8, f9, f10, f11, f12, f13⟩ := cellsQ14 HN4.out.box
      clear ht ha4 hr
      go_wp2_with fail
      have HM4 : Hid (LqM n b e L W bl (.cells #[.int .i64 3, .string ⟨#[]⟩, .slice none 0 0, .int .i64 o, .int .i64 a.kind, .string ⟨a.name.toArray⟩, .int .i64 a.val.1, .int .i64 a.val.2.1, .string a.val.2.2, .int .i64 0, .string ⟨#[]⟩, .int .i64 0, .int .i64 0, .string ⟨#[]⟩] 86 (0, 0)) (.cells #[.int .i64 0, .string ⟨#[]⟩, .slice none 0 0, .int .i64 0, .int .i64 0, .string ⟨#[]⟩, .int .i64 0, .int .i64 0, .string ⟨#[]⟩, .int .i64 0, .string ⟨#[]⟩, .int .i64 0, .int .i64 0, .string ⟨#[]⟩] 86 (0, 0)) s4 (w4.setCell ⟨bl, 3, none⟩ (.int .i64 o))) := Lib.hid (HN4.out.put rfl)
      clear c0 c1 c2 c3 c4 c5 c6 c7 c8 c9 c10 c11 c12 c13 f0 f1 f2 f3 f4 f5 f6 f7 f8 f9 f10 f11 f12 f13
      refine (qterm_any HM4.out.rd).mono ?_
      rintro y w5 ⟨ht, c, s5, v5, ha5, rfl, hv, hr⟩
      obtain rfl : v5 = .agg #[.int .i64 c.kind, .string ⟨c.name.toArray⟩, .int .i64 c.val.1, .int .i64 c.val.2.1, .string c.val.2.2] := hv
      have HA5 := Lib.hid ha5
      have HN5 := Lib.hid (HM4.out.turn ht hr)
      obtain ⟨⟨c0, c1, c2, c3, c4, c5, c6, c7, c8, c9, c10, c11, c12, c13⟩, f0, f1, f2, f3, f4, f5, f6, f7, f8, f9, f10, f11, f12, f13⟩ := cellsQ14 HN5.out.box
      clear ht ha5 hr
      obtain ⟨⟨d0, d1, d2, d3, d4, d5, d6, d7, d8, d9, d10, d11, d12, d13⟩, k0, k1, k2, k3, k4, k5, k6, k7, k8, k9, k10, k11, k12, k13⟩ := cellsQ14 HN5.out.res
      have hlo := HN5.out.lo
      have hhi := HN5.out.hi
      have hnebl : ¬ bl = W.heap.size := by omega
      have hnebl2 : ¬ W.heap.size = bl := by omega
      go_wp2_with fail
      have HM5 : Hid (LqM n b e L W bl (.cells #[.int .i64 3, .string ⟨#[]⟩, .slice none 0 0, .int .i64 o, .int .i64 a.kind, .string ⟨a.name.toArray⟩, .int .i64 a.val.1, .int .i64 a.val.2.1, .string a.val.2.2, .int .i64 c.kind, .string ⟨c.name.toArray⟩, .int .i64 c.val.1, .int .i64 c.val.2.1, .string c.val.2.2] 86 (0, 0)) (.cells #[.int .i64 0, .string ⟨#[]⟩, .slice none 0 0, .int .i64 0, .int .i64 0, .string ⟨#[]⟩, .int .i64 0, .int .i64 0, .string ⟨#[]⟩, .int .i64 0, .string ⟨#[]⟩, .int .i64 0, .int .i64 0, .string ⟨#[]⟩] 86 (0, 0)) s5 (((((w5.setCell ⟨bl, 9, none⟩ (.int .i64 c.kind)).setCell ⟨bl, 10, none⟩ (.string ⟨c.name.toArray⟩)).setCell ⟨bl, 11, none⟩ (.int .i64 c.val.1)).setCell ⟨bl, 12, none⟩ (.int .i64 c.val.2.1)).setCell ⟨bl, 13, none⟩ (.string c.val.2.2))) := Lib.hid (((((HN5.out.put rfl).put rfl).put rfl).put rfl).put rfl)
      refine bodyPost_ret (results_cell_row (fn := Tryz.f57) (by rfl) _ _ _ _ _ _ _ (by rfl) (rowQ14_set HM5.out.res) Tryz.underlying86 (by rfl) (by kernel_rfl)) (by rfl) ?_
      refine ⟨Only.turned (((((((((((((((HM5.out.only).set (Nat.le_refl _) _ _).set (Nat.le_refl _) _ _).set (Nat.le_refl _) _ _).set (Nat.le_refl _) _ _).set (Nat.le_refl _) _ _).set (Nat.le_refl _) _ _).set (Nat.le_refl _) _ _).set (Nat.le_refl _) _ _).set (Nat.le_refl _) _ _).set (Nat.le_refl _) _ _).set (Nat.le_refl _) _ _).set (Nat.le_refl _) _ _).set (Nat.le_refl _) _ _).set (Nat.le_refl _) _ _), ⟨3, zeroA, o, a, c⟩, s5, _, Aft.alt_no (Aft.alt_no (HA3.out.bind (HA4.out.bind (HA5.out.map fun c => (⟨3, zeroA, o, a, c⟩ : LiL)))) HY.out) HX.out, rfl, ⟨_, rfl, RowIn.nil _ _ _⟩, ((((((((((((((HM5.out.rd).set hnW _ _).set hnW _ _).set hnW _ _).set hnW _ _).set hnW _ _).set hnW _ _).set hnW _ _).set hnW _ _).set hnW _ _).set hnW _ _).set hnW _ _).set hnW _ _).set hnW _ _).set hnW _ _⟩
end
section
open Go Go.RowKit Go.Shelf

def uqT (S : Nat → Prop) (w : World) (v : Value) (r : RuL) : Prop := ∃ u x, v = .agg #[.string ⟨r.head.pred.toArray⟩, u, x] ∧ RowIn tmY S w u r.head.args ∧ RowIn liY S w x r.body
set_option maxRecDepth 100000 in
set_option maxHeartbeats 8000000 in
theorem qrule_any {n b e : Nat} {W : World} {L : List Wd} {s : Qs} (h : Rq n W b L e s) :
    Calls Tryz.prog 27 #[rdq b] W (QEnd ruleR uqT n b e L s W) := by
  have HR := Lib.hid h
  have hlt := h.lt
  have hnW := h.below_
  have hne : W.heap.size ≠ b := by omega
  have HEat := Lib.hid (fit_literal.eats)
  clear h
  go_enter Tryz.func27, Tryz.ntmps27
  go_wp2_with fail
  refine (qatom_any (HR.out.alloc (.cells #[.string ⟨#[]⟩, .slice none 0 0, .slice none 0 0] 41 (0, 0)))).mono ?_
  rintro y w1 ⟨ht, hd, s1, v1, ha, rfl, ⟨u1, rfl, hu1⟩, hr⟩
  obtain ⟨ph, ch, rfl⟩ := RowIn.shapeQ hu1
  obtain ⟨nm, hnm⟩ : ∃ nm : ByteArray, nm = ⟨hd.pred.toArray⟩ := ⟨_, rfl⟩
  obtain ⟨mh, hmh⟩ : ∃ mh, mh = hd.args.length := ⟨_, rfl⟩
  rw [← hnm, ← hmh]
  have HH : Hid (RowIn tmY (fun k => (W.alloc (.cells #[.string ⟨#[]⟩, .slice none 0 0, .slice none 0 0] 41 (0, 0))).heap.size ≤ k) w1 (.slice ph mh ch) hd.args) := Lib.hid (by rw [hmh]; exact hu1)
  have HPn := Lib.hid (And.intro hnm hmh)
  obtain ⟨ba, hba⟩ : ∃ ba, ba = w1.heap.size := ⟨_, rfl⟩
  have HBa := Lib.hid hba
  have hz1 : W.heap.size + 1 ≤ w1.heap.size := by have := ht.size; simpa using this
  have hr0 : w1.heap[W.heap.size]? = some (.cells #[.string ⟨#[]⟩, .slice none 0 0, .slice none 0 0] 41 (0, 0)) := (ht.block _ (by simp) hne).trans (heap_alloc_new W _)
  have HB1 : Hid (LqB liY 86 n b e L W ba (ba + 1) 41 (fun y => #[.string nm, .slice ph mh ch, y]) (.cells #[.string ⟨#[]⟩, .slice none 0 0, .slice none 0 0] 41 (0, 0)) w1 (.slice none 0 0) [] s1 (w1.alloc (.cells #[.string nm, .slice ph mh ch, .slice none 0 0] 41))) := Lib.hid (by
    rw [hba]
    exact ⟨RowOwn.nil _ _ _ _, hr.alloc _, (((Only.refl b W).alloc _).on ht).alloc _, heap_alloc_new w1 _, (Below.heap_alloc _ _ _ (by omega)).trans hr0, fun k _ k2 k3 => Below.heap_alloc _ _ _ (by omega), by omega, by omega, by simp, hnW⟩)
  have HA1 := Lib.hid ha
  clear ht ha hr hr0 hu1 hnm hmh
  go_wp2_with fail
  rw [← hba]
  clear hba hz1
  refine (qnext_any HB1.out.rd 6 [58, 45]).mono ?_
  rw [isKT_m (m := [58, 45]) rfl]
  rintro y w2 ⟨⟨hx, rfl⟩ | ⟨hx, rfl⟩, hs, hr⟩
  · obtain ⟨c1, f1, -, hl⟩ := hr.inc
    have hi := nxB.lt hx
    obtain ⟨s2, hs2⟩ : ∃ s2 : Qs, s2 = { s1 with i := s1.i + 1 } := ⟨_, rfl⟩
    have HB2 : Hid (LqB liY 86 n b e L W ba (ba + 1) 41 (fun y => #[.string nm, .slice ph mh ch, y]) (.cells #[.string ⟨#[]⟩, .slice none 0 0, .slice none 0 0] 41 (0, 0)) w1 (.slice none 0 0) [] s2 (w2.setCell ⟨b, 1, none⟩ (.int .i64 ((s1.i : Int) + 1)))) := Lib.hid (by rw [hs2]; exact (HB1.out.still hs).inc hi)
    have HMo : Hid (∀ zs s', Aft (sepL (isM [44]) literalR) L e s2 zs s' → Aft (moreR [58, 45] literalR) L e s1 zs s') := Lib.hid (fun zs s' h => Aft.alt_yes ((Aft.step (e := e) hx hi).bind (by rw [← hs2]; exact h)) hx)
    obtain ⟨s0, hs0⟩ : ∃ s0, s0 = s2 := ⟨_, rfl⟩
    have hJ0 : Hid (LqB liY 86 n b e L W ba (ba + 1) 41 (fun y => #[.string nm, .slice ph mh ch, y]) (.cells #[.string ⟨#[]⟩, .slice none 0 0, .slice none 0 0] 41 (0, 0)) w1 (.slice none 0 0) [] s2 (w2.setCell ⟨b, 1, none⟩ (.int .i64 ((s1.i : Int) + 1))) ∧ (∀ rest s', Aft (sepL (isM [44]) literalR) L e s2 rest s' → Aft (sepL (isM [44]) literalR) L e s0 ([] ++ rest) s') ∧ ([] : List LiL).length ≤ s2.i) := Lib.hid ⟨HB2.out, fun rest s' h => by rw [hs0]; exact h, Nat.zero_le _⟩
    rw [← hs0] at HMo
    clear hs hr hx hs0 hs2
    go_wp2_with fail
    go_loopw [16] (fun _ wr => ∃ v zs s, Hid (LqB liY 86 n b e L W ba (ba + 1) 41 (fun y => #[.string nm, .slice ph mh ch, y]) (.cells #[.string ⟨#[]⟩, .slice none 0 0, .slice none 0 0] 41 (0, 0)) w1 v zs s wr ∧ (∀ rest s', Aft (sepL (isM [44]) literalR) L e s rest s' → Aft (sepL (isM [44]) literalR) L e s0 (zs ++ rest) s') ∧ zs.length ≤ s.i)) (fun _ wr => L.length + 1 - atW wr b)
    case atStart => exact ⟨_, _, _, hJ0⟩
    case round =>
      obtain ⟨v, zs, s, HJ⟩ := hrel
      obtain ⟨c1, f1, c3, hl⟩ := HJ.out.1.rd.inc
      cases hbad : s.bad with
      | true =>
        rw [hbad] at c3
        have HM := Lib.hid (And.intro HJ.out.1 (HMo.out zs s (by have h := HJ.out.2.1 [] s (Aft.stay HJ.out.1.rd.le hbad []); rwa [List.append_nil] at h)))
        clear hJ0 HJ hbad
        go_wp2_with fail
        refine (qmark_any HM.out.1.rd [46] rfl).mono ?_
        rintro y w8 ⟨ht, u9, s9, v9, ha, rfl, rfl, hr⟩
        have HB9 := Lib.hid (HM.out.1.turn ht hr)
        have HA9 := Lib.hid ha
        obtain ⟨⟨x0, x1, x2⟩, xf0, xf1, xf2⟩ := cellsQ3 HB9.out.box
        obtain ⟨⟨y0, y1, y2⟩, yf0, yf1, yf2⟩ := cellsQ3 HB9.out.res
        obtain ⟨pw, nw, cw, rfl⟩ : ∃ p n c, v = .slice p n c := (by obtain ⟨p, c, h, -⟩ := HM.out.1.own.in_; exact ⟨p, _, c, h⟩)
        clear ht ha hr
        go_wp2_with fail
        refine bodyPost_ret (results_cell_row (fn := Tryz.f27) (by rfl) _ _ _ _ _ _ _ (by rfl) (rowQ3_set HB9.out.res) Tryz.underlying41 (by rfl) (by kernel_rfl)) (by rfl) ?_
        obtain ⟨rfl, rfl⟩ := HPn.out
        refine ⟨Only.turned (((HB9.out.only.set (Nat.le_refl _) _ _).set (Nat.le_refl _) _ _).set (Nat.le_refl _) _ _), ⟨hd, zs⟩, s9, _, HA1.out.bind ((HM.out.2.bind (HA9.out.map fun _ => zs)).map fun zs => (⟨hd, zs⟩ : RuL)), rfl, ⟨_, _, rfl, ?_, ?_⟩, ((HB9.out.rd.set HB9.out.nW _ _).set HB9.out.nW _ _).set HB9.out.nW _ _⟩
        · exact HH.out.keep (by have := HB9.out.hi; have := HB9.out.loB; have := HBa.out; simp; omega) fun k ek hk => ⟨by have h3 : W.heap.size + 1 ≤ k := (by simpa using ek); omega, (setQ3_off (by have h3 : W.heap.size + 1 ≤ k := (by simpa using ek); omega)).trans (HB9.out.mid k (by have h3 : W.heap.size + 1 ≤ k := (by simpa using ek); omega) (by have := HBa.out; omega) (by have := HBa.out; omega))⟩
        · exact HB9.out.own.in_.keep (by simp) fun k ek _ => ⟨by have := HB9.out.lo; have := HB9.out.loB; omega, setQ3_off (by have := HB9.out.lo; have := HB9.out.loB; omega)⟩

      | false =>
        rw [hbad] at c3
        obtain ⟨pv, cv, rfl⟩ : ∃ p c, v = .slice p zs.length c := (by obtain ⟨p, c, h, -⟩ := HJ.out.1.own.in_; exact ⟨p, c, h⟩)
        have HS0 := Lib.hid (show wr.drew.cell? ⟨ba, 2, none⟩ = some (.slice pv zs.length cv) from cell_of_row wr ba 2 _ _ (0, 0) HJ.out.1.box)
        have HBd := Lib.hid hbad
        clear hJ0 hbad
        go_wp2_with fail
        refine Till.begin (S := fun X => X.cell? ⟨ba, 2, none⟩ = some (.slice pv zs.length cv)) (z := 5) (by kernel_rfl) ?_
        refine Till.takeY 0 21 (v := ?_) rfl rfl (by kernel_rfl) (by kernel_rfl) (by kernel_rfl) (by decide) (fun _ _ _ h => h) (by kernel_rfl) ?_ (fun _ => HS0.out) (by first | (simp only [put_norm]; exact rfl) | exact rfl) ?_
        rotate_left
        · rintro X0 -
          go_simp; try (with_reducible rfl)
        refine Till.takeY 2 23 (v := ?_) rfl rfl (by kernel_rfl) (by kernel_rfl) (by kernel_rfl) (by decide) (fun _ _ _ h => h) (by kernel_rfl) ?_ (fun _ => HS0.out) (by first | (simp only [put_norm]; exact rfl) | exact rfl) ?_
        rotate_left
        · rintro X0 -
          go_simp; try (with_reducible rfl)
        refine Till.take [5] 1 22 (v := ?_) rfl rfl (by kernel_rfl) (by kernel_rfl) (by kernel_rfl) (by kernel_rfl) (fun _ _ _ h => h) (by kernel_rfl) ?_ HS0.out (by first | (simp only [put_norm]; exact rfl) | exact rfl) ?_
        rotate_left
        · rintro X0 s0
          go_simp; try (with_reducible rfl)
        refine Till.one 3 (by kernel_rfl) rfl (fun K hK => ?_)
        go_simp
        go_at_call 57
        refine (qliteral_any HJ.out.1.rd.drew).mono ?_
        rintro y w3 ⟨ht, a, s1, va, ha, rfl, ⟨ua, rfl, hua⟩, hr⟩
        obtain ⟨pa, ca, rfl⟩ := RowIn.shapeQ hua
        have HB3 := Lib.hid (HJ.out.1.drew.turn ht hr)
        have HA := Lib.hid ha
        have HU := Lib.hid hua
        have HSr := Lib.hid (show wr.heap.size ≤ w3.heap.size from ht.size)
        have HS3 := Lib.hid (show w3.cell? ⟨ba, 2, none⟩ = some (.slice pv zs.length cv) from cell_of_row w3 ba 2 _ _ (0, 0) HB3.out.box)
        clear ht ha hr hua
        go_simp
        refine hK.out _ _ (fun _ => HS3.out) ?_
        clear hK K
        try simp only [put_norm]
        refine Till.one 4 (by kernel_rfl) rfl (fun K hK => ?_)
        go_simp
        have hz3 : ba < w3.heap.size := HB3.out.hib
        have HS4 := Lib.hid (show (w3.alloc (.cells #[.int .i64 a.kind, .string ⟨a.atom.pred.toArray⟩, .slice pa a.atom.args.length ca, .int .i64 a.op, .int .i64 a.a.kind, .string ⟨a.a.name.toArray⟩, .int .i64 a.a.val.1, .int .i64 a.a.val.2.1, .string a.a.val.2.2, .int .i64 a.b.kind, .string ⟨a.b.name.toArray⟩, .int .i64 a.b.val.1, .int .i64 a.b.val.2.1, .string a.b.val.2.2] 86)).cell? ⟨ba, 2, none⟩ = some (.slice pv zs.length cv) from (World.cell?_of_block (a := ⟨ba, 2, none⟩) (Below.heap_alloc _ _ _ hz3)).trans HS3.out)
        have HL3 : Hid (RowOwn liY 86 (ba + 1) (w3.alloc (.cells #[.int .i64 a.kind, .string ⟨a.atom.pred.toArray⟩, .slice pa a.atom.args.length ca, .int .i64 a.op, .int .i64 a.a.kind, .string ⟨a.a.name.toArray⟩, .int .i64 a.a.val.1, .int .i64 a.a.val.2.1, .string a.a.val.2.2, .int .i64 a.b.kind, .string ⟨a.b.name.toArray⟩, .int .i64 a.b.val.1, .int .i64 a.b.val.2.1, .string a.b.val.2.2] 86)) (.slice pv zs.length cv) zs ∧ liY.is (fun k => ba + 1 ≤ k ∧ (Value.slice pv zs.length cv).ownBlock ≠ some k) (w3.alloc (.cells #[.int .i64 a.kind, .string ⟨a.atom.pred.toArray⟩, .slice pa a.atom.args.length ca, .int .i64 a.op, .int .i64 a.a.kind, .string ⟨a.a.name.toArray⟩, .int .i64 a.a.val.1, .int .i64 a.a.val.2.1, .string a.a.val.2.2, .int .i64 a.b.kind, .string ⟨a.b.name.toArray⟩, .int .i64 a.b.val.1, .int .i64 a.b.val.2.1, .string a.b.val.2.2] 86)) [.int .i64 a.kind, .string ⟨a.atom.pred.toArray⟩, .slice pa a.atom.args.length ca, .int .i64 a.op, .int .i64 a.a.kind, .string ⟨a.a.name.toArray⟩, .int .i64 a.a.val.1, .int .i64 a.a.val.2.1, .string a.a.val.2.2, .int .i64 a.b.kind, .string ⟨a.b.name.toArray⟩, .int .i64 a.b.val.1, .int .i64 a.b.val.2.1, .string a.b.val.2.2] a ∧ zs.length ≤ 1000000 ∧ ba + 1 ≤ (w3.alloc (.cells #[.int .i64 a.kind, .string ⟨a.atom.pred.toArray⟩, .slice pa a.atom.args.length ca, .int .i64 a.op, .int .i64 a.a.kind, .string ⟨a.a.name.toArray⟩, .int .i64 a.a.val.1, .int .i64 a.a.val.2.1, .string a.a.val.2.2, .int .i64 a.b.kind, .string ⟨a.b.name.toArray⟩, .int .i64 a.b.val.1, .int .i64 a.b.val.2.1, .string a.b.val.2.2] 86)).heap.size) := Lib.hid ⟨HB3.out.lit _, ⟨_, rfl, HU.out.keep (by simp) fun k ek hk => ⟨⟨Nat.le_trans HJ.out.1.hi ek, fun e2 => by have := (HJ.out.1.own.lt k e2).2; have h3 : wr.heap.size ≤ k := ek; omega⟩, Below.heap_alloc _ _ _ hk⟩⟩, by have := HJ.out.2.2; have := HJ.out.1.rd.le; have := HJ.out.1.rd.len; omega, by simp; omega⟩
        refine hK.out _ _ (fun _ => HS4.out) ?_
        clear hK K
        try simp only [put_norm]
        refine Till.one 5 (by kernel_rfl) rfl (fun K hK => ?_)
        refine step_appY liY rfl (.tmp 22) (.tmp 25) 39 86 rfl (ba + 1) (.agg #[.int .i64 0, .string ⟨#[]⟩, .slice none 0 0, .int .i64 0, .int .i64 0, .string ⟨#[]⟩, .int .i64 0, .int .i64 0, .string ⟨#[]⟩, .int .i64 0, .string ⟨#[]⟩, .int .i64 0, .int .i64 0, .string ⟨#[]⟩]) 168 Tryz.underlying39 Tryz.infoLi rfl (by decide) (by decide) _ zs a [.int .i64 a.kind, .string ⟨a.atom.pred.toArray⟩, .slice pa a.atom.args.length ca, .int .i64 a.op, .int .i64 a.a.kind, .string ⟨a.a.name.toArray⟩, .int .i64 a.a.val.1, .int .i64 a.a.val.2.1, .string a.a.val.2.2, .int .i64 a.b.kind, .string ⟨a.b.name.toArray⟩, .int .i64 a.b.val.1, .int .i64 a.b.val.2.1, .string a.b.val.2.2] w3.heap.size 1 rfl rfl HL3.out.1 HL3.out.2.1 (lit_rowcells w3 [.int .i64 a.kind, .string ⟨a.atom.pred.toArray⟩, .slice pa a.atom.args.length ca, .int .i64 a.op, .int .i64 a.a.kind, .string ⟨a.a.name.toArray⟩, .int .i64 a.a.val.1, .int .i64 a.a.val.2.1, .string a.a.val.2.2, .int .i64 a.b.kind, .string ⟨a.b.name.toArray⟩, .int .i64 a.b.val.1, .int .i64 a.b.val.2.1, .string a.b.val.2.2] _) HL3.out.2.2.1 HL3.out.2.2.2 ?_
        intro v4 w4 ho hg hv4
        obtain ⟨p4, n4, c4, rfl⟩ : ∃ p n c, v4 = .slice p n c := (by obtain ⟨p, c, h, -⟩ := ho.in_; exact ⟨p, _, c, h⟩)
        have HN := Lib.hid (HB3.out.app (idx := 2) ho hg rfl)
        obtain ⟨⟨x0, x1, x2⟩, xf0, xf1, xf2⟩ := cellsQ3 HN.out.2
        clear ho hg hv4
        refine hK.out _ _ (fun h => nomatch (show (true : Bool) = false from h)) ?_
        clear hK K
        try simp only [put_norm]
        refine Till.takeY 6 27 (v := ?_) rfl rfl (by kernel_rfl) (by kernel_rfl) (by kernel_rfl) (by decide) (fun _ _ _ h => h) (by kernel_rfl) ?_ (fun h => nomatch (show (true : Bool) = false from h)) (by first | (simp only [put_norm]; exact rfl) | exact rfl) ?_
        rotate_left
        · rintro X0 -
          go_simp; try (with_reducible rfl)
        refine Till.one 7 (by kernel_rfl) rfl (fun K hK => ?_)
        go_simp
        refine hK.out _ _ (fun h => nomatch (show (true : Bool) = false from h)) ?_
        clear hK K
        try simp only [put_norm]
        refine Till.done (by kernel_rfl) ?_ _
        go_wp2_with fail

        refine (qnext_any HN.out.1.rd 6 [44]).mono ?_
        rw [isKT_m (m := [44]) rfl]
        rintro y w6 ⟨⟨hx, rfl⟩ | ⟨hx, rfl⟩, hs, hr⟩
        · have hi := nxB.lt hx
          have HB6 := Lib.hid ((HN.out.1.still hs).inc hi)
          obtain ⟨d1, g1, d3, hl1⟩ := hr.inc
          have HXx := Lib.hid hx
          clear hs hr hx x0 x1 x2 xf0 xf1 xf2
          go_wp2_with fail
          go_roundw
          case rel =>
            refine ⟨_, zs ++ [a], { s1 with i := s1.i + 1 }, Lib.hid ⟨HB6.out, fun rest s' h => ?_, ?_⟩⟩
            · rw [List.append_assoc]
              exact HJ.out.2.1 _ _ (Aft.sep_next HEat.out HA.out HBd.out HXx.out h)
            · have := HJ.out.2.2
              have := HA.out.up
              simp
              omega
          case measure =>
            rw [HB6.out.rd.atW, HJ.out.1.rd.atW]
            have := HA.out.up
            show L.length + 1 - (s1.i + 1) < L.length + 1 - s.i
            omega
        · have HM := Lib.hid (And.intro (HN.out.1.still hs) (HMo.out (zs ++ [a]) s1 (HJ.out.2.1 [a] s1 (Aft.sep_last HEat.out HA.out HBd.out hx))))
          clear hs hr hx x0 x1 x2 xf0 xf1 xf2 HJ HB3 HA HU
          go_wp2_with fail
          refine (qmark_any HM.out.1.rd [46] rfl).mono ?_
          rintro y w8 ⟨ht, u9, s9, v9, ha, rfl, rfl, hr⟩
          have HB9 := Lib.hid (HM.out.1.turn ht hr)
          have HA9 := Lib.hid ha
          obtain ⟨⟨x0, x1, x2⟩, xf0, xf1, xf2⟩ := cellsQ3 HB9.out.box
          obtain ⟨⟨y0, y1, y2⟩, yf0, yf1, yf2⟩ := cellsQ3 HB9.out.res
          clear ht ha hr
          go_wp2_with fail
          refine bodyPost_ret (results_cell_row (fn := Tryz.f27) (by rfl) _ _ _ _ _ _ _ (by rfl) (rowQ3_set HB9.out.res) Tryz.underlying41 (by rfl) (by kernel_rfl)) (by rfl) ?_
          obtain ⟨rfl, rfl⟩ := HPn.out
          refine ⟨Only.turned (((HB9.out.only.set (Nat.le_refl _) _ _).set (Nat.le_refl _) _ _).set (Nat.le_refl _) _ _), ⟨hd, (zs ++ [a])⟩, s9, _, HA1.out.bind ((HM.out.2.bind (HA9.out.map fun _ => (zs ++ [a]))).map fun zs => (⟨hd, zs⟩ : RuL)), rfl, ⟨_, _, rfl, ?_, ?_⟩, ((HB9.out.rd.set HB9.out.nW _ _).set HB9.out.nW _ _).set HB9.out.nW _ _⟩
          · exact HH.out.keep (by have := HB9.out.hi; have := HB9.out.loB; have := HBa.out; simp; omega) fun k ek hk => ⟨by have h3 : W.heap.size + 1 ≤ k := (by simpa using ek); omega, (setQ3_off (by have h3 : W.heap.size + 1 ≤ k := (by simpa using ek); omega)).trans (HB9.out.mid k (by have h3 : W.heap.size + 1 ≤ k := (by simpa using ek); omega) (by have := HBa.out; omega) (by have := HBa.out; omega))⟩
          · exact HB9.out.own.in_.keep (by simp) fun k ek _ => ⟨by have := HB9.out.lo; have := HB9.out.loB; omega, setQ3_off (by have := HB9.out.lo; have := HB9.out.loB; omega)⟩

  · have HM := Lib.hid (And.intro (HB1.out.still hs) (show Aft (moreR [58, 45] literalR) L e s1 [] s1 from Aft.alt_no (Aft.pure HB1.out.rd.le ([] : List LiL)) hx))
    clear hs hr hx
    go_wp2_with fail
    refine (qmark_any HM.out.1.rd [46] rfl).mono ?_
    rintro y w8 ⟨ht, u9, s9, v9, ha, rfl, rfl, hr⟩
    have HB9 := Lib.hid (HM.out.1.turn ht hr)
    have HA9 := Lib.hid ha
    obtain ⟨⟨x0, x1, x2⟩, xf0, xf1, xf2⟩ := cellsQ3 HB9.out.box
    obtain ⟨⟨y0, y1, y2⟩, yf0, yf1, yf2⟩ := cellsQ3 HB9.out.res
    clear ht ha hr
    go_wp2_with fail
    refine bodyPost_ret (results_cell_row (fn := Tryz.f27) (by rfl) _ _ _ _ _ _ _ (by rfl) (rowQ3_set HB9.out.res) Tryz.underlying41 (by rfl) (by kernel_rfl)) (by rfl) ?_
    obtain ⟨rfl, rfl⟩ := HPn.out
    refine ⟨Only.turned (((HB9.out.only.set (Nat.le_refl _) _ _).set (Nat.le_refl _) _ _).set (Nat.le_refl _) _ _), ⟨hd, []⟩, s9, _, HA1.out.bind ((HM.out.2.bind (HA9.out.map fun _ => [])).map fun zs => (⟨hd, zs⟩ : RuL)), rfl, ⟨_, _, rfl, ?_, ?_⟩, ((HB9.out.rd.set HB9.out.nW _ _).set HB9.out.nW _ _).set HB9.out.nW _ _⟩
    · exact HH.out.keep (by have := HB9.out.hi; have := HB9.out.loB; have := HBa.out; simp; omega) fun k ek hk => ⟨by have h3 : W.heap.size + 1 ≤ k := (by simpa using ek); omega, (setQ3_off (by have h3 : W.heap.size + 1 ≤ k := (by simpa using ek); omega)).trans (HB9.out.mid k (by have h3 : W.heap.size + 1 ≤ k := (by simpa using ek); omega) (by have := HBa.out; omega) (by have := HBa.out; omega))⟩
    · exact HB9.out.own.in_.keep (by simp) fun k ek _ => ⟨by have := HB9.out.lo; have := HB9.out.loB; omega, setQ3_off (by have := HB9.out.lo; have := HB9.out.loB; omega)⟩

end
section
open Go Go.RowKit Go.Shelf

section
variable {α β : Type} {L : List Wd} {e : Nat} {s s1 s2 s' : Qs}
theorem Aft.over {p : Rd α} {p' : Rd β} {a : α} {c : β} (h : Aft p L e s a s1) (hb : s1.bad = true) (g : Aft p' L e s1 c s') (d : α) : Aft p L e s d s' :=
  ⟨Nat.le_trans h.up g.up, g.le, fun h0 => ⟨(g.bad hb).1, (g.bad hb).2.trans (h.bad h0).2⟩, fun _ h1 => (by rw [(g.bad hb).1] at h1; cases h1), fun hs _ => by
    obtain ⟨j, j1, j2, j3⟩ := h.no hs hb
    exact ⟨j, j1, j2, (g.bad hb).2.trans j3⟩⟩
theorem Aft.trail {q : Kt → Bool} {p : Rd α} {rest : List α} (hp : Eats p) (hi : s2.i ≤ L.length) (hc : p (keys (L.drop s2.i)) = .bad (keys (L.drop s2.i))) (h : Aft (sepL q p) L e (s2.fault L e) rest s') : Aft (sepL q p) L e s2 rest s' :=
  (Aft.fault (p := sepL q p) hi rest fun _ => sep_bad hp hc).over (s2.fault_bad L e) h rest
theorem nxB.bad {q : Kt → Bool} (h : s.bad = true) : nxB s L q = false := by unfold nxB; rw [h]; rfl
theorem nxB.all (h : s.bad = false) (hi : s.i < L.length) : nxB s L (fun _ => true) = true := by
  unfold nxB
  rw [h, dropK_at hi]
  rfl
theorem kind_close {l : List Kt} (h : nxt (isM [41]) l = true) : kindR l = .bad l := by
  cases l with
  | nil => cases h
  | cons t r =>
    refine bind_bad ?_
    rw [tok1_cons, if_neg]
    have h : isM [41] t = true := h
    unfold isM at h
    unfold isType isW
    simp only [Bool.and_eq_true, beq_iff_eq] at h
    rw [h.1]
    simp
theorem param_close {l : List Kt} (h : nxt (isM [41]) l = true) : paramR l = .bad l := by
  cases l with
  | nil => cases h
  | cons t r =>
    refine bind_bad ?_
    rw [tok1_cons, if_neg]
    have h : isM [41] t = true := h
    unfold isM at h
    unfold isK
    simp only [Bool.and_eq_true, beq_iff_eq] at h
    rw [h.1]
    simp
end
def dqT (S : Nat → Prop) (w : World) (v : Value) (d : DeL) : Prop := ∃ u, v = .agg #[.string ⟨d.name.toArray⟩, .bool d.base, u] ∧ RowIn tyY S w u d.types
set_option maxRecDepth 100000 in
set_option maxHeartbeats 8000000 in
theorem qdecl_any {n b e : Nat} {W : World} {L : List Wd} {s : Qs} (h : Rq n W b L e s) (hb0 : s.bad = false) (hi0 : s.i < L.length) (bs : Bool) :
    Calls Tryz.prog 25 #[rdq b, .bool bs] W (QEnd (declR bs) dqT n b e L s W) := by
  have HR := Lib.hid (h.step hi0)
  have hlt := h.lt
  have hnW := h.below_
  have hne : W.heap.size ≠ b := by omega
  have HEat := Lib.hid (fit_kind.eats)
  have HA0 := Lib.hid (Aft.step (e := e) (nxB.all hb0 hi0) hi0)
  obtain ⟨c1, f1, -, hl⟩ := h.inc
  have hi : (s.i : Int) < (L.length : Int) := by omega
  clear h hb0
  go_enter Tryz.func25, Tryz.ntmps25
  go_wp2_with fail
  refine (qtakeName_any (HR.out.alloc (.cells #[.string ⟨#[]⟩, .bool false, .slice none 0 0] 67 (0, 0)))).mono ?_
  rintro y w1 ⟨ht, nl, s1, v1, ha, rfl, rfl, hr⟩
  obtain ⟨nm, hnm⟩ : ∃ nm : ByteArray, nm = ⟨nl.toArray⟩ := ⟨_, rfl⟩
  rw [← hnm]
  have HPn := Lib.hid hnm
  obtain ⟨ba, hba⟩ : ∃ ba, ba = w1.heap.size := ⟨_, rfl⟩
  have HBa := Lib.hid hba
  have hz1 : W.heap.size + 1 ≤ w1.heap.size := by have := ht.size; simpa using this
  have hr0 : w1.heap[W.heap.size]? = some (.cells #[.string ⟨#[]⟩, .bool false, .slice none 0 0] 67 (0, 0)) := (ht.block _ (by simp) hne).trans (by have := heap_alloc_new (W.setCell ⟨b, 1, none⟩ (.int .i64 ((s.i : Int) + 1))) (.cells #[.string ⟨#[]⟩, .bool false, .slice none 0 0] 67 (0, 0)); rwa [World.size_setCell] at this)
  have hO : Only W.heap.size b W w1 := (((Only.refl b W).on (Turned.set W b 1 (.int .i64 ((s.i : Int) + 1)))).alloc _).on ht
  have HB1 : Hid (LqB tyY 112 n b e L W ba (ba + 1) 67 (fun y => #[.string nm, .bool bs, y]) (.cells #[.string ⟨#[]⟩, .bool false, .slice none 0 0] 67 (0, 0)) w1 (.slice none 0 0) [] s1 (w1.alloc (.cells #[.string nm, .bool bs, .slice none 0 0] 67))) := Lib.hid (by
    rw [hba]
    exact ⟨RowOwn.nil _ _ _ _, hr.alloc _, hO.alloc _, heap_alloc_new w1 _, (Below.heap_alloc _ _ _ (by omega)).trans hr0, fun k _ k2 k3 => Below.heap_alloc _ _ _ (by omega), by omega, by omega, by simp, hnW⟩)
  have HA1 := Lib.hid ha
  clear ht ha hr hr0 hnm hO
  go_wp2_with fail
  rw [← hba]
  clear hba hz1
  refine (qmark_any HB1.out.rd [40] rfl).mono ?_
  rintro y w2 ⟨ht, u2, s2, v2, ha, rfl, rfl, hr⟩
  have HB2 := Lib.hid (HB1.out.turn ht hr)
  obtain ⟨s0, hs0⟩ : ∃ s0, s0 = s2 := ⟨_, rfl⟩
  have HP : Hid (∀ (zs : List Int) (s8 s9 : Qs) (u : Unit), Aft (rowR kindR) L e s0 zs s8 → Aft (markR [46]) L e s8 u s9 → Aft (declR bs) L e s ⟨bs, nl, zs⟩ s9) := Lib.hid (fun zs s8 s9 u h h' => HA0.out.bind (HA1.out.bind (ha.bind (by rw [← hs0]; exact h.bind (h'.map fun _ => (⟨bs, nl, zs⟩ : DeL))))))
  have hJ0 : Hid (LqB tyY 112 n b e L W ba (ba + 1) 67 (fun y => #[.string nm, .bool bs, y]) (.cells #[.string ⟨#[]⟩, .bool false, .slice none 0 0] 67 (0, 0)) w1 (.slice none 0 0) [] s2 w2 ∧ (∀ rest s', Aft (sepL (isM [44]) kindR) L e s2 rest s' → Aft (sepL (isM [44]) kindR) L e s0 ([] ++ rest) s') ∧ ([] : List Int).length ≤ s2.i) := Lib.hid ⟨HB2.out, fun rest s' h => by rw [hs0]; exact h, Nat.zero_le _⟩
  have HS02 := Lib.hid hs0.symm
  clear ht ha hr hs0
  go_wp2_with fail
  go_loopw [19] (fun _ wr => ∃ v zs s, Hid (LqB tyY 112 n b e L W ba (ba + 1) 67 (fun y => #[.string nm, .bool bs, y]) (.cells #[.string ⟨#[]⟩, .bool false, .slice none 0 0] 67 (0, 0)) w1 v zs s wr ∧ (∀ rest s', Aft (sepL (isM [44]) kindR) L e s rest s' → Aft (sepL (isM [44]) kindR) L e s0 (zs ++ rest) s') ∧ zs.length ≤ s.i ∧ ((zs = [] ∧ s = s0) ∨ (nxB s0 L (isM [41]) = false ∧ nxB s L (isM [41]) = false)))) (fun _ wr => L.length + 1 - atW wr b)
  case atStart => exact ⟨_, [], s2, Lib.hid ⟨hJ0.out.1, hJ0.out.2.1, hJ0.out.2.2, .inl ⟨rfl, HS02.out⟩⟩⟩
  case round =>
    obtain ⟨v, zs, s, HJ⟩ := hrel
    obtain ⟨c1, f1, c3, hl⟩ := HJ.out.1.rd.inc
    cases hbad : s.bad with
    | true =>
      rw [hbad] at c3
      have HM := Lib.hid (And.intro HJ.out.1 (show Aft (altR (isM [41]) (pureR []) (sepL (isM [44]) kindR)) L e s0 zs s from Aft.alt_no (by have h := HJ.out.2.1 [] s (Aft.stay HJ.out.1.rd.le hbad []); rwa [List.append_nil] at h) (by
        rcases HJ.out.2.2.2 with ⟨-, h⟩ | ⟨h, -⟩
        · rw [← h]; exact nxB.bad hbad
        · exact h)))
      clear hJ0 HJ hbad
      go_wp2_with fail
      refine (qmark_any HM.out.1.rd [41] rfl).mono ?_
      rintro y w7 ⟨ht, u8, s8, v8, ha, rfl, rfl, hr⟩
      have HB8 := Lib.hid (HM.out.1.turn ht hr)
      have HA8 := Lib.hid ha
      clear ht ha hr
      go_wp2_with fail
      refine (qmark_any HB8.out.rd [46] rfl).mono ?_
      rintro y w8 ⟨ht, u9, s9, v9, ha, rfl, rfl, hr⟩
      have HB9 := Lib.hid (HB8.out.turn ht hr)
      have HA9 := Lib.hid ha
      obtain ⟨⟨x0, x1, x2⟩, xf0, xf1, xf2⟩ := cellsQ3 HB9.out.box
      obtain ⟨⟨y0, y1, y2⟩, yf0, yf1, yf2⟩ := cellsQ3 HB9.out.res
      obtain ⟨pw, nw, cw, rfl⟩ : ∃ p n c, v = .slice p n c := (by obtain ⟨p, c, h, -⟩ := HM.out.1.own.in_; exact ⟨p, _, c, h⟩)
      clear ht ha hr
      go_wp2_with fail
      refine bodyPost_ret (results_cell_row (fn := Tryz.f25) (by rfl) _ _ _ _ _ _ _ (by rfl) (rowQ3_set HB9.out.res) Tryz.underlying67 (by rfl) (by kernel_rfl)) (by rfl) ?_
      obtain rfl := HPn.out
      refine ⟨Only.turned (((HB9.out.only.set (Nat.le_refl _) _ _).set (Nat.le_refl _) _ _).set (Nat.le_refl _) _ _), ⟨bs, nl, zs⟩, s9, _, HP.out _ _ _ _ (Aft.bind HM.out.2 (HA8.out.map fun _ => zs)) HA9.out, rfl, ⟨_, rfl, ?_⟩, ((HB9.out.rd.set HB9.out.nW _ _).set HB9.out.nW _ _).set HB9.out.nW _ _⟩
      exact HB9.out.own.in_.keep (by simp) fun k ek _ => ⟨by have := HB9.out.lo; have := HB9.out.loB; omega, setQ3_off (by have := HB9.out.lo; have := HB9.out.loB; omega)⟩

    | false =>
      rw [hbad] at c3
      have HBd := Lib.hid hbad
      clear hJ0 hbad
      go_wp2_with fail
      refine (qnext_any HJ.out.1.rd 6 [41]).mono ?_
      rw [isKT_m (m := [41]) rfl]
      rintro y w6 ⟨⟨hx, rfl⟩ | ⟨hx, rfl⟩, hs, hr⟩
      · have HM := Lib.hid (And.intro (HJ.out.1.still hs) (show Aft (altR (isM [41]) (pureR []) (sepL (isM [44]) kindR)) L e s0 zs s by
          rcases HJ.out.2.2.2 with ⟨h1, h2⟩ | ⟨-, h2⟩
          · subst h1
            rw [← h2]
            exact Aft.alt_yes (Aft.pure HJ.out.1.rd.le _) hx
          · rw [hx] at h2; cases h2))
        clear HJ hs hr hx
        go_wp2_with fail
        refine (qmark_any HM.out.1.rd [41] rfl).mono ?_
        rintro y w7 ⟨ht, u8, s8, v8, ha, rfl, rfl, hr⟩
        have HB8 := Lib.hid (HM.out.1.turn ht hr)
        have HA8 := Lib.hid ha
        clear ht ha hr
        go_wp2_with fail
        refine (qmark_any HB8.out.rd [46] rfl).mono ?_
        rintro y w8 ⟨ht, u9, s9, v9, ha, rfl, rfl, hr⟩
        have HB9 := Lib.hid (HB8.out.turn ht hr)
        have HA9 := Lib.hid ha
        obtain ⟨⟨x0, x1, x2⟩, xf0, xf1, xf2⟩ := cellsQ3 HB9.out.box
        obtain ⟨⟨y0, y1, y2⟩, yf0, yf1, yf2⟩ := cellsQ3 HB9.out.res
        obtain ⟨pw, nw, cw, rfl⟩ : ∃ p n c, v = .slice p n c := (by obtain ⟨p, c, h, -⟩ := HM.out.1.own.in_; exact ⟨p, _, c, h⟩)
        clear ht ha hr
        go_wp2_with fail
        refine bodyPost_ret (results_cell_row (fn := Tryz.f25) (by rfl) _ _ _ _ _ _ _ (by rfl) (rowQ3_set HB9.out.res) Tryz.underlying67 (by rfl) (by kernel_rfl)) (by rfl) ?_
        obtain rfl := HPn.out
        refine ⟨Only.turned (((HB9.out.only.set (Nat.le_refl _) _ _).set (Nat.le_refl _) _ _).set (Nat.le_refl _) _ _), ⟨bs, nl, zs⟩, s9, _, HP.out _ _ _ _ (Aft.bind HM.out.2 (HA8.out.map fun _ => zs)) HA9.out, rfl, ⟨_, rfl, ?_⟩, ((HB9.out.rd.set HB9.out.nW _ _).set HB9.out.nW _ _).set HB9.out.nW _ _⟩
        exact HB9.out.own.in_.keep (by simp) fun k ek _ => ⟨by have := HB9.out.lo; have := HB9.out.loB; omega, setQ3_off (by have := HB9.out.lo; have := HB9.out.loB; omega)⟩

      · have HB0 := Lib.hid (HJ.out.1.still hs)
        have HX := Lib.hid hx
        have HF : Hid (nxB s0 L (isM [41]) = false) := Lib.hid (by
          rcases HJ.out.2.2.2 with ⟨-, h2⟩ | ⟨h2, -⟩
          · rw [← h2]; exact hx
          · exact h2)
        have HAt := Lib.hid (show atW w6 b = atW wr b by rw [HB0.out.rd.atW, HJ.out.1.rd.atW])
        obtain ⟨pv, cv, rfl⟩ : ∃ p c, v = .slice p zs.length c := (by obtain ⟨p, c, h, -⟩ := HB0.out.own.in_; exact ⟨p, c, h⟩)
        have HS0 := Lib.hid (show w6.drew.cell? ⟨ba, 2, none⟩ = some (.slice pv zs.length cv) from cell_of_row w6 ba 2 _ _ (0, 0) HB0.out.box)
        clear hs hr hx c1 f1 c3
        go_wp2_with fail
        refine Till.begin (S := fun X => X.cell? ⟨ba, 2, none⟩ = some (.slice pv zs.length cv)) (z := 5) (by kernel_rfl) ?_
        refine Till.takeY 0 29 (v := ?_) rfl rfl (by kernel_rfl) (by kernel_rfl) (by kernel_rfl) (by decide) (fun _ _ _ h => h) (by kernel_rfl) ?_ (fun _ => HS0.out) (by first | (simp only [put_norm]; exact rfl) | exact rfl) ?_
        rotate_left
        · rintro X0 -
          go_simp; try (with_reducible rfl)
        refine Till.takeY 2 31 (v := ?_) rfl rfl (by kernel_rfl) (by kernel_rfl) (by kernel_rfl) (by decide) (fun _ _ _ h => h) (by kernel_rfl) ?_ (fun _ => HS0.out) (by first | (simp only [put_norm]; exact rfl) | exact rfl) ?_
        rotate_left
        · rintro X0 -
          go_simp; try (with_reducible rfl)
        refine Till.take [5] 1 30 (v := ?_) rfl rfl (by kernel_rfl) (by kernel_rfl) (by kernel_rfl) (by kernel_rfl) (fun _ _ _ h => h) (by kernel_rfl) ?_ HS0.out (by first | (simp only [put_norm]; exact rfl) | exact rfl) ?_
        rotate_left
        · rintro X0 s0
          go_simp; try (with_reducible rfl)
        refine Till.one 3 (by kernel_rfl) rfl (fun K hK => ?_)
        go_simp
        go_at_call 53
        refine (qkind_any HB0.out.rd.drew).mono ?_
        rintro y w3 ⟨ht, a, s1, va, ha, rfl, hva, hr⟩
        obtain rfl : va = .int .i64 a := hva
        have HB3 := Lib.hid (HB0.out.drew.turn ht hr)
        have HA := Lib.hid ha
        have HS3 := Lib.hid (show w3.cell? ⟨ba, 2, none⟩ = some (.slice pv zs.length cv) from cell_of_row w3 ba 2 _ _ (0, 0) HB3.out.box)
        clear ht ha hr
        go_simp
        refine hK.out _ _ (fun _ => HS3.out) ?_
        clear hK K
        try simp only [put_norm]
        refine Till.one 4 (by kernel_rfl) rfl (fun K hK => ?_)
        go_simp
        have hz3 : ba < w3.heap.size := HB3.out.hib
        have HS4 := Lib.hid (show (w3.alloc (.cells #[.int .i64 a] 112)).cell? ⟨ba, 2, none⟩ = some (.slice pv zs.length cv) from (World.cell?_of_block (a := ⟨ba, 2, none⟩) (Below.heap_alloc _ _ _ hz3)).trans HS3.out)
        have HL3 : Hid (RowOwn tyY 112 (ba + 1) (w3.alloc (.cells #[.int .i64 a] 112)) (.slice pv zs.length cv) zs ∧ tyY.is (fun k => ba + 1 ≤ k ∧ (Value.slice pv zs.length cv).ownBlock ≠ some k) (w3.alloc (.cells #[.int .i64 a] 112)) [.int .i64 a] a ∧ zs.length ≤ 1000000 ∧ ba + 1 ≤ (w3.alloc (.cells #[.int .i64 a] 112)).heap.size) := Lib.hid ⟨HB3.out.lit _, rfl, by have := HJ.out.2.2.1; have := HJ.out.1.rd.le; have := HJ.out.1.rd.len; omega, by simp; omega⟩
        refine hK.out _ _ (fun _ => HS4.out) ?_
        clear hK K
        try simp only [put_norm]
        refine Till.one 5 (by kernel_rfl) rfl (fun K hK => ?_)
        refine step_appY tyY rfl (.tmp 30) (.tmp 33) 65 112 rfl (ba + 1) (.int .i64 0) 8 Tryz.underlying65 Tryz.infoTy rfl (by decide) (by decide) _ zs a [.int .i64 a] w3.heap.size 1 rfl rfl HL3.out.1 HL3.out.2.1 (lit_rowcells w3 [.int .i64 a] _) HL3.out.2.2.1 HL3.out.2.2.2 ?_
        intro v4 w4 ho hg hv4
        obtain ⟨p4, n4, c4, rfl⟩ : ∃ p n c, v4 = .slice p n c := (by obtain ⟨p, c, h, -⟩ := ho.in_; exact ⟨p, _, c, h⟩)
        have HN := Lib.hid (HB3.out.app (idx := 2) ho hg rfl)
        obtain ⟨⟨x0, x1, x2⟩, xf0, xf1, xf2⟩ := cellsQ3 HN.out.2
        clear ho hg hv4
        refine hK.out _ _ (fun h => nomatch (show (true : Bool) = false from h)) ?_
        clear hK K
        try simp only [put_norm]
        refine Till.takeY 6 35 (v := ?_) rfl rfl (by kernel_rfl) (by kernel_rfl) (by kernel_rfl) (by decide) (fun _ _ _ h => h) (by kernel_rfl) ?_ (fun h => nomatch (show (true : Bool) = false from h)) (by first | (simp only [put_norm]; exact rfl) | exact rfl) ?_
        rotate_left
        · rintro X0 -
          go_simp; try (with_reducible rfl)
        refine Till.one 7 (by kernel_rfl) rfl (fun K hK => ?_)
        go_simp
        refine hK.out _ _ (fun h => nomatch (show (true : Bool) = false from h)) ?_
        clear hK K
        try simp only [put_norm]
        refine Till.done (by kernel_rfl) ?_ _
        go_wp2_with fail

        refine (qnext_any HN.out.1.rd 6 [44]).mono ?_
        rw [isKT_m (m := [44]) rfl]
        rintro y w7 ⟨⟨hx, rfl⟩ | ⟨hx, rfl⟩, hs, hr⟩
        · have hi := nxB.lt hx
          have HB6 := Lib.hid ((HN.out.1.still hs).inc hi)
          obtain ⟨d1, g1, d3, hl1⟩ := hr.inc
          have HNe : Hid (∀ rest s', Aft (sepL (isM [44]) kindR) L e { s1 with i := s1.i + 1 } rest s' → Aft (sepL (isM [44]) kindR) L e s0 (zs ++ [a] ++ rest) s') := Lib.hid (fun rest s' h => by
            rw [List.append_assoc]
            exact HJ.out.2.1 _ _ (Aft.sep_next HEat.out HA.out HBd.out hx h))
          have HLe := Lib.hid (show (zs ++ [a]).length ≤ s1.i + 1 by have := HJ.out.2.2.1; have := HA.out.up; simp; omega)
          clear hs hr hx x0 x1 x2 xf0 xf1 xf2
          go_wp2_with fail
          refine (qnext_any HB6.out.rd 6 [41]).mono ?_
          rw [isKT_m (m := [41]) rfl]
          rintro y w8 ⟨⟨hx, rfl⟩ | ⟨hx, rfl⟩, hs, hr⟩
          · have HX8 := Lib.hid hx
            have HB8 := Lib.hid (HB6.out.still hs)
            clear hs hr hx
            go_wp2_with fail
            refine (qfault_any HB8.out.rd).mono ?_
            rintro y w9 ⟨rfl, ht, hr⟩
            have HB9 := Lib.hid (HB8.out.turn ht hr)
            clear ht hr
            go_wp2_with fail
            go_roundw
            case rel =>
              refine ⟨_, zs ++ [a], _, Lib.hid ⟨HB9.out, fun rest s' h => HNe.out _ _ (Aft.trail HEat.out HB8.out.rd.le (kind_close (nxB.yes HX8.out).2) h), by rw [Qs.fault_i]; exact HLe.out, .inr ⟨HF.out, nxB.bad (Qs.fault_bad _ _ _)⟩⟩⟩
            case measure =>
              rw [HB9.out.rd.atW, HJ.out.1.rd.atW, Qs.fault_i]
              have := HA.out.up
              show L.length + 1 - (s1.i + 1) < L.length + 1 - s.i
              omega
          · have HX8 := Lib.hid hx
            have HB8 := Lib.hid (HB6.out.still hs)
            clear hs hr hx
            go_wp2_with fail
            go_roundw
            case rel =>
              exact ⟨_, zs ++ [a], _, Lib.hid ⟨HB8.out, HNe.out, HLe.out, .inr ⟨HF.out, HX8.out⟩⟩⟩
            case measure =>
              rw [HB8.out.rd.atW, HJ.out.1.rd.atW]
              have := HA.out.up
              show L.length + 1 - (s1.i + 1) < L.length + 1 - s.i
              omega
        · have HM := Lib.hid (And.intro (HN.out.1.still hs) (show Aft (altR (isM [41]) (pureR []) (sepL (isM [44]) kindR)) L e s0 (zs ++ [a]) s1 from Aft.alt_no (HJ.out.2.1 [a] s1 (Aft.sep_last HEat.out HA.out HBd.out hx)) HF.out))
          clear hs hr hx x0 x1 x2 xf0 xf1 xf2 HJ HB3 HA HB0
          go_wp2_with fail
          refine (qmark_any HM.out.1.rd [41] rfl).mono ?_
          rintro y w7 ⟨ht, u8, s8, v8, ha, rfl, rfl, hr⟩
          have HB8 := Lib.hid (HM.out.1.turn ht hr)
          have HA8 := Lib.hid ha
          clear ht ha hr
          go_wp2_with fail
          refine (qmark_any HB8.out.rd [46] rfl).mono ?_
          rintro y w8 ⟨ht, u9, s9, v9, ha, rfl, rfl, hr⟩
          have HB9 := Lib.hid (HB8.out.turn ht hr)
          have HA9 := Lib.hid ha
          obtain ⟨⟨x0, x1, x2⟩, xf0, xf1, xf2⟩ := cellsQ3 HB9.out.box
          obtain ⟨⟨y0, y1, y2⟩, yf0, yf1, yf2⟩ := cellsQ3 HB9.out.res
          clear ht ha hr
          go_wp2_with fail
          refine bodyPost_ret (results_cell_row (fn := Tryz.f25) (by rfl) _ _ _ _ _ _ _ (by rfl) (rowQ3_set HB9.out.res) Tryz.underlying67 (by rfl) (by kernel_rfl)) (by rfl) ?_
          obtain rfl := HPn.out
          refine ⟨Only.turned (((HB9.out.only.set (Nat.le_refl _) _ _).set (Nat.le_refl _) _ _).set (Nat.le_refl _) _ _), ⟨bs, nl, (zs ++ [a])⟩, s9, _, HP.out _ _ _ _ (Aft.bind HM.out.2 (HA8.out.map fun _ => (zs ++ [a]))) HA9.out, rfl, ⟨_, rfl, ?_⟩, ((HB9.out.rd.set HB9.out.nW _ _).set HB9.out.nW _ _).set HB9.out.nW _ _⟩
          exact HB9.out.own.in_.keep (by simp) fun k ek _ => ⟨by have := HB9.out.lo; have := HB9.out.loB; omega, setQ3_off (by have := HB9.out.lo; have := HB9.out.loB; omega)⟩

end
section
open Go Go.RowKit Go.Shelf

def oqT (S : Nat → Prop) (w : World) (v : Value) (o : OnL) : Prop := ∃ u x, v = .agg #[.string ⟨o.event.toArray⟩, u, x] ∧ RowIn paY S w u o.params ∧ RowIn acY S w x o.acts
section
variable {α β : Type} {Y : Lay α} {Y2 : Lay β} {et et2 : TypeId} {n b e : Nat} {L : List Wd} {W : World} {ba B : Nat} {t : TypeId} {fo fo2 : Value → Array Value} {ro : Obj} {w0 : World} {v : Value} {zs : List α} {s s' : Qs} {w w' : World}
/-- The box's next field. -/
theorem LqB.next (h : LqB Y et n b e L W ba B t fo ro w0 v zs s w) (hf : fo v = fo2 (.slice none 0 0)) : LqB Y2 et2 n b e L W ba w.heap.size t fo2 ro w (.slice none 0 0) [] s w :=
  ⟨RowOwn.nil _ _ _ _, h.rd, h.only, by rw [← hf]; exact h.box, h.res, fun _ _ _ _ => rfl, h.lo, h.hib, Nat.le_refl _, h.nW⟩
theorem rowOwnP_keep {v : Value} {L : List (List UInt8 × Int)} (h : RowOwn paY et B w v L) (hb : ∀ k, v.ownBlock = some k → w'.heap[k]? = w.heap[k]?) : RowOwn paY et B w' v L := by
  obtain ⟨us, h1, h2⟩ := h
  refine ⟨us, ownsRow_keep h1 hb, fun j hj => ?_⟩
  obtain ⟨xs, hx, hc⟩ := h2 j hj
  exact ⟨xs, hx, hc⟩
/-- A block that is neither the box nor the row's. -/
theorem LqB.other {zp : List (List UInt8 × Int)} (h : LqB paY et n b e L W ba B t fo ro w0 v zp s w) {k : Nat} (hk : B ≤ k) (ho : v.ownBlock ≠ some k) (j : Nat) (u : Value) : LqB paY et n b e L W ba B t fo ro w0 v zp s (w.setCell ⟨k, j, none⟩ u) := by
  have h1 := h.lo
  have h2 := h.loB
  have h3 := h.nW
  have hoff : ∀ i, i ≠ k → (w.setCell ⟨k, j, none⟩ u).heap[i]? = w.heap[i]? := fun i hi => heap_setCell_other w ⟨k, j, none⟩ i u hi
  exact ⟨rowOwnP_keep h.own fun i e => hoff i fun e2 => ho (by rw [← e2]; exact e), h.rd.set (by omega) _ _, h.only.set (by omega) _ _, (hoff _ (by omega)).trans h.box, (hoff _ (by omega)).trans h.res, fun i i1 i2 i3 => (hoff i (by omega)).trans (h.mid i i1 i2 i3), h1, h2, by simpa using h.hi, h3⟩
theorem LqB.alloc (h : LqB Y et n b e L W ba B t fo ro w0 v zs s w) (o : Obj) : LqB Y et n b e L W ba B t fo ro w0 v zs s (w.alloc o) := by
  have h1 := h.lo
  have h2 := h.hib
  have h3 := h.hi
  exact ⟨h.lit o, h.rd.alloc o, h.only.alloc o, (Below.heap_alloc _ _ _ h2).trans h.box, (Below.heap_alloc _ _ _ (by omega)).trans h.res, fun k k1 k2 k3 => (Below.heap_alloc _ _ _ (by omega)).trans (h.mid k k1 k2 k3), h1, h.loB, by simp; omega, h.nW⟩
end
set_option maxRecDepth 100000 in
set_option maxHeartbeats 16000000 in
theorem qon_any {n b e : Nat} {W : World} {L : List Wd} {s : Qs} (h : Rq n W b L e s) (hb0 : s.bad = false) (hi0 : s.i < L.length) :
    Calls Tryz.prog 26 #[rdq b] W (QEnd onR oqT n b e L s W) := by
  have HR := Lib.hid (h.step hi0)
  have hlt := h.lt
  have hnW := h.below_
  have hne : W.heap.size ≠ b := by omega
  have HEat := Lib.hid (fit_param.eats)
  have HEac := Lib.hid (fit_act.eats)
  have HA0 := Lib.hid (Aft.step (e := e) (nxB.all hb0 hi0) hi0)
  have F1 := wf1
  obtain ⟨c1, f1, -, hl⟩ := h.inc
  have hi : (s.i : Int) < (L.length : Int) := by omega
  clear h hb0
  go_enter Tryz.func26, Tryz.ntmps26
  go_wp2_with fail
  refine (qtakeName_any (HR.out.alloc (.cells #[.string ⟨#[]⟩, .slice none 0 0, .slice none 0 0] 72 (0, 0)))).mono ?_
  rintro y w1 ⟨ht, nl, s1, v1, ha, rfl, rfl, hr⟩
  obtain ⟨nm, hnm⟩ : ∃ nm : ByteArray, nm = ⟨nl.toArray⟩ := ⟨_, rfl⟩
  rw [← hnm]
  have HPn := Lib.hid hnm
  obtain ⟨ba, hba⟩ : ∃ ba, ba = w1.heap.size := ⟨_, rfl⟩
  have hz1 : W.heap.size + 1 ≤ w1.heap.size := by have := ht.size; simpa using this
  have hr0 : w1.heap[W.heap.size]? = some (.cells #[.string ⟨#[]⟩, .slice none 0 0, .slice none 0 0] 72 (0, 0)) := (ht.block _ (by simp) hne).trans (by have := heap_alloc_new (W.setCell ⟨b, 1, none⟩ (.int .i64 ((s.i : Int) + 1))) (.cells #[.string ⟨#[]⟩, .slice none 0 0, .slice none 0 0] 72 (0, 0)); rwa [World.size_setCell] at this)
  have hO : Only W.heap.size b W w1 := (((Only.refl b W).on (Turned.set W b 1 (.int .i64 ((s.i : Int) + 1)))).alloc _).on ht
  have HB1 : Hid (LqB paY 116 n b e L W ba (ba + 1) 72 (fun y => #[.string nm, y, .slice none 0 0]) (.cells #[.string ⟨#[]⟩, .slice none 0 0, .slice none 0 0] 72 (0, 0)) w1 (.slice none 0 0) [] s1 (w1.alloc (.cells #[.string nm, .slice none 0 0, .slice none 0 0] 72))) := Lib.hid (by
    rw [hba]
    exact ⟨RowOwn.nil _ _ _ _, hr.alloc _, hO.alloc _, heap_alloc_new w1 _, (Below.heap_alloc _ _ _ (by omega)).trans hr0, fun k _ k2 k3 => Below.heap_alloc _ _ _ (by omega), by omega, by omega, by simp, hnW⟩)
  have HA1 := Lib.hid ha
  clear ht ha hr hr0 hnm hO
  go_wp2_with fail
  rw [← hba]
  clear hba hz1
  refine (qmark_any HB1.out.rd [40] rfl).mono ?_
  rintro y w2 ⟨ht, u2, s2, v2, ha, rfl, rfl, hr⟩
  have HB2 := Lib.hid (HB1.out.turn ht hr)
  obtain ⟨s0, hs0⟩ : ∃ s0, s0 = s2 := ⟨_, rfl⟩
  have HP : Hid (∀ (ps : List (List UInt8 × Int)) (s8 s9 : Qs) (zs : List ActL) (_ : Unit), Aft (rowR paramR) L e s0 ps s8 → Aft (bindR (moreR [58] actR) fun l0 => bindR (markR [46]) fun _ => pureR l0) L e s8 zs s9 → Aft onR L e s ⟨nl, ps, zs⟩ s9) := Lib.hid (fun ps s8 s9 zs _ h h' => HA0.out.bind (HA1.out.bind (ha.bind (by rw [← hs0]; exact h.bind (h'.map fun l0 => (⟨nl, ps, l0⟩ : OnL))))))
  have hJ0 : Hid (LqB paY 116 n b e L W ba (ba + 1) 72 (fun y => #[.string nm, y, .slice none 0 0]) (.cells #[.string ⟨#[]⟩, .slice none 0 0, .slice none 0 0] 72 (0, 0)) w1 (.slice none 0 0) [] s2 w2 ∧ (∀ rest s', Aft (sepL (isM [44]) paramR) L e s2 rest s' → Aft (sepL (isM [44]) paramR) L e s0 ([] ++ rest) s') ∧ ([] : List (List UInt8 × Int)).length ≤ s2.i) := Lib.hid ⟨HB2.out, fun rest s' h => by rw [hs0]; exact h, Nat.zero_le _⟩
  have HS02 := Lib.hid hs0.symm
  clear ht ha hr hs0
  go_wp2_with fail
  go_loopw [17] (fun _ wr => ∃ v zs s, Hid (LqB paY 116 n b e L W ba (ba + 1) 72 (fun y => #[.string nm, y, .slice none 0 0]) (.cells #[.string ⟨#[]⟩, .slice none 0 0, .slice none 0 0] 72 (0, 0)) w1 v zs s wr ∧ (∀ rest s', Aft (sepL (isM [44]) paramR) L e s rest s' → Aft (sepL (isM [44]) paramR) L e s0 (zs ++ rest) s') ∧ zs.length ≤ s.i ∧ ((zs = [] ∧ s = s0) ∨ (nxB s0 L (isM [41]) = false ∧ nxB s L (isM [41]) = false)))) (fun _ wr => L.length + 1 - atW wr b)
  case atStart => exact ⟨_, [], s2, Lib.hid ⟨hJ0.out.1, hJ0.out.2.1, hJ0.out.2.2, .inl ⟨rfl, HS02.out⟩⟩⟩
  case round =>
    obtain ⟨v, zs, s, HJ⟩ := hrel
    obtain ⟨c1, f1, c3, hl⟩ := HJ.out.1.rd.inc
    cases hbad : s.bad with
    | true =>
      rw [hbad] at c3
      have HM := Lib.hid (And.intro HJ.out.1 (show Aft (altR (isM [41]) (pureR []) (sepL (isM [44]) paramR)) L e s0 zs s from Aft.alt_no (by have h := HJ.out.2.1 [] s (Aft.stay HJ.out.1.rd.le hbad []); rwa [List.append_nil] at h) (by
        rcases HJ.out.2.2.2 with ⟨-, h⟩ | ⟨h, -⟩
        · rw [← h]; exact nxB.bad hbad
        · exact h)))
      clear hJ0 HJ hbad
      obtain ⟨pp, np, cp, rfl⟩ : ∃ p n c, v = .slice p n c := (by obtain ⟨p, c, h, -⟩ := HM.out.1.own.in_; exact ⟨p, _, c, h⟩)

      go_wp2_with fail
      obtain ⟨ps, hps⟩ : ∃ ps, ps = zs := ⟨_, rfl⟩
      rw [← hps] at HM
      clear hps
      refine (qmark_any HM.out.1.rd [41] rfl).mono ?_
      rintro y wX ⟨ht, u8, s8, v8, ha, rfl, rfl, hr⟩
      have HB8 := Lib.hid (HM.out.1.turn ht hr)
      have HPs : Hid (RowIn paY (fun k => ba + 1 ≤ k) wX (.slice pp np cp) ps ∧ Aft (rowR paramR) L e s0 ps s8) := Lib.hid ⟨HB8.out.own.in_, HM.out.2.bind (ha.map fun _ => ps)⟩
      obtain ⟨B2, hB2⟩ : ∃ B2, B2 = wX.heap.size := ⟨_, rfl⟩
      have HXs := Lib.hid hB2
      have HBX : Hid (LqB acY 118 n b e L W ba B2 72 (fun y => #[.string nm, .slice pp np cp, y]) (.cells #[.string ⟨#[]⟩, .slice none 0 0, .slice none 0 0] 72 (0, 0)) wX (.slice none 0 0) [] s8 wX) := Lib.hid (by rw [hB2]; exact HB8.out.next rfl)
      clear ht ha hr hB2 HM
      go_wp2_with fail
      refine (qnext_any HBX.out.rd 6 [58]).mono ?_
      rw [isKT_m (m := [58]) rfl]
      rintro y w2 ⟨⟨hx, rfl⟩ | ⟨hx, rfl⟩, hs, hr⟩
      · obtain ⟨c1, f1, -, hl⟩ := hr.inc
        have hi := nxB.lt hx
        obtain ⟨sX, hsX⟩ : ∃ sX : Qs, sX = { s8 with i := s8.i + 1 } := ⟨_, rfl⟩
        have HB2 : Hid (LqB acY 118 n b e L W ba B2 72 (fun y => #[.string nm, .slice pp np cp, y]) (.cells #[.string ⟨#[]⟩, .slice none 0 0, .slice none 0 0] 72 (0, 0)) wX (.slice none 0 0) [] sX (w2.setCell ⟨b, 1, none⟩ (.int .i64 ((s8.i : Int) + 1)))) := Lib.hid (by rw [hsX]; exact (HBX.out.still hs).inc hi)
        have HMo : Hid (∀ zs s', Aft (sepL (isM [44]) actR) L e sX zs s' → Aft (moreR [58] actR) L e s8 zs s') := Lib.hid (fun zs s' h => Aft.alt_yes ((Aft.step (e := e) hx hi).bind (by rw [← hsX]; exact h)) hx)
        obtain ⟨sY, hsY⟩ : ∃ sY, sY = sX := ⟨_, rfl⟩
        have hJY : Hid (LqB acY 118 n b e L W ba B2 72 (fun y => #[.string nm, .slice pp np cp, y]) (.cells #[.string ⟨#[]⟩, .slice none 0 0, .slice none 0 0] 72 (0, 0)) wX (.slice none 0 0) [] sX (w2.setCell ⟨b, 1, none⟩ (.int .i64 ((s8.i : Int) + 1))) ∧ (∀ rest s', Aft (sepL (isM [44]) actR) L e sX rest s' → Aft (sepL (isM [44]) actR) L e sY ([] ++ rest) s') ∧ ([] : List ActL).length ≤ sX.i) := Lib.hid ⟨HB2.out, fun rest s' h => by rw [hsY]; exact h, Nat.zero_le _⟩
        rw [← hsY] at HMo
        clear hs hr hx hsX hsY
        go_wp2_with fail
        go_loopw [65] (fun _ wr => ∃ v zs s, Hid (LqB acY 118 n b e L W ba B2 72 (fun y => #[.string nm, .slice pp np cp, y]) (.cells #[.string ⟨#[]⟩, .slice none 0 0, .slice none 0 0] 72 (0, 0)) wX v zs s wr ∧ (∀ rest s', Aft (sepL (isM [44]) actR) L e s rest s' → Aft (sepL (isM [44]) actR) L e sY (zs ++ rest) s') ∧ zs.length ≤ s.i)) (fun _ wr => L.length + 1 - atW wr b)
        case atStart => exact ⟨_, _, _, hJY⟩
        case round =>
          obtain ⟨v, zs, s, HJ⟩ := hrel
          obtain ⟨c1, f1, c3, hl⟩ := HJ.out.1.rd.inc
          cases hbad : s.bad with
          | true =>
            rw [hbad] at c3
            have HM := Lib.hid (And.intro HJ.out.1 (HMo.out zs s (by have h := HJ.out.2.1 [] s (Aft.stay HJ.out.1.rd.le hbad []); rwa [List.append_nil] at h)))
            clear hJY HJ hbad
            go_wp2_with fail
            refine (qmark_any HM.out.1.rd [46] rfl).mono ?_
            rintro y w8 ⟨ht, u9, s9, v9, ha, rfl, rfl, hr⟩
            have HB9 := Lib.hid (HM.out.1.turn ht hr)
            have HA9 := Lib.hid ha
            obtain ⟨⟨x0, x1, x2⟩, xf0, xf1, xf2⟩ := cellsQ3 HB9.out.box
            obtain ⟨⟨y0, y1, y2⟩, yf0, yf1, yf2⟩ := cellsQ3 HB9.out.res
            obtain ⟨pw, nw, cw, rfl⟩ : ∃ p n c, v = .slice p n c := (by obtain ⟨p, c, h, -⟩ := HM.out.1.own.in_; exact ⟨p, _, c, h⟩)
            clear ht ha hr
            go_wp2_with fail
            refine bodyPost_ret (results_cell_row (fn := Tryz.f26) (by rfl) _ _ _ _ _ _ _ (by rfl) (rowQ3_set HB9.out.res) Tryz.underlying72 (by rfl) (by kernel_rfl)) (by rfl) ?_
            obtain rfl := HPn.out
            have hlo := HB9.out.lo
            have hloB := HB9.out.loB
            refine ⟨Only.turned (((HB9.out.only.set (Nat.le_refl _) _ _).set (Nat.le_refl _) _ _).set (Nat.le_refl _) _ _), ⟨nl, ps, zs⟩, s9, _, HP.out _ _ _ _ () (HPs.out.2) (HM.out.2.bind (HA9.out.map fun _ => zs)), rfl, ⟨_, _, rfl, ?_, ?_⟩, ((HB9.out.rd.set HB9.out.nW _ _).set HB9.out.nW _ _).set HB9.out.nW _ _⟩
            · exact HPs.out.1.keep (by have h1 := HB9.out.hi; have h2 := HXs.out; simp; omega) fun k ek hk => ⟨by have h3 : ba + 1 ≤ k := ek; omega, (setQ3_off (by have h3 : ba + 1 ≤ k := ek; omega)).trans (HB9.out.mid k (by have h3 : ba + 1 ≤ k := ek; omega) (by have h2 := HXs.out; omega) (by have h3 : ba + 1 ≤ k := ek; omega))⟩
            · exact HB9.out.own.in_.keep (by simp) fun k ek _ => ⟨by omega, setQ3_off (by omega)⟩
          | false =>
            rw [hbad] at c3
            obtain ⟨pv, cv, rfl⟩ : ∃ p c, v = .slice p zs.length c := (by obtain ⟨p, c, h, -⟩ := HJ.out.1.own.in_; exact ⟨p, c, h⟩)
            have HS0 := Lib.hid (show wr.drew.cell? ⟨ba, 2, none⟩ = some (.slice pv zs.length cv) from cell_of_row wr ba 2 _ _ (0, 0) HJ.out.1.box)
            have HBd := Lib.hid hbad
            clear hJY hbad
            go_wp2_with fail
            refine Till.begin (S := fun X => X.cell? ⟨ba, 2, none⟩ = some (.slice pv zs.length cv)) (z := 5) (by kernel_rfl) ?_
            refine Till.takeY 0 70 (v := ?_) rfl rfl (by kernel_rfl) (by kernel_rfl) (by kernel_rfl) (by decide) (fun _ _ _ h => h) (by kernel_rfl) ?_ (fun _ => HS0.out) (by first | (simp only [put_norm]; exact rfl) | exact rfl) ?_
            rotate_left
            · rintro X0 -
              go_simp; try (with_reducible rfl)
            refine Till.takeY 2 72 (v := ?_) rfl rfl (by kernel_rfl) (by kernel_rfl) (by kernel_rfl) (by decide) (fun _ _ _ h => h) (by kernel_rfl) ?_ (fun _ => HS0.out) (by first | (simp only [put_norm]; exact rfl) | exact rfl) ?_
            rotate_left
            · rintro X0 -
              go_simp; try (with_reducible rfl)
            refine Till.take [5] 1 71 (v := ?_) rfl rfl (by kernel_rfl) (by kernel_rfl) (by kernel_rfl) (by kernel_rfl) (fun _ _ _ h => h) (by kernel_rfl) ?_ HS0.out (by first | (simp only [put_norm]; exact rfl) | exact rfl) ?_
            rotate_left
            · rintro X0 s0
              go_simp; try (with_reducible rfl)
            refine Till.one 3 (by kernel_rfl) rfl (fun K hK => ?_)
            go_simp
            go_at_call 56
            refine (qact_any HJ.out.1.rd.drew).mono ?_
            rintro y w3 ⟨ht, a, s1, va, ha, rfl, ⟨ua, rfl, hua⟩, hr⟩
            obtain ⟨pa, ca, rfl⟩ := RowIn.shapeQ hua
            have HB3 := Lib.hid (HJ.out.1.drew.turn ht hr)
            have HA := Lib.hid ha
            have HU := Lib.hid hua
            have HS3 := Lib.hid (show w3.cell? ⟨ba, 2, none⟩ = some (.slice pv zs.length cv) from cell_of_row w3 ba 2 _ _ (0, 0) HB3.out.box)
            clear ht ha hr hua
            go_simp
            refine hK.out _ _ (fun _ => HS3.out) ?_
            clear hK K
            try simp only [put_norm]
            refine Till.one 4 (by kernel_rfl) rfl (fun K hK => ?_)
            go_simp
            have hz3 : ba < w3.heap.size := HB3.out.hib
            have HS4 := Lib.hid (show (w3.alloc (.cells #[.bool a.plus, .string ⟨a.atom.pred.toArray⟩, .slice pa a.atom.args.length ca] 118)).cell? ⟨ba, 2, none⟩ = some (.slice pv zs.length cv) from (World.cell?_of_block (a := ⟨ba, 2, none⟩) (Below.heap_alloc _ _ _ hz3)).trans HS3.out)
            have HL3 : Hid (RowOwn acY 118 B2 (w3.alloc (.cells #[.bool a.plus, .string ⟨a.atom.pred.toArray⟩, .slice pa a.atom.args.length ca] 118)) (.slice pv zs.length cv) zs ∧ acY.is (fun k => B2 ≤ k ∧ (Value.slice pv zs.length cv).ownBlock ≠ some k) (w3.alloc (.cells #[.bool a.plus, .string ⟨a.atom.pred.toArray⟩, .slice pa a.atom.args.length ca] 118)) [.bool a.plus, .string ⟨a.atom.pred.toArray⟩, .slice pa a.atom.args.length ca] a ∧ zs.length ≤ 1000000 ∧ B2 ≤ (w3.alloc (.cells #[.bool a.plus, .string ⟨a.atom.pred.toArray⟩, .slice pa a.atom.args.length ca] 118)).heap.size) := Lib.hid ⟨HB3.out.lit _, ⟨_, rfl, HU.out.keep (by simp) fun k ek hk => ⟨⟨Nat.le_trans HJ.out.1.hi ek, fun e2 => by have := (HJ.out.1.own.lt k e2).2; have h3 : wr.heap.size ≤ k := ek; omega⟩, Below.heap_alloc _ _ _ hk⟩⟩, by have := HJ.out.2.2; have := HJ.out.1.rd.le; have := HJ.out.1.rd.len; omega, by have := HB3.out.hi; simp; omega⟩
            refine hK.out _ _ (fun _ => HS4.out) ?_
            clear hK K
            try simp only [put_norm]
            refine Till.one 5 (by kernel_rfl) rfl (fun K hK => ?_)
            refine step_appY acY rfl (.tmp 71) (.tmp 74) 70 118 rfl (B2) (.agg #[.bool false, .string ⟨#[]⟩, .slice none 0 0]) 48 Tryz.underlying70 Tryz.infoAc rfl (by decide) (by decide) _ zs a [.bool a.plus, .string ⟨a.atom.pred.toArray⟩, .slice pa a.atom.args.length ca] w3.heap.size 1 rfl rfl HL3.out.1 HL3.out.2.1 (lit_rowcells w3 [.bool a.plus, .string ⟨a.atom.pred.toArray⟩, .slice pa a.atom.args.length ca] _) HL3.out.2.2.1 HL3.out.2.2.2 ?_
            intro v4 w4 ho hg hv4
            obtain ⟨p4, n4, c4, rfl⟩ : ∃ p n c, v4 = .slice p n c := (by obtain ⟨p, c, h, -⟩ := ho.in_; exact ⟨p, _, c, h⟩)
            have HN := Lib.hid (HB3.out.app (idx := 2) ho hg rfl)
            obtain ⟨⟨x0, x1, x2⟩, xf0, xf1, xf2⟩ := cellsQ3 HN.out.2
            clear ho hg hv4
            refine hK.out _ _ (fun h => nomatch (show (true : Bool) = false from h)) ?_
            clear hK K
            try simp only [put_norm]
            refine Till.takeY 6 76 (v := ?_) rfl rfl (by kernel_rfl) (by kernel_rfl) (by kernel_rfl) (by decide) (fun _ _ _ h => h) (by kernel_rfl) ?_ (fun h => nomatch (show (true : Bool) = false from h)) (by first | (simp only [put_norm]; exact rfl) | exact rfl) ?_
            rotate_left
            · rintro X0 -
              go_simp; try (with_reducible rfl)
            refine Till.one 7 (by kernel_rfl) rfl (fun K hK => ?_)
            go_simp
            refine hK.out _ _ (fun h => nomatch (show (true : Bool) = false from h)) ?_
            clear hK K
            try simp only [put_norm]
            refine Till.done (by kernel_rfl) ?_ _
            go_wp2_with fail
            refine (qnext_any HN.out.1.rd 6 [44]).mono ?_
            rw [isKT_m (m := [44]) rfl]
            rintro y w6 ⟨⟨hx, rfl⟩ | ⟨hx, rfl⟩, hs, hr⟩
            · have hi := nxB.lt hx
              have HB6 := Lib.hid ((HN.out.1.still hs).inc hi)
              obtain ⟨d1, g1, d3, hl1⟩ := hr.inc
              have HXx := Lib.hid hx
              clear hs hr hx x0 x1 x2 xf0 xf1 xf2
              go_wp2_with fail
              go_roundw
              case rel =>
                refine ⟨_, zs ++ [a], { s1 with i := s1.i + 1 }, Lib.hid ⟨HB6.out, fun rest s' h => ?_, ?_⟩⟩
                · rw [List.append_assoc]
                  exact HJ.out.2.1 _ _ (Aft.sep_next HEac.out HA.out HBd.out HXx.out h)
                · have := HJ.out.2.2
                  have := HA.out.up
                  simp
                  omega
              case measure =>
                rw [HB6.out.rd.atW, HJ.out.1.rd.atW]
                have := HA.out.up
                show L.length + 1 - (s1.i + 1) < L.length + 1 - s.i
                omega
            · have HM := Lib.hid (And.intro (HN.out.1.still hs) (HMo.out (zs ++ [a]) s1 (HJ.out.2.1 [a] s1 (Aft.sep_last HEac.out HA.out HBd.out hx))))
              clear hs hr hx x0 x1 x2 xf0 xf1 xf2 HJ HB3 HA HU
              go_wp2_with fail
              refine (qmark_any HM.out.1.rd [46] rfl).mono ?_
              rintro y w8 ⟨ht, u9, s9, v9, ha, rfl, rfl, hr⟩
              have HB9 := Lib.hid (HM.out.1.turn ht hr)
              have HA9 := Lib.hid ha
              obtain ⟨⟨x0, x1, x2⟩, xf0, xf1, xf2⟩ := cellsQ3 HB9.out.box
              obtain ⟨⟨y0, y1, y2⟩, yf0, yf1, yf2⟩ := cellsQ3 HB9.out.res
              clear ht ha hr
              go_wp2_with fail
              refine bodyPost_ret (results_cell_row (fn := Tryz.f26) (by rfl) _ _ _ _ _ _ _ (by rfl) (rowQ3_set HB9.out.res) Tryz.underlying72 (by rfl) (by kernel_rfl)) (by rfl) ?_
              obtain rfl := HPn.out
              have hlo := HB9.out.lo
              have hloB := HB9.out.loB
              refine ⟨Only.turned (((HB9.out.only.set (Nat.le_refl _) _ _).set (Nat.le_refl _) _ _).set (Nat.le_refl _) _ _), ⟨nl, ps, (zs ++ [a])⟩, s9, _, HP.out _ _ _ _ () (HPs.out.2) (HM.out.2.bind (HA9.out.map fun _ => (zs ++ [a]))), rfl, ⟨_, _, rfl, ?_, ?_⟩, ((HB9.out.rd.set HB9.out.nW _ _).set HB9.out.nW _ _).set HB9.out.nW _ _⟩
              · exact HPs.out.1.keep (by have h1 := HB9.out.hi; have h2 := HXs.out; simp; omega) fun k ek hk => ⟨by have h3 : ba + 1 ≤ k := ek; omega, (setQ3_off (by have h3 : ba + 1 ≤ k := ek; omega)).trans (HB9.out.mid k (by have h3 : ba + 1 ≤ k := ek; omega) (by have h2 := HXs.out; omega) (by have h3 : ba + 1 ≤ k := ek; omega))⟩
              · exact HB9.out.own.in_.keep (by simp) fun k ek _ => ⟨by omega, setQ3_off (by omega)⟩
      · have HM := Lib.hid (And.intro (HBX.out.still hs) (show Aft (moreR [58] actR) L e s8 [] s8 from Aft.alt_no (Aft.pure HBX.out.rd.le ([] : List ActL)) hx))
        clear hs hr hx
        go_wp2_with fail
        refine (qmark_any HM.out.1.rd [46] rfl).mono ?_
        rintro y w8 ⟨ht, u9, s9, v9, ha, rfl, rfl, hr⟩
        have HB9 := Lib.hid (HM.out.1.turn ht hr)
        have HA9 := Lib.hid ha
        obtain ⟨⟨x0, x1, x2⟩, xf0, xf1, xf2⟩ := cellsQ3 HB9.out.box
        obtain ⟨⟨y0, y1, y2⟩, yf0, yf1, yf2⟩ := cellsQ3 HB9.out.res
        clear ht ha hr
        go_wp2_with fail
        refine bodyPost_ret (results_cell_row (fn := Tryz.f26) (by rfl) _ _ _ _ _ _ _ (by rfl) (rowQ3_set HB9.out.res) Tryz.underlying72 (by rfl) (by kernel_rfl)) (by rfl) ?_
        obtain rfl := HPn.out
        have hlo := HB9.out.lo
        have hloB := HB9.out.loB
        refine ⟨Only.turned (((HB9.out.only.set (Nat.le_refl _) _ _).set (Nat.le_refl _) _ _).set (Nat.le_refl _) _ _), ⟨nl, ps, ([] : List ActL)⟩, s9, _, HP.out _ _ _ _ () (HPs.out.2) (HM.out.2.bind (HA9.out.map fun _ => ([] : List ActL))), rfl, ⟨_, _, rfl, ?_, ?_⟩, ((HB9.out.rd.set HB9.out.nW _ _).set HB9.out.nW _ _).set HB9.out.nW _ _⟩
        · exact HPs.out.1.keep (by have h1 := HB9.out.hi; have h2 := HXs.out; simp; omega) fun k ek hk => ⟨by have h3 : ba + 1 ≤ k := ek; omega, (setQ3_off (by have h3 : ba + 1 ≤ k := ek; omega)).trans (HB9.out.mid k (by have h3 : ba + 1 ≤ k := ek; omega) (by have h2 := HXs.out; omega) (by have h3 : ba + 1 ≤ k := ek; omega))⟩
        · exact HB9.out.own.in_.keep (by simp) fun k ek _ => ⟨by omega, setQ3_off (by omega)⟩

    | false =>
      rw [hbad] at c3
      have HBd := Lib.hid hbad
      clear hJ0 hbad
      go_wp2_with fail
      refine (qnext_any HJ.out.1.rd 6 [41]).mono ?_
      rw [isKT_m (m := [41]) rfl]
      rintro y w6 ⟨⟨hx, rfl⟩ | ⟨hx, rfl⟩, hs, hr⟩
      · have HM := Lib.hid (And.intro (HJ.out.1.still hs) (show Aft (altR (isM [41]) (pureR []) (sepL (isM [44]) paramR)) L e s0 zs s by
          rcases HJ.out.2.2.2 with ⟨h1, h2⟩ | ⟨-, h2⟩
          · subst h1
            rw [← h2]
            exact Aft.alt_yes (Aft.pure HJ.out.1.rd.le _) hx
          · rw [hx] at h2; cases h2))
        clear HJ hs hr hx
        obtain ⟨pp, np, cp, rfl⟩ : ∃ p n c, v = .slice p n c := (by obtain ⟨p, c, h, -⟩ := HM.out.1.own.in_; exact ⟨p, _, c, h⟩)

        go_wp2_with fail
        obtain ⟨ps, hps⟩ : ∃ ps, ps = zs := ⟨_, rfl⟩
        rw [← hps] at HM
        clear hps
        refine (qmark_any HM.out.1.rd [41] rfl).mono ?_
        rintro y wX ⟨ht, u8, s8, v8, ha, rfl, rfl, hr⟩
        have HB8 := Lib.hid (HM.out.1.turn ht hr)
        have HPs : Hid (RowIn paY (fun k => ba + 1 ≤ k) wX (.slice pp np cp) ps ∧ Aft (rowR paramR) L e s0 ps s8) := Lib.hid ⟨HB8.out.own.in_, HM.out.2.bind (ha.map fun _ => ps)⟩
        obtain ⟨B2, hB2⟩ : ∃ B2, B2 = wX.heap.size := ⟨_, rfl⟩
        have HXs := Lib.hid hB2
        have HBX : Hid (LqB acY 118 n b e L W ba B2 72 (fun y => #[.string nm, .slice pp np cp, y]) (.cells #[.string ⟨#[]⟩, .slice none 0 0, .slice none 0 0] 72 (0, 0)) wX (.slice none 0 0) [] s8 wX) := Lib.hid (by rw [hB2]; exact HB8.out.next rfl)
        clear ht ha hr hB2 HM
        go_wp2_with fail
        refine (qnext_any HBX.out.rd 6 [58]).mono ?_
        rw [isKT_m (m := [58]) rfl]
        rintro y w2 ⟨⟨hx, rfl⟩ | ⟨hx, rfl⟩, hs, hr⟩
        · obtain ⟨c1, f1, -, hl⟩ := hr.inc
          have hi := nxB.lt hx
          obtain ⟨sX, hsX⟩ : ∃ sX : Qs, sX = { s8 with i := s8.i + 1 } := ⟨_, rfl⟩
          have HB2 : Hid (LqB acY 118 n b e L W ba B2 72 (fun y => #[.string nm, .slice pp np cp, y]) (.cells #[.string ⟨#[]⟩, .slice none 0 0, .slice none 0 0] 72 (0, 0)) wX (.slice none 0 0) [] sX (w2.setCell ⟨b, 1, none⟩ (.int .i64 ((s8.i : Int) + 1)))) := Lib.hid (by rw [hsX]; exact (HBX.out.still hs).inc hi)
          have HMo : Hid (∀ zs s', Aft (sepL (isM [44]) actR) L e sX zs s' → Aft (moreR [58] actR) L e s8 zs s') := Lib.hid (fun zs s' h => Aft.alt_yes ((Aft.step (e := e) hx hi).bind (by rw [← hsX]; exact h)) hx)
          obtain ⟨sY, hsY⟩ : ∃ sY, sY = sX := ⟨_, rfl⟩
          have hJY : Hid (LqB acY 118 n b e L W ba B2 72 (fun y => #[.string nm, .slice pp np cp, y]) (.cells #[.string ⟨#[]⟩, .slice none 0 0, .slice none 0 0] 72 (0, 0)) wX (.slice none 0 0) [] sX (w2.setCell ⟨b, 1, none⟩ (.int .i64 ((s8.i : Int) + 1))) ∧ (∀ rest s', Aft (sepL (isM [44]) actR) L e sX rest s' → Aft (sepL (isM [44]) actR) L e sY ([] ++ rest) s') ∧ ([] : List ActL).length ≤ sX.i) := Lib.hid ⟨HB2.out, fun rest s' h => by rw [hsY]; exact h, Nat.zero_le _⟩
          rw [← hsY] at HMo
          clear hs hr hx hsX hsY
          go_wp2_with fail
          go_loopw [65] (fun _ wr => ∃ v zs s, Hid (LqB acY 118 n b e L W ba B2 72 (fun y => #[.string nm, .slice pp np cp, y]) (.cells #[.string ⟨#[]⟩, .slice none 0 0, .slice none 0 0] 72 (0, 0)) wX v zs s wr ∧ (∀ rest s', Aft (sepL (isM [44]) actR) L e s rest s' → Aft (sepL (isM [44]) actR) L e sY (zs ++ rest) s') ∧ zs.length ≤ s.i)) (fun _ wr => L.length + 1 - atW wr b)
          case atStart => exact ⟨_, _, _, hJY⟩
          case round =>
            obtain ⟨v, zs, s, HJ⟩ := hrel
            obtain ⟨c1, f1, c3, hl⟩ := HJ.out.1.rd.inc
            cases hbad : s.bad with
            | true =>
              rw [hbad] at c3
              have HM := Lib.hid (And.intro HJ.out.1 (HMo.out zs s (by have h := HJ.out.2.1 [] s (Aft.stay HJ.out.1.rd.le hbad []); rwa [List.append_nil] at h)))
              clear hJY HJ hbad
              go_wp2_with fail
              refine (qmark_any HM.out.1.rd [46] rfl).mono ?_
              rintro y w8 ⟨ht, u9, s9, v9, ha, rfl, rfl, hr⟩
              have HB9 := Lib.hid (HM.out.1.turn ht hr)
              have HA9 := Lib.hid ha
              obtain ⟨⟨x0, x1, x2⟩, xf0, xf1, xf2⟩ := cellsQ3 HB9.out.box
              obtain ⟨⟨y0, y1, y2⟩, yf0, yf1, yf2⟩ := cellsQ3 HB9.out.res
              obtain ⟨pw, nw, cw, rfl⟩ : ∃ p n c, v = .slice p n c := (by obtain ⟨p, c, h, -⟩ := HM.out.1.own.in_; exact ⟨p, _, c, h⟩)
              clear ht ha hr
              go_wp2_with fail
              refine bodyPost_ret (results_cell_row (fn := Tryz.f26) (by rfl) _ _ _ _ _ _ _ (by rfl) (rowQ3_set HB9.out.res) Tryz.underlying72 (by rfl) (by kernel_rfl)) (by rfl) ?_
              obtain rfl := HPn.out
              have hlo := HB9.out.lo
              have hloB := HB9.out.loB
              refine ⟨Only.turned (((HB9.out.only.set (Nat.le_refl _) _ _).set (Nat.le_refl _) _ _).set (Nat.le_refl _) _ _), ⟨nl, ps, zs⟩, s9, _, HP.out _ _ _ _ () (HPs.out.2) (HM.out.2.bind (HA9.out.map fun _ => zs)), rfl, ⟨_, _, rfl, ?_, ?_⟩, ((HB9.out.rd.set HB9.out.nW _ _).set HB9.out.nW _ _).set HB9.out.nW _ _⟩
              · exact HPs.out.1.keep (by have h1 := HB9.out.hi; have h2 := HXs.out; simp; omega) fun k ek hk => ⟨by have h3 : ba + 1 ≤ k := ek; omega, (setQ3_off (by have h3 : ba + 1 ≤ k := ek; omega)).trans (HB9.out.mid k (by have h3 : ba + 1 ≤ k := ek; omega) (by have h2 := HXs.out; omega) (by have h3 : ba + 1 ≤ k := ek; omega))⟩
              · exact HB9.out.own.in_.keep (by simp) fun k ek _ => ⟨by omega, setQ3_off (by omega)⟩
            | false =>
              rw [hbad] at c3
              obtain ⟨pv, cv, rfl⟩ : ∃ p c, v = .slice p zs.length c := (by obtain ⟨p, c, h, -⟩ := HJ.out.1.own.in_; exact ⟨p, c, h⟩)
              have HS0 := Lib.hid (show wr.drew.cell? ⟨ba, 2, none⟩ = some (.slice pv zs.length cv) from cell_of_row wr ba 2 _ _ (0, 0) HJ.out.1.box)
              have HBd := Lib.hid hbad
              clear hJY hbad
              go_wp2_with fail
              refine Till.begin (S := fun X => X.cell? ⟨ba, 2, none⟩ = some (.slice pv zs.length cv)) (z := 5) (by kernel_rfl) ?_
              refine Till.takeY 0 70 (v := ?_) rfl rfl (by kernel_rfl) (by kernel_rfl) (by kernel_rfl) (by decide) (fun _ _ _ h => h) (by kernel_rfl) ?_ (fun _ => HS0.out) (by first | (simp only [put_norm]; exact rfl) | exact rfl) ?_
              rotate_left
              · rintro X0 -
                go_simp; try (with_reducible rfl)
              refine Till.takeY 2 72 (v := ?_) rfl rfl (by kernel_rfl) (by kernel_rfl) (by kernel_rfl) (by decide) (fun _ _ _ h => h) (by kernel_rfl) ?_ (fun _ => HS0.out) (by first | (simp only [put_norm]; exact rfl) | exact rfl) ?_
              rotate_left
              · rintro X0 -
                go_simp; try (with_reducible rfl)
              refine Till.take [5] 1 71 (v := ?_) rfl rfl (by kernel_rfl) (by kernel_rfl) (by kernel_rfl) (by kernel_rfl) (fun _ _ _ h => h) (by kernel_rfl) ?_ HS0.out (by first | (simp only [put_norm]; exact rfl) | exact rfl) ?_
              rotate_left
              · rintro X0 s0
                go_simp; try (with_reducible rfl)
              refine Till.one 3 (by kernel_rfl) rfl (fun K hK => ?_)
              go_simp
              go_at_call 56
              refine (qact_any HJ.out.1.rd.drew).mono ?_
              rintro y w3 ⟨ht, a, s1, va, ha, rfl, ⟨ua, rfl, hua⟩, hr⟩
              obtain ⟨pa, ca, rfl⟩ := RowIn.shapeQ hua
              have HB3 := Lib.hid (HJ.out.1.drew.turn ht hr)
              have HA := Lib.hid ha
              have HU := Lib.hid hua
              have HS3 := Lib.hid (show w3.cell? ⟨ba, 2, none⟩ = some (.slice pv zs.length cv) from cell_of_row w3 ba 2 _ _ (0, 0) HB3.out.box)
              clear ht ha hr hua
              go_simp
              refine hK.out _ _ (fun _ => HS3.out) ?_
              clear hK K
              try simp only [put_norm]
              refine Till.one 4 (by kernel_rfl) rfl (fun K hK => ?_)
              go_simp
              have hz3 : ba < w3.heap.size := HB3.out.hib
              have HS4 := Lib.hid (show (w3.alloc (.cells #[.bool a.plus, .string ⟨a.atom.pred.toArray⟩, .slice pa a.atom.args.length ca] 118)).cell? ⟨ba, 2, none⟩ = some (.slice pv zs.length cv) from (World.cell?_of_block (a := ⟨ba, 2, none⟩) (Below.heap_alloc _ _ _ hz3)).trans HS3.out)
              have HL3 : Hid (RowOwn acY 118 B2 (w3.alloc (.cells #[.bool a.plus, .string ⟨a.atom.pred.toArray⟩, .slice pa a.atom.args.length ca] 118)) (.slice pv zs.length cv) zs ∧ acY.is (fun k => B2 ≤ k ∧ (Value.slice pv zs.length cv).ownBlock ≠ some k) (w3.alloc (.cells #[.bool a.plus, .string ⟨a.atom.pred.toArray⟩, .slice pa a.atom.args.length ca] 118)) [.bool a.plus, .string ⟨a.atom.pred.toArray⟩, .slice pa a.atom.args.length ca] a ∧ zs.length ≤ 1000000 ∧ B2 ≤ (w3.alloc (.cells #[.bool a.plus, .string ⟨a.atom.pred.toArray⟩, .slice pa a.atom.args.length ca] 118)).heap.size) := Lib.hid ⟨HB3.out.lit _, ⟨_, rfl, HU.out.keep (by simp) fun k ek hk => ⟨⟨Nat.le_trans HJ.out.1.hi ek, fun e2 => by have := (HJ.out.1.own.lt k e2).2; have h3 : wr.heap.size ≤ k := ek; omega⟩, Below.heap_alloc _ _ _ hk⟩⟩, by have := HJ.out.2.2; have := HJ.out.1.rd.le; have := HJ.out.1.rd.len; omega, by have := HB3.out.hi; simp; omega⟩
              refine hK.out _ _ (fun _ => HS4.out) ?_
              clear hK K
              try simp only [put_norm]
              refine Till.one 5 (by kernel_rfl) rfl (fun K hK => ?_)
              refine step_appY acY rfl (.tmp 71) (.tmp 74) 70 118 rfl (B2) (.agg #[.bool false, .string ⟨#[]⟩, .slice none 0 0]) 48 Tryz.underlying70 Tryz.infoAc rfl (by decide) (by decide) _ zs a [.bool a.plus, .string ⟨a.atom.pred.toArray⟩, .slice pa a.atom.args.length ca] w3.heap.size 1 rfl rfl HL3.out.1 HL3.out.2.1 (lit_rowcells w3 [.bool a.plus, .string ⟨a.atom.pred.toArray⟩, .slice pa a.atom.args.length ca] _) HL3.out.2.2.1 HL3.out.2.2.2 ?_
              intro v4 w4 ho hg hv4
              obtain ⟨p4, n4, c4, rfl⟩ : ∃ p n c, v4 = .slice p n c := (by obtain ⟨p, c, h, -⟩ := ho.in_; exact ⟨p, _, c, h⟩)
              have HN := Lib.hid (HB3.out.app (idx := 2) ho hg rfl)
              obtain ⟨⟨x0, x1, x2⟩, xf0, xf1, xf2⟩ := cellsQ3 HN.out.2
              clear ho hg hv4
              refine hK.out _ _ (fun h => nomatch (show (true : Bool) = false from h)) ?_
              clear hK K
              try simp only [put_norm]
              refine Till.takeY 6 76 (v := ?_) rfl rfl (by kernel_rfl) (by kernel_rfl) (by kernel_rfl) (by decide) (fun _ _ _ h => h) (by kernel_rfl) ?_ (fun h => nomatch (show (true : Bool) = false from h)) (by first | (simp only [put_norm]; exact rfl) | exact rfl) ?_
              rotate_left
              · rintro X0 -
                go_simp; try (with_reducible rfl)
              refine Till.one 7 (by kernel_rfl) rfl (fun K hK => ?_)
              go_simp
              refine hK.out _ _ (fun h => nomatch (show (true : Bool) = false from h)) ?_
              clear hK K
              try simp only [put_norm]
              refine Till.done (by kernel_rfl) ?_ _
              go_wp2_with fail
              refine (qnext_any HN.out.1.rd 6 [44]).mono ?_
              rw [isKT_m (m := [44]) rfl]
              rintro y w6 ⟨⟨hx, rfl⟩ | ⟨hx, rfl⟩, hs, hr⟩
              · have hi := nxB.lt hx
                have HB6 := Lib.hid ((HN.out.1.still hs).inc hi)
                obtain ⟨d1, g1, d3, hl1⟩ := hr.inc
                have HXx := Lib.hid hx
                clear hs hr hx x0 x1 x2 xf0 xf1 xf2
                go_wp2_with fail
                go_roundw
                case rel =>
                  refine ⟨_, zs ++ [a], { s1 with i := s1.i + 1 }, Lib.hid ⟨HB6.out, fun rest s' h => ?_, ?_⟩⟩
                  · rw [List.append_assoc]
                    exact HJ.out.2.1 _ _ (Aft.sep_next HEac.out HA.out HBd.out HXx.out h)
                  · have := HJ.out.2.2
                    have := HA.out.up
                    simp
                    omega
                case measure =>
                  rw [HB6.out.rd.atW, HJ.out.1.rd.atW]
                  have := HA.out.up
                  show L.length + 1 - (s1.i + 1) < L.length + 1 - s.i
                  omega
              · have HM := Lib.hid (And.intro (HN.out.1.still hs) (HMo.out (zs ++ [a]) s1 (HJ.out.2.1 [a] s1 (Aft.sep_last HEac.out HA.out HBd.out hx))))
                clear hs hr hx x0 x1 x2 xf0 xf1 xf2 HJ HB3 HA HU
                go_wp2_with fail
                refine (qmark_any HM.out.1.rd [46] rfl).mono ?_
                rintro y w8 ⟨ht, u9, s9, v9, ha, rfl, rfl, hr⟩
                have HB9 := Lib.hid (HM.out.1.turn ht hr)
                have HA9 := Lib.hid ha
                obtain ⟨⟨x0, x1, x2⟩, xf0, xf1, xf2⟩ := cellsQ3 HB9.out.box
                obtain ⟨⟨y0, y1, y2⟩, yf0, yf1, yf2⟩ := cellsQ3 HB9.out.res
                clear ht ha hr
                go_wp2_with fail
                refine bodyPost_ret (results_cell_row (fn := Tryz.f26) (by rfl) _ _ _ _ _ _ _ (by rfl) (rowQ3_set HB9.out.res) Tryz.underlying72 (by rfl) (by kernel_rfl)) (by rfl) ?_
                obtain rfl := HPn.out
                have hlo := HB9.out.lo
                have hloB := HB9.out.loB
                refine ⟨Only.turned (((HB9.out.only.set (Nat.le_refl _) _ _).set (Nat.le_refl _) _ _).set (Nat.le_refl _) _ _), ⟨nl, ps, (zs ++ [a])⟩, s9, _, HP.out _ _ _ _ () (HPs.out.2) (HM.out.2.bind (HA9.out.map fun _ => (zs ++ [a]))), rfl, ⟨_, _, rfl, ?_, ?_⟩, ((HB9.out.rd.set HB9.out.nW _ _).set HB9.out.nW _ _).set HB9.out.nW _ _⟩
                · exact HPs.out.1.keep (by have h1 := HB9.out.hi; have h2 := HXs.out; simp; omega) fun k ek hk => ⟨by have h3 : ba + 1 ≤ k := ek; omega, (setQ3_off (by have h3 : ba + 1 ≤ k := ek; omega)).trans (HB9.out.mid k (by have h3 : ba + 1 ≤ k := ek; omega) (by have h2 := HXs.out; omega) (by have h3 : ba + 1 ≤ k := ek; omega))⟩
                · exact HB9.out.own.in_.keep (by simp) fun k ek _ => ⟨by omega, setQ3_off (by omega)⟩
        · have HM := Lib.hid (And.intro (HBX.out.still hs) (show Aft (moreR [58] actR) L e s8 [] s8 from Aft.alt_no (Aft.pure HBX.out.rd.le ([] : List ActL)) hx))
          clear hs hr hx
          go_wp2_with fail
          refine (qmark_any HM.out.1.rd [46] rfl).mono ?_
          rintro y w8 ⟨ht, u9, s9, v9, ha, rfl, rfl, hr⟩
          have HB9 := Lib.hid (HM.out.1.turn ht hr)
          have HA9 := Lib.hid ha
          obtain ⟨⟨x0, x1, x2⟩, xf0, xf1, xf2⟩ := cellsQ3 HB9.out.box
          obtain ⟨⟨y0, y1, y2⟩, yf0, yf1, yf2⟩ := cellsQ3 HB9.out.res
          clear ht ha hr
          go_wp2_with fail
          refine bodyPost_ret (results_cell_row (fn := Tryz.f26) (by rfl) _ _ _ _ _ _ _ (by rfl) (rowQ3_set HB9.out.res) Tryz.underlying72 (by rfl) (by kernel_rfl)) (by rfl) ?_
          obtain rfl := HPn.out
          have hlo := HB9.out.lo
          have hloB := HB9.out.loB
          refine ⟨Only.turned (((HB9.out.only.set (Nat.le_refl _) _ _).set (Nat.le_refl _) _ _).set (Nat.le_refl _) _ _), ⟨nl, ps, ([] : List ActL)⟩, s9, _, HP.out _ _ _ _ () (HPs.out.2) (HM.out.2.bind (HA9.out.map fun _ => ([] : List ActL))), rfl, ⟨_, _, rfl, ?_, ?_⟩, ((HB9.out.rd.set HB9.out.nW _ _).set HB9.out.nW _ _).set HB9.out.nW _ _⟩
          · exact HPs.out.1.keep (by have h1 := HB9.out.hi; have h2 := HXs.out; simp; omega) fun k ek hk => ⟨by have h3 : ba + 1 ≤ k := ek; omega, (setQ3_off (by have h3 : ba + 1 ≤ k := ek; omega)).trans (HB9.out.mid k (by have h3 : ba + 1 ≤ k := ek; omega) (by have h2 := HXs.out; omega) (by have h3 : ba + 1 ≤ k := ek; omega))⟩
          · exact HB9.out.own.in_.keep (by simp) fun k ek _ => ⟨by omega, setQ3_off (by omega)⟩

      · have HB0 := Lib.hid (HJ.out.1.still hs)
        have HX := Lib.hid hx
        have HF : Hid (nxB s0 L (isM [41]) = false) := Lib.hid (by
          rcases HJ.out.2.2.2 with ⟨-, h2⟩ | ⟨h2, -⟩
          · rw [← h2]; exact hx
          · exact h2)
        obtain ⟨pv, cv, rfl⟩ : ∃ p c, v = .slice p zs.length c := (by obtain ⟨p, c, h, -⟩ := HB0.out.own.in_; exact ⟨p, c, h⟩)
        clear hs hr hx c1 f1 c3
        go_wp2_with fail
        refine (qtake_any HB0.out.rd 2 []).mono ?_
        rw [isKT_k 2]
        rintro y w7 ⟨ht, t, sV, v7, ha, rfl, ⟨p7, rfl⟩, hr⟩
        have HAv := Lib.hid ha
        have HOw : Hid (∀ k, (Value.slice pv zs.length cv).ownBlock = some k → k < w7.heap.size) := Lib.hid (fun k e => Nat.lt_of_lt_of_le (HB0.out.own.lt k e).2 ht.size)
        have HB7 := Lib.hid (HB0.out.turn ht hr)
        obtain ⟨bp, hbp⟩ : ∃ bp, bp = w7.heap.size := ⟨_, rfl⟩
        have HBp := Lib.hid hbp
        unfold wordV
        clear ht ha hr
        go_wp2_with fail
        refine (qkind_any (HB7.out.alloc (.cells #[.string ⟨t.2.1.toArray⟩, .int .i64 0] 116)).rd).mono ?_
        rintro y w8 ⟨ht, kd, sK, v8, ha, rfl, rfl, hr⟩
        have hbpn : bp ≠ b := by have := HB7.out.hib; have := HB7.out.lt; have := HB7.out.lo; omega
        have hq : w8.heap[bp]? = some (.cells #[.string ⟨t.2.1.toArray⟩, .int .i64 0] 116 (0, 0)) := (ht.block bp (by rw [hbp]; simp) hbpn).trans (by rw [hbp]; exact heap_alloc_new w7 _)
        obtain ⟨⟨q0, q1⟩, qf0, qf1⟩ := cells2 hq
        have HB8 := Lib.hid ((HB7.out.alloc (.cells #[.string ⟨t.2.1.toArray⟩, .int .i64 0] 116)).turn ht hr)
        have HA : Hid (Aft paramR L e s (t.2.1, kd) sK) := Lib.hid (HAv.out.bind (ha.map fun k => ((t.2.1, k) : List UInt8 × Int)))
        have HBk : Hid (LqB paY 116 n b e L W ba (ba + 1) 72 (fun y => #[.string nm, y, .slice none 0 0]) (.cells #[.string ⟨#[]⟩, .slice none 0 0, .slice none 0 0] 72 (0, 0)) w1 (.slice pv zs.length cv) zs sK (w8.setCell ⟨bp, 1, none⟩ (.int .i64 kd))) := Lib.hid (HB8.out.other (by have := HB7.out.hi; omega) (fun e2 => by have := HOw.out bp e2; omega) 1 _)
        have HL3 : Hid (RowOwn paY 116 (ba + 1) ((w8.setCell ⟨bp, 1, none⟩ (.int .i64 kd)).alloc (.cells #[.string ⟨t.2.1.toArray⟩, .int .i64 kd] 116)) (.slice pv zs.length cv) zs ∧ zs.length ≤ 1000000 ∧ ba + 1 ≤ ((w8.setCell ⟨bp, 1, none⟩ (.int .i64 kd)).alloc (.cells #[.string ⟨t.2.1.toArray⟩, .int .i64 kd] 116)).heap.size) := Lib.hid ⟨HBk.out.lit _, by have := HJ.out.2.2.1; have := HJ.out.1.rd.le; have := HJ.out.1.rd.len; omega, by have := HBk.out.hi; simp at this ⊢; omega⟩
        have hHL1 := HL3.out.1
        have hHL2 := HL3.out.2.1
        have hHL3 := HL3.out.2.2
        obtain ⟨⟨x0, x1, x2⟩, xf0, xf1, xf2⟩ := cellsQ3 HB8.out.box
        have hbab : ¬ ba = bp := by have := HB7.out.hib; omega
        have hbab2 : ¬ bp = ba := Ne.symm hbab
        have hszb : bp < w8.heap.size := (Array.getElem?_eq_some_iff.1 hq).1
        have hszba : ba < w8.heap.size := HB8.out.hib
        rw [← hbp]
        clear ht ha hr hbp hq
        go_wp2_with (at_builtin; refine wpList_appY paY rfl (.tmp 35) (.tmp 37) 69 116 rfl (ba + 1) (.agg #[.string ⟨#[]⟩, .int .i64 0]) 24 Tryz.underlying69 Tryz.infoPa rfl (by decide) (by decide) (.slice pv zs.length cv) zs (t.2.1, kd) [.string ⟨t.2.1.toArray⟩, .int .i64 kd] w8.heap.size 1 rfl (by first | rfl | simp) hHL1 rfl (by have h := lit_rowcells (w8.setCell ⟨bp, 1, none⟩ (.int .i64 kd)) [.string ⟨t.2.1.toArray⟩, .int .i64 kd] 116; rwa [World.size_setCell] at h) hHL2 hHL3 ?_; intro v4 w4 ho hg hv4; obtain ⟨p4, n4, c4, rfl⟩ : ∃ p n c, v4 = .slice p n c := (by obtain ⟨p, c, h, -⟩ := ho.in_; exact ⟨p, _, c, h⟩); have HN := Lib.hid (HBk.out.app (idx := 1) ho hg rfl); obtain ⟨⟨z0, z1, z2⟩, zf0, zf1, zf2⟩ := cellsQ3 HN.out.2; clear ho hg hv4)
        refine (qnext_any HN.out.1.rd 6 [44]).mono ?_
        rw [isKT_m (m := [44]) rfl]
        rintro y w9 ⟨⟨hx, rfl⟩ | ⟨hx, rfl⟩, hs, hr⟩
        · have hi := nxB.lt hx
          have HB6 := Lib.hid ((HN.out.1.still hs).inc hi)
          obtain ⟨d1, g1, d3, hl1⟩ := hr.inc
          have HNe : Hid (∀ rest s', Aft (sepL (isM [44]) paramR) L e { sK with i := sK.i + 1 } rest s' → Aft (sepL (isM [44]) paramR) L e s0 (zs ++ [(t.2.1, kd)] ++ rest) s') := Lib.hid (fun rest s' h => by
            rw [List.append_assoc]
            exact HJ.out.2.1 _ _ (Aft.sep_next HEat.out HA.out HBd.out hx h))
          have HLe := Lib.hid (show (zs ++ [(t.2.1, kd)]).length ≤ sK.i + 1 by have := HJ.out.2.2.1; have := HA.out.up; simp; omega)
          clear hs hr hx x0 x1 x2 xf0 xf1 xf2 z0 z1 z2 zf0 zf1 zf2 q0 q1 qf0 qf1
          go_wp2_with fail
          refine (qnext_any HB6.out.rd 6 [41]).mono ?_
          rw [isKT_m (m := [41]) rfl]
          rintro y w8 ⟨⟨hx, rfl⟩ | ⟨hx, rfl⟩, hs, hr⟩
          · have HX8 := Lib.hid hx
            have HB8 := Lib.hid (HB6.out.still hs)
            clear hs hr hx
            go_wp2_with fail
            refine (qfault_any HB8.out.rd).mono ?_
            rintro y w9 ⟨rfl, ht, hr⟩
            have HB9 := Lib.hid (HB8.out.turn ht hr)
            clear ht hr
            go_wp2_with fail
            go_roundw
            case rel =>
              refine ⟨_, zs ++ [(t.2.1, kd)], _, Lib.hid ⟨HB9.out, fun rest s' h => HNe.out _ _ (Aft.trail HEat.out HB8.out.rd.le (param_close (nxB.yes HX8.out).2) h), by rw [Qs.fault_i]; exact HLe.out, .inr ⟨HF.out, nxB.bad (Qs.fault_bad _ _ _)⟩⟩⟩
            case measure =>
              rw [HB9.out.rd.atW, HJ.out.1.rd.atW, Qs.fault_i]
              have := HA.out.up
              show L.length + 1 - (sK.i + 1) < L.length + 1 - s.i
              omega
          · have HX8 := Lib.hid hx
            have HB8 := Lib.hid (HB6.out.still hs)
            clear hs hr hx
            go_wp2_with fail
            go_roundw
            case rel =>
              exact ⟨_, zs ++ [(t.2.1, kd)], _, Lib.hid ⟨HB8.out, HNe.out, HLe.out, .inr ⟨HF.out, HX8.out⟩⟩⟩
            case measure =>
              rw [HB8.out.rd.atW, HJ.out.1.rd.atW]
              have := HA.out.up
              show L.length + 1 - (sK.i + 1) < L.length + 1 - s.i
              omega
        · have HM := Lib.hid (And.intro (HN.out.1.still hs) (show Aft (altR (isM [41]) (pureR []) (sepL (isM [44]) paramR)) L e s0 (zs ++ [(t.2.1, kd)]) sK from Aft.alt_no (HJ.out.2.1 [(t.2.1, kd)] sK (Aft.sep_last HEat.out HA.out HBd.out hx)) HF.out))
          obtain ⟨pp, np, cp, hpp⟩ : ∃ p n c, p = p4 ∧ n = n4 ∧ c = c4 := ⟨_, _, _, rfl, rfl, rfl⟩
          rw [← hpp.1, ← hpp.2.1, ← hpp.2.2] at HM
          clear hs hr hx x0 x1 x2 xf0 xf1 xf2 z0 z1 z2 zf0 zf1 zf2 q0 q1 qf0 qf1 HJ HA HB0 HB7 HB8 HBk HL3 hHL1 hHL2 hHL3 HN hpp
          go_wp2_with fail
          obtain ⟨ps, hps⟩ : ∃ ps, ps = (zs ++ [(t.2.1, kd)]) := ⟨_, rfl⟩
          rw [← hps] at HM
          clear hps
          refine (qmark_any HM.out.1.rd [41] rfl).mono ?_
          rintro y wX ⟨ht, u8, s8, v8, ha, rfl, rfl, hr⟩
          have HB8 := Lib.hid (HM.out.1.turn ht hr)
          have HPs : Hid (RowIn paY (fun k => ba + 1 ≤ k) wX (.slice pp np cp) ps ∧ Aft (rowR paramR) L e s0 ps s8) := Lib.hid ⟨HB8.out.own.in_, HM.out.2.bind (ha.map fun _ => ps)⟩
          obtain ⟨B2, hB2⟩ : ∃ B2, B2 = wX.heap.size := ⟨_, rfl⟩
          have HXs := Lib.hid hB2
          have HBX : Hid (LqB acY 118 n b e L W ba B2 72 (fun y => #[.string nm, .slice pp np cp, y]) (.cells #[.string ⟨#[]⟩, .slice none 0 0, .slice none 0 0] 72 (0, 0)) wX (.slice none 0 0) [] s8 wX) := Lib.hid (by rw [hB2]; exact HB8.out.next rfl)
          clear ht ha hr hB2 HM
          go_wp2_with fail
          refine (qnext_any HBX.out.rd 6 [58]).mono ?_
          rw [isKT_m (m := [58]) rfl]
          rintro y w2 ⟨⟨hx, rfl⟩ | ⟨hx, rfl⟩, hs, hr⟩
          · obtain ⟨c1, f1, -, hl⟩ := hr.inc
            have hi := nxB.lt hx
            obtain ⟨sX, hsX⟩ : ∃ sX : Qs, sX = { s8 with i := s8.i + 1 } := ⟨_, rfl⟩
            have HB2 : Hid (LqB acY 118 n b e L W ba B2 72 (fun y => #[.string nm, .slice pp np cp, y]) (.cells #[.string ⟨#[]⟩, .slice none 0 0, .slice none 0 0] 72 (0, 0)) wX (.slice none 0 0) [] sX (w2.setCell ⟨b, 1, none⟩ (.int .i64 ((s8.i : Int) + 1)))) := Lib.hid (by rw [hsX]; exact (HBX.out.still hs).inc hi)
            have HMo : Hid (∀ zs s', Aft (sepL (isM [44]) actR) L e sX zs s' → Aft (moreR [58] actR) L e s8 zs s') := Lib.hid (fun zs s' h => Aft.alt_yes ((Aft.step (e := e) hx hi).bind (by rw [← hsX]; exact h)) hx)
            obtain ⟨sY, hsY⟩ : ∃ sY, sY = sX := ⟨_, rfl⟩
            have hJY : Hid (LqB acY 118 n b e L W ba B2 72 (fun y => #[.string nm, .slice pp np cp, y]) (.cells #[.string ⟨#[]⟩, .slice none 0 0, .slice none 0 0] 72 (0, 0)) wX (.slice none 0 0) [] sX (w2.setCell ⟨b, 1, none⟩ (.int .i64 ((s8.i : Int) + 1))) ∧ (∀ rest s', Aft (sepL (isM [44]) actR) L e sX rest s' → Aft (sepL (isM [44]) actR) L e sY ([] ++ rest) s') ∧ ([] : List ActL).length ≤ sX.i) := Lib.hid ⟨HB2.out, fun rest s' h => by rw [hsY]; exact h, Nat.zero_le _⟩
            rw [← hsY] at HMo
            clear hs hr hx hsX hsY
            go_wp2_with fail
            go_loopw [65] (fun _ wr => ∃ v zs s, Hid (LqB acY 118 n b e L W ba B2 72 (fun y => #[.string nm, .slice pp np cp, y]) (.cells #[.string ⟨#[]⟩, .slice none 0 0, .slice none 0 0] 72 (0, 0)) wX v zs s wr ∧ (∀ rest s', Aft (sepL (isM [44]) actR) L e s rest s' → Aft (sepL (isM [44]) actR) L e sY (zs ++ rest) s') ∧ zs.length ≤ s.i)) (fun _ wr => L.length + 1 - atW wr b)
            case atStart => exact ⟨_, _, _, hJY⟩
            case round =>
              obtain ⟨v, zs, s, HJ⟩ := hrel
              obtain ⟨c1, f1, c3, hl⟩ := HJ.out.1.rd.inc
              cases hbad : s.bad with
              | true =>
                rw [hbad] at c3
                have HM := Lib.hid (And.intro HJ.out.1 (HMo.out zs s (by have h := HJ.out.2.1 [] s (Aft.stay HJ.out.1.rd.le hbad []); rwa [List.append_nil] at h)))
                clear hJY HJ hbad
                go_wp2_with fail
                refine (qmark_any HM.out.1.rd [46] rfl).mono ?_
                rintro y w8 ⟨ht, u9, s9, v9, ha, rfl, rfl, hr⟩
                have HB9 := Lib.hid (HM.out.1.turn ht hr)
                have HA9 := Lib.hid ha
                obtain ⟨⟨x0, x1, x2⟩, xf0, xf1, xf2⟩ := cellsQ3 HB9.out.box
                obtain ⟨⟨y0, y1, y2⟩, yf0, yf1, yf2⟩ := cellsQ3 HB9.out.res
                obtain ⟨pw, nw, cw, rfl⟩ : ∃ p n c, v = .slice p n c := (by obtain ⟨p, c, h, -⟩ := HM.out.1.own.in_; exact ⟨p, _, c, h⟩)
                clear ht ha hr
                go_wp2_with fail
                refine bodyPost_ret (results_cell_row (fn := Tryz.f26) (by rfl) _ _ _ _ _ _ _ (by rfl) (rowQ3_set HB9.out.res) Tryz.underlying72 (by rfl) (by kernel_rfl)) (by rfl) ?_
                obtain rfl := HPn.out
                have hlo := HB9.out.lo
                have hloB := HB9.out.loB
                refine ⟨Only.turned (((HB9.out.only.set (Nat.le_refl _) _ _).set (Nat.le_refl _) _ _).set (Nat.le_refl _) _ _), ⟨nl, ps, zs⟩, s9, _, HP.out _ _ _ _ () (HPs.out.2) (HM.out.2.bind (HA9.out.map fun _ => zs)), rfl, ⟨_, _, rfl, ?_, ?_⟩, ((HB9.out.rd.set HB9.out.nW _ _).set HB9.out.nW _ _).set HB9.out.nW _ _⟩
                · exact HPs.out.1.keep (by have h1 := HB9.out.hi; have h2 := HXs.out; simp; omega) fun k ek hk => ⟨by have h3 : ba + 1 ≤ k := ek; omega, (setQ3_off (by have h3 : ba + 1 ≤ k := ek; omega)).trans (HB9.out.mid k (by have h3 : ba + 1 ≤ k := ek; omega) (by have h2 := HXs.out; omega) (by have h3 : ba + 1 ≤ k := ek; omega))⟩
                · exact HB9.out.own.in_.keep (by simp) fun k ek _ => ⟨by omega, setQ3_off (by omega)⟩
              | false =>
                rw [hbad] at c3
                obtain ⟨pv, cv, rfl⟩ : ∃ p c, v = .slice p zs.length c := (by obtain ⟨p, c, h, -⟩ := HJ.out.1.own.in_; exact ⟨p, c, h⟩)
                have HS0 := Lib.hid (show wr.drew.cell? ⟨ba, 2, none⟩ = some (.slice pv zs.length cv) from cell_of_row wr ba 2 _ _ (0, 0) HJ.out.1.box)
                have HBd := Lib.hid hbad
                clear hJY hbad
                go_wp2_with fail
                refine Till.begin (S := fun X => X.cell? ⟨ba, 2, none⟩ = some (.slice pv zs.length cv)) (z := 5) (by kernel_rfl) ?_
                refine Till.takeY 0 70 (v := ?_) rfl rfl (by kernel_rfl) (by kernel_rfl) (by kernel_rfl) (by decide) (fun _ _ _ h => h) (by kernel_rfl) ?_ (fun _ => HS0.out) (by first | (simp only [put_norm]; exact rfl) | exact rfl) ?_
                rotate_left
                · rintro X0 -
                  go_simp; try (with_reducible rfl)
                refine Till.takeY 2 72 (v := ?_) rfl rfl (by kernel_rfl) (by kernel_rfl) (by kernel_rfl) (by decide) (fun _ _ _ h => h) (by kernel_rfl) ?_ (fun _ => HS0.out) (by first | (simp only [put_norm]; exact rfl) | exact rfl) ?_
                rotate_left
                · rintro X0 -
                  go_simp; try (with_reducible rfl)
                refine Till.take [5] 1 71 (v := ?_) rfl rfl (by kernel_rfl) (by kernel_rfl) (by kernel_rfl) (by kernel_rfl) (fun _ _ _ h => h) (by kernel_rfl) ?_ HS0.out (by first | (simp only [put_norm]; exact rfl) | exact rfl) ?_
                rotate_left
                · rintro X0 s0
                  go_simp; try (with_reducible rfl)
                refine Till.one 3 (by kernel_rfl) rfl (fun K hK => ?_)
                go_simp
                go_at_call 56
                refine (qact_any HJ.out.1.rd.drew).mono ?_
                rintro y w3 ⟨ht, a, s1, va, ha, rfl, ⟨ua, rfl, hua⟩, hr⟩
                obtain ⟨pa, ca, rfl⟩ := RowIn.shapeQ hua
                have HB3 := Lib.hid (HJ.out.1.drew.turn ht hr)
                have HA := Lib.hid ha
                have HU := Lib.hid hua
                have HS3 := Lib.hid (show w3.cell? ⟨ba, 2, none⟩ = some (.slice pv zs.length cv) from cell_of_row w3 ba 2 _ _ (0, 0) HB3.out.box)
                clear ht ha hr hua
                go_simp
                refine hK.out _ _ (fun _ => HS3.out) ?_
                clear hK K
                try simp only [put_norm]
                refine Till.one 4 (by kernel_rfl) rfl (fun K hK => ?_)
                go_simp
                have hz3 : ba < w3.heap.size := HB3.out.hib
                have HS4 := Lib.hid (show (w3.alloc (.cells #[.bool a.plus, .string ⟨a.atom.pred.toArray⟩, .slice pa a.atom.args.length ca] 118)).cell? ⟨ba, 2, none⟩ = some (.slice pv zs.length cv) from (World.cell?_of_block (a := ⟨ba, 2, none⟩) (Below.heap_alloc _ _ _ hz3)).trans HS3.out)
                have HL3 : Hid (RowOwn acY 118 B2 (w3.alloc (.cells #[.bool a.plus, .string ⟨a.atom.pred.toArray⟩, .slice pa a.atom.args.length ca] 118)) (.slice pv zs.length cv) zs ∧ acY.is (fun k => B2 ≤ k ∧ (Value.slice pv zs.length cv).ownBlock ≠ some k) (w3.alloc (.cells #[.bool a.plus, .string ⟨a.atom.pred.toArray⟩, .slice pa a.atom.args.length ca] 118)) [.bool a.plus, .string ⟨a.atom.pred.toArray⟩, .slice pa a.atom.args.length ca] a ∧ zs.length ≤ 1000000 ∧ B2 ≤ (w3.alloc (.cells #[.bool a.plus, .string ⟨a.atom.pred.toArray⟩, .slice pa a.atom.args.length ca] 118)).heap.size) := Lib.hid ⟨HB3.out.lit _, ⟨_, rfl, HU.out.keep (by simp) fun k ek hk => ⟨⟨Nat.le_trans HJ.out.1.hi ek, fun e2 => by have := (HJ.out.1.own.lt k e2).2; have h3 : wr.heap.size ≤ k := ek; omega⟩, Below.heap_alloc _ _ _ hk⟩⟩, by have := HJ.out.2.2; have := HJ.out.1.rd.le; have := HJ.out.1.rd.len; omega, by have := HB3.out.hi; simp; omega⟩
                refine hK.out _ _ (fun _ => HS4.out) ?_
                clear hK K
                try simp only [put_norm]
                refine Till.one 5 (by kernel_rfl) rfl (fun K hK => ?_)
                refine step_appY acY rfl (.tmp 71) (.tmp 74) 70 118 rfl (B2) (.agg #[.bool false, .string ⟨#[]⟩, .slice none 0 0]) 48 Tryz.underlying70 Tryz.infoAc rfl (by decide) (by decide) _ zs a [.bool a.plus, .string ⟨a.atom.pred.toArray⟩, .slice pa a.atom.args.length ca] w3.heap.size 1 rfl rfl HL3.out.1 HL3.out.2.1 (lit_rowcells w3 [.bool a.plus, .string ⟨a.atom.pred.toArray⟩, .slice pa a.atom.args.length ca] _) HL3.out.2.2.1 HL3.out.2.2.2 ?_
                intro v4 w4 ho hg hv4
                obtain ⟨p4, n4, c4, rfl⟩ : ∃ p n c, v4 = .slice p n c := (by obtain ⟨p, c, h, -⟩ := ho.in_; exact ⟨p, _, c, h⟩)
                have HN := Lib.hid (HB3.out.app (idx := 2) ho hg rfl)
                obtain ⟨⟨x0, x1, x2⟩, xf0, xf1, xf2⟩ := cellsQ3 HN.out.2
                clear ho hg hv4
                refine hK.out _ _ (fun h => nomatch (show (true : Bool) = false from h)) ?_
                clear hK K
                try simp only [put_norm]
                refine Till.takeY 6 76 (v := ?_) rfl rfl (by kernel_rfl) (by kernel_rfl) (by kernel_rfl) (by decide) (fun _ _ _ h => h) (by kernel_rfl) ?_ (fun h => nomatch (show (true : Bool) = false from h)) (by first | (simp only [put_norm]; exact rfl) | exact rfl) ?_
                rotate_left
                · rintro X0 -
                  go_simp; try (with_reducible rfl)
                refine Till.one 7 (by kernel_rfl) rfl (fun K hK => ?_)
                go_simp
                refine hK.out _ _ (fun h => nomatch (show (true : Bool) = false from h)) ?_
                clear hK K
                try simp only [put_norm]
                refine Till.done (by kernel_rfl) ?_ _
                go_wp2_with fail
                refine (qnext_any HN.out.1.rd 6 [44]).mono ?_
                rw [isKT_m (m := [44]) rfl]
                rintro y w6 ⟨⟨hx, rfl⟩ | ⟨hx, rfl⟩, hs, hr⟩
                · have hi := nxB.lt hx
                  have HB6 := Lib.hid ((HN.out.1.still hs).inc hi)
                  obtain ⟨d1, g1, d3, hl1⟩ := hr.inc
                  have HXx := Lib.hid hx
                  clear hs hr hx x0 x1 x2 xf0 xf1 xf2
                  go_wp2_with fail
                  go_roundw
                  case rel =>
                    refine ⟨_, zs ++ [a], { s1 with i := s1.i + 1 }, Lib.hid ⟨HB6.out, fun rest s' h => ?_, ?_⟩⟩
                    · rw [List.append_assoc]
                      exact HJ.out.2.1 _ _ (Aft.sep_next HEac.out HA.out HBd.out HXx.out h)
                    · have := HJ.out.2.2
                      have := HA.out.up
                      simp
                      omega
                  case measure =>
                    rw [HB6.out.rd.atW, HJ.out.1.rd.atW]
                    have := HA.out.up
                    show L.length + 1 - (s1.i + 1) < L.length + 1 - s.i
                    omega
                · have HM := Lib.hid (And.intro (HN.out.1.still hs) (HMo.out (zs ++ [a]) s1 (HJ.out.2.1 [a] s1 (Aft.sep_last HEac.out HA.out HBd.out hx))))
                  clear hs hr hx x0 x1 x2 xf0 xf1 xf2 HJ HB3 HA HU
                  go_wp2_with fail
                  refine (qmark_any HM.out.1.rd [46] rfl).mono ?_
                  rintro y w8 ⟨ht, u9, s9, v9, ha, rfl, rfl, hr⟩
                  have HB9 := Lib.hid (HM.out.1.turn ht hr)
                  have HA9 := Lib.hid ha
                  obtain ⟨⟨x0, x1, x2⟩, xf0, xf1, xf2⟩ := cellsQ3 HB9.out.box
                  obtain ⟨⟨y0, y1, y2⟩, yf0, yf1, yf2⟩ := cellsQ3 HB9.out.res
                  clear ht ha hr
                  go_wp2_with fail
                  refine bodyPost_ret (results_cell_row (fn := Tryz.f26) (by rfl) _ _ _ _ _ _ _ (by rfl) (rowQ3_set HB9.out.res) Tryz.underlying72 (by rfl) (by kernel_rfl)) (by rfl) ?_
                  obtain rfl := HPn.out
                  have hlo := HB9.out.lo
                  have hloB := HB9.out.loB
                  refine ⟨Only.turned (((HB9.out.only.set (Nat.le_refl _) _ _).set (Nat.le_refl _) _ _).set (Nat.le_refl _) _ _), ⟨nl, ps, (zs ++ [a])⟩, s9, _, HP.out _ _ _ _ () (HPs.out.2) (HM.out.2.bind (HA9.out.map fun _ => (zs ++ [a]))), rfl, ⟨_, _, rfl, ?_, ?_⟩, ((HB9.out.rd.set HB9.out.nW _ _).set HB9.out.nW _ _).set HB9.out.nW _ _⟩
                  · exact HPs.out.1.keep (by have h1 := HB9.out.hi; have h2 := HXs.out; simp; omega) fun k ek hk => ⟨by have h3 : ba + 1 ≤ k := ek; omega, (setQ3_off (by have h3 : ba + 1 ≤ k := ek; omega)).trans (HB9.out.mid k (by have h3 : ba + 1 ≤ k := ek; omega) (by have h2 := HXs.out; omega) (by have h3 : ba + 1 ≤ k := ek; omega))⟩
                  · exact HB9.out.own.in_.keep (by simp) fun k ek _ => ⟨by omega, setQ3_off (by omega)⟩
          · have HM := Lib.hid (And.intro (HBX.out.still hs) (show Aft (moreR [58] actR) L e s8 [] s8 from Aft.alt_no (Aft.pure HBX.out.rd.le ([] : List ActL)) hx))
            clear hs hr hx
            go_wp2_with fail
            refine (qmark_any HM.out.1.rd [46] rfl).mono ?_
            rintro y w8 ⟨ht, u9, s9, v9, ha, rfl, rfl, hr⟩
            have HB9 := Lib.hid (HM.out.1.turn ht hr)
            have HA9 := Lib.hid ha
            obtain ⟨⟨x0, x1, x2⟩, xf0, xf1, xf2⟩ := cellsQ3 HB9.out.box
            obtain ⟨⟨y0, y1, y2⟩, yf0, yf1, yf2⟩ := cellsQ3 HB9.out.res
            clear ht ha hr
            go_wp2_with fail
            refine bodyPost_ret (results_cell_row (fn := Tryz.f26) (by rfl) _ _ _ _ _ _ _ (by rfl) (rowQ3_set HB9.out.res) Tryz.underlying72 (by rfl) (by kernel_rfl)) (by rfl) ?_
            obtain rfl := HPn.out
            have hlo := HB9.out.lo
            have hloB := HB9.out.loB
            refine ⟨Only.turned (((HB9.out.only.set (Nat.le_refl _) _ _).set (Nat.le_refl _) _ _).set (Nat.le_refl _) _ _), ⟨nl, ps, ([] : List ActL)⟩, s9, _, HP.out _ _ _ _ () (HPs.out.2) (HM.out.2.bind (HA9.out.map fun _ => ([] : List ActL))), rfl, ⟨_, _, rfl, ?_, ?_⟩, ((HB9.out.rd.set HB9.out.nW _ _).set HB9.out.nW _ _).set HB9.out.nW _ _⟩
            · exact HPs.out.1.keep (by have h1 := HB9.out.hi; have h2 := HXs.out; simp; omega) fun k ek hk => ⟨by have h3 : ba + 1 ≤ k := ek; omega, (setQ3_off (by have h3 : ba + 1 ≤ k := ek; omega)).trans (HB9.out.mid k (by have h3 : ba + 1 ≤ k := ek; omega) (by have h2 := HXs.out; omega) (by have h3 : ba + 1 ≤ k := ek; omega))⟩
            · exact HB9.out.own.in_.keep (by simp) fun k ek _ => ⟨by omega, setQ3_off (by omega)⟩

end
section
open Go Go.RowKit Go.Shelf

set_option maxRecDepth 100000 in
set_option maxHeartbeats 2000000 in
theorem rwords_all (s : ByteArray) (w : World) :
    Calls Tryz.prog 50 #[.string s] w fun e w' => (∃ v, e = .returned (.tuple #[v, .int .i64 ((wordsL s.data.toList).2.1 : Int), .int .i64 (wordsL s.data.toList).2.2]) ∧ OwnW w.heap.size w' v (wordsL s.data.toList).1) ∧ Below w.heap.size w w' := by
  by_cases hsh : s.size ≤ 1000000
  · exact rwords_any s w hsh
  · have hl' : (65536 : Int) < (s.size : Int) := by omega
    have HE := Lib.hid (show wordsL s.data.toList = ([], 0, 2) by unfold wordsL; rw [if_pos (by rw [← Lib.size_eq]; omega)])
    rw [HE.out]
    go_enter Tryz.func50, Tryz.ntmps50
    go_wp2_with fail
    refine bodyPost_ret (v := .tuple #[.slice none 0 0, .int .i64 0, .int .i64 2]) (by simp [results, Tryz.results50, go_sem]) rfl ⟨⟨_, rfl, OwnW.nil _ _⟩, Below.refl _ _⟩
/-- How a text is opened. -/
def OpQ (s : ByteArray) (w : World) (x : Ending) (w' : World) : Prop :=
  Below w.heap.size w w' ∧
  ((s.size ≤ 65536 ∧ (lexS valL s.data.toList 0).2 = none ∧ ∃ b, x = .returned (.tuple #[rdq b, .int .i64 0, .int .i64 0]) ∧ w.heap.size ≤ b ∧ Rq w'.heap.size w' b (lexS valL s.data.toList 0).1 s.size ⟨0, false, 0⟩) ∨
   (s.size ≤ 65536 ∧ ∃ n : Nat, (lexS valL s.data.toList 0).2 = some n ∧ x = .returned (.tuple #[.pointer none, .int .i64 n, .int .i64 120])) ∨
   (65536 < s.size ∧ x = .returned (.tuple #[.pointer none, .int .i64 0, .int .i64 2])))
set_option maxRecDepth 100000 in
set_option maxHeartbeats 2000000 in
theorem qopen_any (s : ByteArray) (w : World) : Calls Tryz.prog 23 #[.string s] w (OpQ s w) := by
  go_enter Tryz.func23, Tryz.ntmps23
  go_wp2_with fail
  refine (rwords_all s w).mono ?_
  rintro y w1 ⟨⟨v, rfl, ho⟩, hb⟩
  have HB := Lib.hid hb
  clear hb
  rcases words_ways s with ⟨hl, e⟩ | ⟨hs, n, hn, e⟩ | ⟨hs, hn, e⟩
  · rw [e]
    simp only
    clear ho
    go_wp2_with fail
    refine bodyPost_ret (v := .tuple #[.pointer none, .int .i64 0, .int .i64 2]) (by simp [results, Tryz.results23, go_sem]) rfl ⟨HB.out, .inr (.inr ⟨hl, rfl⟩)⟩
  · rw [e]
    simp only
    clear ho
    go_wp2_with fail
    refine bodyPost_ret (v := .tuple #[.pointer none, .int .i64 n, .int .i64 120]) (by simp [results, Tryz.results23, go_sem]) rfl ⟨HB.out, .inr (.inl ⟨hs, n, hn, rfl⟩)⟩
  · rw [e] at ho ⊢
    simp only at ho ⊢
    have HLd := Lib.hid (lexS_len (V := valL) _ s.data.toList 0 (Nat.le_refl _))
    have HS := Lib.hid (And.intro hs hn)
    obtain ⟨pv, nv, cv, rfl⟩ : ∃ p n c, v = .slice p n c := (by
      rcases ho.2 with ⟨rfl, -⟩ | ⟨g, cap, cur, rfl, -⟩
      · exact ⟨_, _, _, rfl⟩
      · exact ⟨_, _, _, rfl⟩)
    have HO := Lib.hid ho
    clear ho e hn hs
    go_wp2_with fail
    refine bodyPost_ret (v := .tuple #[rdq w1.heap.size, .int .i64 0, .int .i64 0]) (by simp [results, Tryz.results23, go_sem]) rfl ⟨HB.out.alloc HB.out.size _, .inl ⟨HS.out.1, HS.out.2, w1.heap.size, rfl, HB.out.size, ?_⟩⟩
    refine ⟨⟨.slice pv nv cv, heap_alloc_new w1 _, (HO.out.alloc _).in_ _ fun k ek => ?_⟩, Nat.zero_le _, ?_, by simp, Nat.le_refl _⟩
    · have := (HO.out.lt k ek).2
      simp
      omega
    · have h1 := HLd.out
      have h2 := HS.out.1
      rw [← Lib.size_eq] at h1
      omega
def Qs.close (s : Qs) (L : List Wd) (e : Nat) : Qs := if s.i < L.length then s.fault L e else s
set_option maxRecDepth 100000 in
set_option maxHeartbeats 1000000 in
theorem qend_any {n b e : Nat} {W : World} {L : List Wd} {s : Qs} (h : Rq n W b L e s) :
    Calls Tryz.prog 32 #[rdq b] W fun x w' => x = .returned (.tuple #[]) ∧ Turned (fun k => k = b) W w' ∧ Rq n w' b L e (s.close L e) := by
  have HR := Lib.hid h
  obtain ⟨v, h1, h2⟩ := h.row
  obtain ⟨c0, c1, c2, c3, c4⟩ := h1.cells
  obtain ⟨q, cq, rfl, -⟩ := h2
  clear h h1
  by_cases hlt : s.i < L.length
  · have hlt' : (s.i : Int) < (L.length : Int) := by omega
    have HC := Lib.hid (show s.close L e = s.fault L e by unfold Qs.close; rw [if_pos hlt])
    clear hlt
    go_enter Tryz.func32, Tryz.ntmps32
    go_wp2_with fail
    go_quiet (fail)
    go_wp2_with fail
    refine (qfault_any (HR.out.still (Still.drewN _ _))).mono ?_
    rintro y w2 ⟨rfl, ht, hr⟩
    have HE := Lib.hid (And.intro ht hr)
    clear ht hr
    go_wp2_with fail
    exact bodyPost_end (results_none rfl _ _ _) rfl ⟨rfl, ((Still.drewN W _).turned _).trans HE.out.1 fun _ _ e => e, by rw [HC.out]; exact HE.out.2⟩
  · have hlt' : ¬ (s.i : Int) < (L.length : Int) := by omega
    have HC := Lib.hid (show s.close L e = s by unfold Qs.close; rw [if_neg hlt])
    clear hlt
    go_enter Tryz.func32, Tryz.ntmps32
    go_wp2_with fail
    go_quiet (fail)
    go_wp2_with fail
    exact bodyPost_end (results_none rfl _ _ _) rfl ⟨rfl, (Still.drewN W _).turned _, by rw [HC.out]; exact HR.out.still (Still.drewN _ _)⟩
theorem qsetRule_below2 {w X : World} {B : Nat} {y0 y1 y2 : Value} (h : Below B w X) : Below B w (((X.setCell ⟨B, 0, none⟩ y0).setCell ⟨B, 1, none⟩ y1).setCell ⟨B, 2, none⟩ y2) := by
  iterate 3 refine Below.setCell ?_ (by exact Nat.le_refl _) _
  exact h
theorem qsetRule_below {w X : World} {B : Nat} {y0 y1 y2 : Value} (h : Below B w X) : Below B w (((X.setCell ⟨B, 0, none⟩ y0).setCell ⟨B, 1, none⟩ y1).setCell ⟨B, 2, none⟩ y2).drew := (qsetRule_below2 h).drew
theorem qsetAtom_below2 {w X : World} {B : Nat} {y0 y1 : Value} (h : Below B w X) : Below B w ((X.setCell ⟨B, 0, none⟩ y0).setCell ⟨B, 1, none⟩ y1) := by
  iterate 2 refine Below.setCell ?_ (by exact Nat.le_refl _) _
  exact h
theorem qsetAtom_below {w X : World} {B : Nat} {y0 y1 : Value} (h : Below B w X) : Below B w ((X.setCell ⟨B, 0, none⟩ y0).setCell ⟨B, 1, none⟩ y1).drew := (qsetAtom_below2 h).drew
theorem setQ2_off {w1 : World} {b k : Nat} {y0 y1 : Value} (h : k ≠ b) : ((w1.setCell ⟨b, 0, none⟩ y0).setCell ⟨b, 1, none⟩ y1).heap[k]? = w1.heap[k]? := (heap_setCell_other _ ⟨b, 1, none⟩ k _ h).trans (heap_setCell_other _ ⟨b, 0, none⟩ k _ h)
/-- What a text says, told of how the reader stands behind it. -/
theorem say_close {α : Type} {p : Rd α} {s : ByteArray} {a : α} {s' : Qs} (hn : (lexS valL s.data.toList 0).2 = none) (h : Aft p (lexS valL s.data.toList 0).1 s.size ⟨0, false, 0⟩ a s') :
    ((s'.close (lexS valL s.data.toList 0).1 s.size).bad = false → sayOf valL p s.data.toList = .ok a) ∧ ((s'.close (lexS valL s.data.toList 0).1 s.size).bad = true → sayOf valL p s.data.toList = .bad (s'.close (lexS valL s.data.toList 0).1 s.size).q) := by
  have he : s.size = s.data.toList.length := Lib.size_eq s
  obtain ⟨L, hL⟩ : ∃ L, L = (lexS valL s.data.toList 0).1 := ⟨_, rfl⟩
  rw [← hL] at h ⊢
  cases hb : s'.bad with
  | true =>
    have hc : (s'.close L s.size).bad = true ∧ (s'.close L s.size).q = s'.q := by
      unfold Qs.close
      split
      · unfold Qs.fault; rw [if_pos hb]; exact ⟨hb, rfl⟩
      · exact ⟨hb, rfl⟩
    obtain ⟨j, j1, j2, j3⟩ := h.no rfl hb
    refine ⟨fun h0 => (by rw [hc.1] at h0; cases h0), fun _ => ?_⟩
    rw [hc.2, j3]
    exact say_bad hn hL j2 (List.drop_suffix _ _) he
  | false =>
    have h1 := h.ok rfl hb
    rcases say_ok hn hL (L' := L.drop s'.i) (e := s.size) h1 (List.drop_suffix _ _) he with ⟨h2, h3⟩ | ⟨h2, h3⟩
    · have h4 : ¬ s'.i < L.length := by have := List.drop_eq_nil_iff.1 h2; omega
      have hc : s'.close L s.size = s' := by unfold Qs.close; rw [if_neg h4]
      rw [hc]
      exact ⟨fun _ => h3, fun h0 => (by rw [hb] at h0; cases h0)⟩
    · have h4 : s'.i < L.length := by
        rcases Nat.lt_or_ge s'.i L.length with h | h
        · exact h
        · exact absurd (List.drop_eq_nil_of_le h) h2
      have hc : s'.close L s.size = ⟨s'.i, true, hereW s.size (L.drop s'.i)⟩ := by unfold Qs.close Qs.fault; rw [if_pos h4, if_neg (by rw [hb]; simp)]
      rw [hc]
      exact ⟨fun h0 => (by cases h0), fun _ => h3⟩
set_option maxRecDepth 100000 in
set_option maxHeartbeats 4000000 in
theorem qRule_any (s : ByteArray) (w : World) : Calls Tryz.prog 12 #[.string s] w (SayEnd ruleR uqT (.agg #[.string ⟨#[]⟩, .slice none 0 0, .slice none 0 0]) s w) := by
  go_enter Tryz.func12, Tryz.ntmps12
  go_wp2_with fail
  refine (qopen_any s (w.alloc (.cells #[.string ⟨#[]⟩, .slice none 0 0, .slice none 0 0] 41 (0, 0)))).mono ?_
  rintro y w1 ⟨hb, hways⟩
  have hz : w.heap.size < w1.heap.size := by have := hb.size; simp at this; omega
  have r1 : w1.heap[w.heap.size]? = some (.cells #[.string ⟨#[]⟩, .slice none 0 0, .slice none 0 0] 41 (0, 0)) := (hb.block w.heap.size (by simp)).trans (heap_alloc_new w _)
  have HB : Hid (Below w.heap.size w w1) := Lib.hid (((Below.refl _ w).alloc (Nat.le_refl _) _).trans (hb.mono (by simp)))
  have hbs : ∀ b, (w.alloc (.cells #[.string ⟨#[]⟩, .slice none 0 0, .slice none 0 0] 41 (0, 0))).heap.size ≤ b → w.heap.size < b := fun b h => by simp at h; omega
  obtain ⟨⟨d0, d1, d2⟩, f0, f1, f2⟩ := cellsQ3 r1
  have HR1 := Lib.hid r1
  clear hb r1
  rcases hways with ⟨hs, hn, b, rfl, hbb, hr⟩ | ⟨hs, n, hn, rfl⟩ | ⟨hl, rfl⟩
  · have hb0 := hbs b hbb
    have HS := Lib.hid (And.intro hs hn)
    have HRq := Lib.hid hr
    clear hs hn hr hbb hbs
    go_wp2_with fail
    refine (qrule_any HRq.out).mono ?_
    rintro y w2 ⟨ht, a, s', v, ha, rfl, hv, hr⟩
    obtain ⟨u1, u2, rfl, h1, h2⟩ := hv
    obtain ⟨q0, m0, k0, rfl⟩ : ∃ q n k, u1 = .slice q n k := (by obtain ⟨q, k, e⟩ := RowIn.shapeQ h1; exact ⟨_, _, _, e⟩)
    obtain ⟨q1, m1, k1, rfl⟩ : ∃ q n k, u2 = .slice q n k := (by obtain ⟨q, k, e⟩ := RowIn.shapeQ h2; exact ⟨_, _, _, e⟩)
    obtain ⟨nm, hnm⟩ : ∃ nm : ByteArray, nm = ⟨a.head.pred.toArray⟩ := ⟨_, rfl⟩
    rw [← hnm]
    have HV := Lib.hid (And.intro h1 h2)
    have HN := Lib.hid hnm
    have r2 : w2.heap[w.heap.size]? = some (.cells #[.string ⟨#[]⟩, .slice none 0 0, .slice none 0 0] 41 (0, 0)) := (ht.block _ hz (by omega)).trans HR1.out
    have HT2 := Lib.hid (show Below w.heap.size w w2 from HB.out.trans (ht.below (Nat.le_of_lt hz) fun k e => by omega))
    obtain ⟨bx, hbx⟩ : ∃ bx, bx = w2.heap.size := ⟨_, rfl⟩
    have hbx1 : w.heap.size < bx := by have := ht.size; omega
    have hbx2 : b < bx := by have := hr.lt; omega
    have HSay := Lib.hid (say_close HS.out.2 ha)
    have HR2 := Lib.hid (And.intro (hr.alloc (.cells #[.string nm, .slice q0 m0 k0, .slice q1 m1 k1] 41)) (And.intro ((Below.heap_alloc (w := w2) (.cells #[.string nm, .slice q0 m0 k0, .slice q1 m1 k1] 41) _ (by omega)).trans r2) (heap_alloc_new w2 (.cells #[.string nm, .slice q0 m0 k0, .slice q1 m1 k1] 41))))
    clear ht ha hr r2 hnm h1 h2
    go_wp2_with fail
    rw [← hbx]
    have HBx := Lib.hid hbx
    clear hbx
    refine (qend_any HR2.out.1).mono ?_
    rintro y w3 ⟨rfl, ht, hr⟩
    have r3 : w3.heap[w.heap.size]? = some (.cells #[.string ⟨#[]⟩, .slice none 0 0, .slice none 0 0] 41 (0, 0)) := (ht.block _ (by have := HBx.out; simp; omega) (by omega)).trans HR2.out.2.1
    have x3 : w3.heap[bx]? = some (.cells #[.string nm, .slice q0 m0 k0, .slice q1 m1 k1] 41 (0, 0)) := (ht.block _ (by have := HBx.out; simp; omega) (by omega)).trans (by rw [HBx.out]; exact HR2.out.2.2)
    have HT3 := Lib.hid (show Below w.heap.size w w3 from (HT2.out.alloc HT2.out.size _).trans (ht.below (by have := HT2.out.size; simp; omega) fun k e => by omega))
    have HV3 := Lib.hid (show ∀ k, b < k → k < w2.heap.size → w3.heap[k]? = w2.heap[k]? from fun k k1 k2 => (ht.block k (by simp; omega) (by omega)).trans (Below.heap_alloc _ _ _ k2))
    have HSZ3 := Lib.hid (show w2.heap.size ≤ w3.heap.size by have := ht.size; simp at this; omega)
    have HQ3 := Lib.hid (And.intro r3 x3)
    obtain ⟨⟨y0, y1, y2⟩, g0, g1, g2⟩ := cellsQ3 r3
    obtain ⟨⟨e0, e1, e2⟩, -⟩ := cellsQ3 x3
    obtain ⟨vr, hrow, -⟩ := hr.row
    obtain ⟨c0, c1, c2, c3, c4⟩ := hrow.cells
    obtain ⟨sq, hsq⟩ : ∃ sq, sq = s'.close (lexS valL s.data.toList 0).1 s.size := ⟨_, rfl⟩
    rw [← hsq] at c1 c3 c4 HSay
    have hlt3 := hr.lt
    have hsz3 : w.heap.size < w3.heap.size := by have := HT3.out.size; omega
    clear hr hrow ht r3 x3 hsq c1
    cases hbad : sq.bad with
    | true =>
      rw [hbad] at c3
      have HF := Lib.hid (HSay.out.2 hbad)
      clear hbad
      go_wp2_with fail
      go_region
      all_goals
        go_wp2_with fail
        have HT := HT3.out
        obtain ⟨p2, -⟩ := cellsQ3 (rowQ3_set (y0 := .string ⟨#[]⟩) (y1 := .slice none 0 0) (y2 := .slice none 0 0) HQ3.out.1)
        refine bodyPost_ret (v := .tuple #[.agg #[.string ⟨#[]⟩, .slice none 0 0, .slice none 0 0], .int .i64 sq.q, .int .i64 130]) (by simp [results, Tryz.results12, go_sem, p2]) rfl ⟨?_, .inr (.inl ⟨HS.out.1, sq.q, HF.out, rfl⟩)⟩
        exact qsetRule_below HT
    | false =>
      rw [hbad] at c3
      have HF := Lib.hid (HSay.out.1 hbad)
      clear hbad
      go_wp2_with fail
      have HT := HT3.out
      obtain ⟨p2, -⟩ := cellsQ3 (rowQ3_set (y0 := .string nm) (y1 := .slice q0 m0 k0) (y2 := .slice q1 m1 k1) HQ3.out.1)
      refine bodyPost_ret (v := .tuple #[.agg #[.string nm, .slice q0 m0 k0, .slice q1 m1 k1], .int .i64 0, .int .i64 0]) (by simp [results, Tryz.results12, go_sem, p2]) rfl ⟨?_, .inl ⟨HS.out.1, a, _, HF.out, rfl, ?_⟩⟩
      · exact qsetRule_below2 HT
      · rw [HN.out]
        exact ⟨_, _, rfl, RowIn.keep HV.out.1 (by simp; exact HSZ3.out) (fun k ek hk => ⟨by have h9 : w1.heap.size ≤ k := ek; omega, (setQ3_off (by have h9 : w1.heap.size ≤ k := ek; omega)).trans (HV3.out k (by have h9 : w1.heap.size ≤ k := ek; have := HRq.out.lt; omega) hk)⟩), RowIn.keep HV.out.2 (by simp; exact HSZ3.out) (fun k ek hk => ⟨by have h9 : w1.heap.size ≤ k := ek; omega, (setQ3_off (by have h9 : w1.heap.size ≤ k := ek; omega)).trans (HV3.out k (by have h9 : w1.heap.size ≤ k := ek; have := HRq.out.lt; omega) hk)⟩)⟩
  · have HT := HB.out
    have HS := Lib.hid (And.intro hs hn)
    clear hs hn hbs
    go_wp2_with fail
    obtain ⟨p2, -⟩ := cellsQ3 (rowQ3_set (y0 := .string ⟨#[]⟩) (y1 := .slice none 0 0) (y2 := .slice none 0 0) HR1.out)
    refine bodyPost_ret (v := .tuple #[.agg #[.string ⟨#[]⟩, .slice none 0 0, .slice none 0 0], .int .i64 n, .int .i64 120]) (by simp [results, Tryz.results12, go_sem, p2]) rfl ⟨?_, .inr (.inr (.inl ⟨HS.out.1, n, sayOf_lex HS.out.2, rfl⟩))⟩
    exact qsetRule_below2 HT
  · have HT := HB.out
    clear hbs
    go_wp2_with fail
    obtain ⟨p2, -⟩ := cellsQ3 (rowQ3_set (y0 := .string ⟨#[]⟩) (y1 := .slice none 0 0) (y2 := .slice none 0 0) HR1.out)
    refine bodyPost_ret (v := .tuple #[.agg #[.string ⟨#[]⟩, .slice none 0 0, .slice none 0 0], .int .i64 0, .int .i64 2]) (by simp [results, Tryz.results12, go_sem, p2]) rfl ⟨?_, .inr (.inr (.inr ⟨hl, rfl⟩))⟩
    exact qsetRule_below2 HT
set_option maxRecDepth 100000 in
set_option maxHeartbeats 4000000 in
theorem qAtom_any (s : ByteArray) (w : World) : Calls Tryz.prog 14 #[.string s] w (SayEnd atomR aqT (.agg #[.string ⟨#[]⟩, .slice none 0 0]) s w) := by
  go_enter Tryz.func14, Tryz.ntmps14
  go_wp2_with fail
  refine (qopen_any s (w.alloc (.cells #[.string ⟨#[]⟩, .slice none 0 0] 38 (0, 0)))).mono ?_
  rintro y w1 ⟨hb, hways⟩
  have hz : w.heap.size < w1.heap.size := by have := hb.size; simp at this; omega
  have r1 : w1.heap[w.heap.size]? = some (.cells #[.string ⟨#[]⟩, .slice none 0 0] 38 (0, 0)) := (hb.block w.heap.size (by simp)).trans (heap_alloc_new w _)
  have HB : Hid (Below w.heap.size w w1) := Lib.hid (((Below.refl _ w).alloc (Nat.le_refl _) _).trans (hb.mono (by simp)))
  have hbs : ∀ b, (w.alloc (.cells #[.string ⟨#[]⟩, .slice none 0 0] 38 (0, 0))).heap.size ≤ b → w.heap.size < b := fun b h => by simp at h; omega
  obtain ⟨⟨d0, d1⟩, f0, f1⟩ := cells2 r1
  have HR1 := Lib.hid r1
  clear hb r1
  rcases hways with ⟨hs, hn, b, rfl, hbb, hr⟩ | ⟨hs, n, hn, rfl⟩ | ⟨hl, rfl⟩
  · have hb0 := hbs b hbb
    have HS := Lib.hid (And.intro hs hn)
    have HRq := Lib.hid hr
    clear hs hn hr hbb hbs
    go_wp2_with fail
    refine (qatom_any HRq.out).mono ?_
    rintro y w2 ⟨ht, a, s', v, ha, rfl, hv, hr⟩
    obtain ⟨u1, rfl, h1⟩ := hv
    obtain ⟨q0, m0, k0, rfl⟩ : ∃ q n k, u1 = .slice q n k := (by obtain ⟨q, k, e⟩ := RowIn.shapeQ h1; exact ⟨_, _, _, e⟩)
    obtain ⟨nm, hnm⟩ : ∃ nm : ByteArray, nm = ⟨a.pred.toArray⟩ := ⟨_, rfl⟩
    rw [← hnm]
    have HV := Lib.hid h1
    have HN := Lib.hid hnm
    have r2 : w2.heap[w.heap.size]? = some (.cells #[.string ⟨#[]⟩, .slice none 0 0] 38 (0, 0)) := (ht.block _ hz (by omega)).trans HR1.out
    have HT2 := Lib.hid (show Below w.heap.size w w2 from HB.out.trans (ht.below (Nat.le_of_lt hz) fun k e => by omega))
    obtain ⟨bx, hbx⟩ : ∃ bx, bx = w2.heap.size := ⟨_, rfl⟩
    have hbx1 : w.heap.size < bx := by have := ht.size; omega
    have hbx2 : b < bx := by have := hr.lt; omega
    have HSay := Lib.hid (say_close HS.out.2 ha)
    have HR2 := Lib.hid (And.intro (hr.alloc (.cells #[.string nm, .slice q0 m0 k0] 38)) (And.intro ((Below.heap_alloc (w := w2) (.cells #[.string nm, .slice q0 m0 k0] 38) _ (by omega)).trans r2) (heap_alloc_new w2 (.cells #[.string nm, .slice q0 m0 k0] 38))))
    clear ht ha hr r2 hnm h1
    go_wp2_with fail
    rw [← hbx]
    have HBx := Lib.hid hbx
    clear hbx
    refine (qend_any HR2.out.1).mono ?_
    rintro y w3 ⟨rfl, ht, hr⟩
    have r3 : w3.heap[w.heap.size]? = some (.cells #[.string ⟨#[]⟩, .slice none 0 0] 38 (0, 0)) := (ht.block _ (by have := HBx.out; simp; omega) (by omega)).trans HR2.out.2.1
    have x3 : w3.heap[bx]? = some (.cells #[.string nm, .slice q0 m0 k0] 38 (0, 0)) := (ht.block _ (by have := HBx.out; simp; omega) (by omega)).trans (by rw [HBx.out]; exact HR2.out.2.2)
    have HT3 := Lib.hid (show Below w.heap.size w w3 from (HT2.out.alloc HT2.out.size _).trans (ht.below (by have := HT2.out.size; simp; omega) fun k e => by omega))
    have HV3 := Lib.hid (show ∀ k, b < k → k < w2.heap.size → w3.heap[k]? = w2.heap[k]? from fun k k1 k2 => (ht.block k (by simp; omega) (by omega)).trans (Below.heap_alloc _ _ _ k2))
    have HSZ3 := Lib.hid (show w2.heap.size ≤ w3.heap.size by have := ht.size; simp at this; omega)
    have HQ3 := Lib.hid (And.intro r3 x3)
    obtain ⟨⟨y0, y1⟩, g0, g1⟩ := cells2 r3
    obtain ⟨⟨e0, e1⟩, -⟩ := cells2 x3
    obtain ⟨vr, hrow, -⟩ := hr.row
    obtain ⟨c0, c1, c2, c3, c4⟩ := hrow.cells
    obtain ⟨sq, hsq⟩ : ∃ sq, sq = s'.close (lexS valL s.data.toList 0).1 s.size := ⟨_, rfl⟩
    rw [← hsq] at c1 c3 c4 HSay
    have hlt3 := hr.lt
    have hsz3 : w.heap.size < w3.heap.size := by have := HT3.out.size; omega
    clear hr hrow ht r3 x3 hsq c1
    cases hbad : sq.bad with
    | true =>
      rw [hbad] at c3
      have HF := Lib.hid (HSay.out.2 hbad)
      clear hbad
      go_wp2_with fail
      go_region
      all_goals
        go_wp2_with fail
        have HT := HT3.out
        obtain ⟨p2, -⟩ := cells2 (row2_set (u' := .string ⟨#[]⟩) (v' := .slice none 0 0) HQ3.out.1)
        refine bodyPost_ret (v := .tuple #[.agg #[.string ⟨#[]⟩, .slice none 0 0], .int .i64 sq.q, .int .i64 130]) (by simp [results, Tryz.results14, go_sem, p2]) rfl ⟨?_, .inr (.inl ⟨HS.out.1, sq.q, HF.out, rfl⟩)⟩
        exact qsetAtom_below HT
    | false =>
      rw [hbad] at c3
      have HF := Lib.hid (HSay.out.1 hbad)
      clear hbad
      go_wp2_with fail
      have HT := HT3.out
      obtain ⟨p2, -⟩ := cells2 (row2_set (u' := .string nm) (v' := .slice q0 m0 k0) HQ3.out.1)
      refine bodyPost_ret (v := .tuple #[.agg #[.string nm, .slice q0 m0 k0], .int .i64 0, .int .i64 0]) (by simp [results, Tryz.results14, go_sem, p2]) rfl ⟨?_, .inl ⟨HS.out.1, a, _, HF.out, rfl, ?_⟩⟩
      · exact qsetAtom_below2 HT
      · rw [HN.out]
        exact ⟨_, rfl, RowIn.keep HV.out (by simp; exact HSZ3.out) (fun k ek hk => ⟨by have h9 : w1.heap.size ≤ k := ek; omega, (setQ2_off (by have h9 : w1.heap.size ≤ k := ek; omega)).trans (HV3.out k (by have h9 : w1.heap.size ≤ k := ek; have := HRq.out.lt; omega) hk)⟩)⟩
  · have HT := HB.out
    have HS := Lib.hid (And.intro hs hn)
    clear hs hn hbs
    go_wp2_with fail
    obtain ⟨p2, -⟩ := cells2 (row2_set (u' := .string ⟨#[]⟩) (v' := .slice none 0 0) HR1.out)
    refine bodyPost_ret (v := .tuple #[.agg #[.string ⟨#[]⟩, .slice none 0 0], .int .i64 n, .int .i64 120]) (by simp [results, Tryz.results14, go_sem, p2]) rfl ⟨?_, .inr (.inr (.inl ⟨HS.out.1, n, sayOf_lex HS.out.2, rfl⟩))⟩
    exact qsetAtom_below2 HT
  · have HT := HB.out
    clear hbs
    go_wp2_with fail
    obtain ⟨p2, -⟩ := cells2 (row2_set (u' := .string ⟨#[]⟩) (v' := .slice none 0 0) HR1.out)
    refine bodyPost_ret (v := .tuple #[.agg #[.string ⟨#[]⟩, .slice none 0 0], .int .i64 0, .int .i64 2]) (by simp [results, Tryz.results14, go_sem, p2]) rfl ⟨?_, .inr (.inr (.inr ⟨hl, rfl⟩))⟩
    exact qsetAtom_below2 HT
end
section
open Go Go.RowKit Go.Shelf

/-- What the loop of a program keeps in memory: three rows beside one another. -/
structure PgQ (n b e : Nat) (L : List Wd) (W : World) (cs : List ClL) (vd vo vr : Value) (Zd Zo Zr : Nat → Prop) (s : Qs) (w : World) : Prop where
  box : w.heap[W.heap.size]? = some (.cells #[vd, vo, vr] 27 (0, 0))
  d : RowZ deY 67 Zd w vd (ofCs cs).decls
  o : RowZ onY 72 Zo w vo (ofCs cs).ons
  r : RowZ ruY 41 Zr w vr (ofCs cs).rules
  zd : ∀ k, Zd k → W.heap.size + 1 ≤ k ∧ k < w.heap.size
  zo : ∀ k, Zo k → W.heap.size + 1 ≤ k ∧ k < w.heap.size
  zr : ∀ k, Zr k → W.heap.size + 1 ≤ k ∧ k < w.heap.size
  dor : (∀ k, Zd k → ¬ Zo k) ∧ (∀ k, Zd k → ¬ Zr k) ∧ ∀ k, Zo k → ¬ Zr k
  rd : Rq n w b L e s
  only : Only W.heap.size b W w
  szk : W.heap.size + 1 ≤ w.heap.size
  lt : b < W.heap.size
  nW : n ≤ W.heap.size
theorem PgQ.step_d {n b e : Nat} {W w w3 w5 : World} {L : List Wd} {s s1 : Qs} {cs : List ClL} {vd vo vr v' : Value} {Zd Zo Zr : Nat → Prop} {a : DeL} {us : List Value} (h : PgQ n b e L W cs vd vo vr Zd Zo Zr s w) (hnW_ : n ≤ W.heap.size)
    (ht : Turned (fun k => k = b) w w3) (hrd : Rq n w3 b L e s1)
    (hr5 : RowZ deY 67 (fun k => Zd k ∨ (w.heap.size ≤ k ∧ k < w3.heap.size) ∨ k = (w3.alloc (.cells us.toArray 67)).heap.size) w5 v' ((ofCs cs).decls ++ [a])) (hg : (w3.alloc (.cells us.toArray 67)).grownBy w5 vd.ownBlock) :
    PgQ n b e L W (cs ++ [.decl a]) v' vo vr (fun k => Zd k ∨ (w.heap.size ≤ k ∧ k < w5.heap.size)) Zo Zr s1 (w5.setCell ⟨W.heap.size, 0, none⟩ v') := by
  have htg := Turned.of_grown hg
  have hsz3 := ht.size
  have hsz4 : (w3.alloc (.cells us.toArray 67)).heap.size = w3.heap.size + 1 := by simp
  have hsz5 := htg.size
  have hszk := h.szk
  have hlt := h.lt
  have hown : ∀ k, vd.ownBlock = some k → W.heap.size + 1 ≤ k := fun k e => (h.zd k (h.d.lt k e).1).1
  have hkeep5 : ∀ k, k < w.heap.size → ¬ vd.ownBlock = some k → k ≠ b → w5.heap[k]? = w.heap[k]? := fun k hk e1 e2 => (htg.block k (by omega) e1).trans ((Below.heap_alloc _ _ _ (by omega)).trans (ht.block k hk e2))
  have hkeep : ∀ k, k < w.heap.size → ¬ vd.ownBlock = some k → k ≠ b → k ≠ W.heap.size → (w5.setCell ⟨W.heap.size, 0, none⟩ v').heap[k]? = w.heap[k]? := fun k hk e1 e2 e3 => (heap_setCell_other w5 ⟨W.heap.size, 0, none⟩ k _ e3).trans (hkeep5 k hk e1 e2)
  have hs56 : w.heap.size ≤ (w5.setCell ⟨W.heap.size, 0, none⟩ v').heap.size := by simp; omega
  have hset : ∀ k, k ≠ W.heap.size → (w5.setCell ⟨W.heap.size, 0, none⟩ v').heap[k]? = w5.heap[k]? := fun k e3 => heap_setCell_other w5 ⟨W.heap.size, 0, none⟩ k _ e3
  have hbox := heap_setCell_same w5 (W.heap.size) 0 _ _ v' ((hkeep5 _ (by omega) (fun e => by have := hown _ e; omega) (by omega)).trans h.box)
  have hof : (ofCs (cs ++ [.decl a])).decls = (ofCs cs).decls ++ [a] := by simp [ofCs, ClL.decl?]
  have hofo : (ofCs (cs ++ [.decl a])).ons = (ofCs cs).ons := by simp [ofCs, ClL.on?]
  have hofr : (ofCs (cs ++ [.decl a])).rules = (ofCs cs).rules := by simp [ofCs, ClL.rule?]
  have hRd : RowZ deY 67 (fun k => Zd k ∨ (w.heap.size ≤ k ∧ k < w5.heap.size)) (w5.setCell ⟨W.heap.size, 0, none⟩ v') v' (ofCs (cs ++ [.decl a])).decls := by
    rw [hof]
    refine hr5.keep (by simp) fun k e hk => ⟨?_, hset k ?_⟩
    · rcases e with e | e | e
      · exact .inl e
      · exact .inr ⟨e.1, hk⟩
      · exact .inr ⟨by omega, hk⟩
    · rcases e with e | e | e
      · have := (h.zd k e).1; omega
      · omega
      · omega
  have hZd : ∀ k, (fun k => Zd k ∨ (w.heap.size ≤ k ∧ k < w5.heap.size)) k → W.heap.size + 1 ≤ k ∧ k < (w5.setCell ⟨W.heap.size, 0, none⟩ v').heap.size := fun k e => by
    rcases e with e | e
    · have := h.zd k e; simp; omega
    · simp; omega
  have hRo : RowZ onY 72 Zo (w5.setCell ⟨W.heap.size, 0, none⟩ v') vo (ofCs (cs ++ [.decl a])).ons := by
    rw [hofo]
    exact h.o.keep hs56 fun k e hk => ⟨e, hkeep k hk (fun e2 => h.dor.1 k (h.d.lt k e2).1 e) (by have := (h.zo k e).1; have := h.lt; omega) (by have := (h.zo k e).1; omega)⟩
  have hZo : ∀ k, Zo k → W.heap.size + 1 ≤ k ∧ k < (w5.setCell ⟨W.heap.size, 0, none⟩ v').heap.size := fun k e => by have := h.zo k e; simp; omega
  have hRr : RowZ ruY 41 Zr (w5.setCell ⟨W.heap.size, 0, none⟩ v') vr (ofCs (cs ++ [.decl a])).rules := by
    rw [hofr]
    exact h.r.keep hs56 fun k e hk => ⟨e, hkeep k hk (fun e2 => h.dor.2.1 k (h.d.lt k e2).1 e) (by have := (h.zr k e).1; have := h.lt; omega) (by have := (h.zr k e).1; omega)⟩
  have hZr : ∀ k, Zr k → W.heap.size + 1 ≤ k ∧ k < (w5.setCell ⟨W.heap.size, 0, none⟩ v').heap.size := fun k e => by have := h.zr k e; simp; omega
  have hDdo : ∀ k, (fun k => Zd k ∨ (w.heap.size ≤ k ∧ k < w5.heap.size)) k → ¬ Zo k := fun k e e2 => by
    rcases e with e | e
    · exact h.dor.1 k e e2
    · have := (h.zo k e2).2; omega
  have hDdr : ∀ k, (fun k => Zd k ∨ (w.heap.size ≤ k ∧ k < w5.heap.size)) k → ¬ Zr k := fun k e e2 => by
    rcases e with e | e
    · exact h.dor.2.1 k e e2
    · have := (h.zr k e2).2; omega
  have hDor : ∀ k, Zo k → ¬ Zr k := h.dor.2.2
  refine ⟨hbox, hRd, hRo, hRr, hZd, hZo, hZr, ⟨hDdo, hDdr, hDor⟩, ((hrd.alloc _).turned htg fun k e => by have := hown k e; omega).set (by omega) _ _, (((h.only.on ht).alloc _).call htg fun k e => .inr (by have := hown k e; omega)).set (by omega) _ _, by simp; omega, hlt, hnW_⟩
theorem PgQ.step_o {n b e : Nat} {W w w3 w5 : World} {L : List Wd} {s s1 : Qs} {cs : List ClL} {vd vo vr v' : Value} {Zd Zo Zr : Nat → Prop} {a : OnL} {us : List Value} (h : PgQ n b e L W cs vd vo vr Zd Zo Zr s w) (hnW_ : n ≤ W.heap.size)
    (ht : Turned (fun k => k = b) w w3) (hrd : Rq n w3 b L e s1)
    (hr5 : RowZ onY 72 (fun k => Zo k ∨ (w.heap.size ≤ k ∧ k < w3.heap.size) ∨ k = (w3.alloc (.cells us.toArray 72)).heap.size) w5 v' ((ofCs cs).ons ++ [a])) (hg : (w3.alloc (.cells us.toArray 72)).grownBy w5 vo.ownBlock) :
    PgQ n b e L W (cs ++ [.on a]) vd v' vr Zd (fun k => Zo k ∨ (w.heap.size ≤ k ∧ k < w5.heap.size)) Zr s1 (w5.setCell ⟨W.heap.size, 1, none⟩ v') := by
  have htg := Turned.of_grown hg
  have hsz3 := ht.size
  have hsz4 : (w3.alloc (.cells us.toArray 72)).heap.size = w3.heap.size + 1 := by simp
  have hsz5 := htg.size
  have hszk := h.szk
  have hlt := h.lt
  have hown : ∀ k, vo.ownBlock = some k → W.heap.size + 1 ≤ k := fun k e => (h.zo k (h.o.lt k e).1).1
  have hkeep5 : ∀ k, k < w.heap.size → ¬ vo.ownBlock = some k → k ≠ b → w5.heap[k]? = w.heap[k]? := fun k hk e1 e2 => (htg.block k (by omega) e1).trans ((Below.heap_alloc _ _ _ (by omega)).trans (ht.block k hk e2))
  have hkeep : ∀ k, k < w.heap.size → ¬ vo.ownBlock = some k → k ≠ b → k ≠ W.heap.size → (w5.setCell ⟨W.heap.size, 1, none⟩ v').heap[k]? = w.heap[k]? := fun k hk e1 e2 e3 => (heap_setCell_other w5 ⟨W.heap.size, 1, none⟩ k _ e3).trans (hkeep5 k hk e1 e2)
  have hs56 : w.heap.size ≤ (w5.setCell ⟨W.heap.size, 1, none⟩ v').heap.size := by simp; omega
  have hset : ∀ k, k ≠ W.heap.size → (w5.setCell ⟨W.heap.size, 1, none⟩ v').heap[k]? = w5.heap[k]? := fun k e3 => heap_setCell_other w5 ⟨W.heap.size, 1, none⟩ k _ e3
  have hbox := heap_setCell_same w5 (W.heap.size) 1 _ _ v' ((hkeep5 _ (by omega) (fun e => by have := hown _ e; omega) (by omega)).trans h.box)
  have hof : (ofCs (cs ++ [.on a])).ons = (ofCs cs).ons ++ [a] := by simp [ofCs, ClL.on?]
  have hofd : (ofCs (cs ++ [.on a])).decls = (ofCs cs).decls := by simp [ofCs, ClL.decl?]
  have hofr : (ofCs (cs ++ [.on a])).rules = (ofCs cs).rules := by simp [ofCs, ClL.rule?]
  have hRd : RowZ deY 67 Zd (w5.setCell ⟨W.heap.size, 1, none⟩ v') vd (ofCs (cs ++ [.on a])).decls := by
    rw [hofd]
    exact h.d.keep hs56 fun k e hk => ⟨e, hkeep k hk (fun e2 => h.dor.1 k e (h.o.lt k e2).1) (by have := (h.zd k e).1; have := h.lt; omega) (by have := (h.zd k e).1; omega)⟩
  have hZd : ∀ k, Zd k → W.heap.size + 1 ≤ k ∧ k < (w5.setCell ⟨W.heap.size, 1, none⟩ v').heap.size := fun k e => by have := h.zd k e; simp; omega
  have hRo : RowZ onY 72 (fun k => Zo k ∨ (w.heap.size ≤ k ∧ k < w5.heap.size)) (w5.setCell ⟨W.heap.size, 1, none⟩ v') v' (ofCs (cs ++ [.on a])).ons := by
    rw [hof]
    refine hr5.keep (by simp) fun k e hk => ⟨?_, hset k ?_⟩
    · rcases e with e | e | e
      · exact .inl e
      · exact .inr ⟨e.1, hk⟩
      · exact .inr ⟨by omega, hk⟩
    · rcases e with e | e | e
      · have := (h.zo k e).1; omega
      · omega
      · omega
  have hZo : ∀ k, (fun k => Zo k ∨ (w.heap.size ≤ k ∧ k < w5.heap.size)) k → W.heap.size + 1 ≤ k ∧ k < (w5.setCell ⟨W.heap.size, 1, none⟩ v').heap.size := fun k e => by
    rcases e with e | e
    · have := h.zo k e; simp; omega
    · simp; omega
  have hRr : RowZ ruY 41 Zr (w5.setCell ⟨W.heap.size, 1, none⟩ v') vr (ofCs (cs ++ [.on a])).rules := by
    rw [hofr]
    exact h.r.keep hs56 fun k e hk => ⟨e, hkeep k hk (fun e2 => h.dor.2.2 k (h.o.lt k e2).1 e) (by have := (h.zr k e).1; have := h.lt; omega) (by have := (h.zr k e).1; omega)⟩
  have hZr : ∀ k, Zr k → W.heap.size + 1 ≤ k ∧ k < (w5.setCell ⟨W.heap.size, 1, none⟩ v').heap.size := fun k e => by have := h.zr k e; simp; omega
  have hDdo : ∀ k, Zd k → ¬ (fun k => Zo k ∨ (w.heap.size ≤ k ∧ k < w5.heap.size)) k := fun k e e2 => by
    rcases e2 with e2 | e2
    · exact h.dor.1 k e e2
    · have := (h.zd k e).2; omega
  have hDdr : ∀ k, Zd k → ¬ Zr k := h.dor.2.1
  have hDor : ∀ k, (fun k => Zo k ∨ (w.heap.size ≤ k ∧ k < w5.heap.size)) k → ¬ Zr k := fun k e e2 => by
    rcases e with e | e
    · exact h.dor.2.2 k e e2
    · have := (h.zr k e2).2; omega
  refine ⟨hbox, hRd, hRo, hRr, hZd, hZo, hZr, ⟨hDdo, hDdr, hDor⟩, ((hrd.alloc _).turned htg fun k e => by have := hown k e; omega).set (by omega) _ _, (((h.only.on ht).alloc _).call htg fun k e => .inr (by have := hown k e; omega)).set (by omega) _ _, by simp; omega, hlt, hnW_⟩
theorem PgQ.step_r {n b e : Nat} {W w w3 w5 : World} {L : List Wd} {s s1 : Qs} {cs : List ClL} {vd vo vr v' : Value} {Zd Zo Zr : Nat → Prop} {a : RuL} {us : List Value} (h : PgQ n b e L W cs vd vo vr Zd Zo Zr s w) (hnW_ : n ≤ W.heap.size)
    (ht : Turned (fun k => k = b) w w3) (hrd : Rq n w3 b L e s1)
    (hr5 : RowZ ruY 41 (fun k => Zr k ∨ (w.heap.size ≤ k ∧ k < w3.heap.size) ∨ k = (w3.alloc (.cells us.toArray 41)).heap.size) w5 v' ((ofCs cs).rules ++ [a])) (hg : (w3.alloc (.cells us.toArray 41)).grownBy w5 vr.ownBlock) :
    PgQ n b e L W (cs ++ [.rule a]) vd vo v' Zd Zo (fun k => Zr k ∨ (w.heap.size ≤ k ∧ k < w5.heap.size)) s1 (w5.setCell ⟨W.heap.size, 2, none⟩ v') := by
  have htg := Turned.of_grown hg
  have hsz3 := ht.size
  have hsz4 : (w3.alloc (.cells us.toArray 41)).heap.size = w3.heap.size + 1 := by simp
  have hsz5 := htg.size
  have hszk := h.szk
  have hlt := h.lt
  have hown : ∀ k, vr.ownBlock = some k → W.heap.size + 1 ≤ k := fun k e => (h.zr k (h.r.lt k e).1).1
  have hkeep5 : ∀ k, k < w.heap.size → ¬ vr.ownBlock = some k → k ≠ b → w5.heap[k]? = w.heap[k]? := fun k hk e1 e2 => (htg.block k (by omega) e1).trans ((Below.heap_alloc _ _ _ (by omega)).trans (ht.block k hk e2))
  have hkeep : ∀ k, k < w.heap.size → ¬ vr.ownBlock = some k → k ≠ b → k ≠ W.heap.size → (w5.setCell ⟨W.heap.size, 2, none⟩ v').heap[k]? = w.heap[k]? := fun k hk e1 e2 e3 => (heap_setCell_other w5 ⟨W.heap.size, 2, none⟩ k _ e3).trans (hkeep5 k hk e1 e2)
  have hs56 : w.heap.size ≤ (w5.setCell ⟨W.heap.size, 2, none⟩ v').heap.size := by simp; omega
  have hset : ∀ k, k ≠ W.heap.size → (w5.setCell ⟨W.heap.size, 2, none⟩ v').heap[k]? = w5.heap[k]? := fun k e3 => heap_setCell_other w5 ⟨W.heap.size, 2, none⟩ k _ e3
  have hbox := heap_setCell_same w5 (W.heap.size) 2 _ _ v' ((hkeep5 _ (by omega) (fun e => by have := hown _ e; omega) (by omega)).trans h.box)
  have hof : (ofCs (cs ++ [.rule a])).rules = (ofCs cs).rules ++ [a] := by simp [ofCs, ClL.rule?]
  have hofd : (ofCs (cs ++ [.rule a])).decls = (ofCs cs).decls := by simp [ofCs, ClL.decl?]
  have hofo : (ofCs (cs ++ [.rule a])).ons = (ofCs cs).ons := by simp [ofCs, ClL.on?]
  have hRd : RowZ deY 67 Zd (w5.setCell ⟨W.heap.size, 2, none⟩ v') vd (ofCs (cs ++ [.rule a])).decls := by
    rw [hofd]
    exact h.d.keep hs56 fun k e hk => ⟨e, hkeep k hk (fun e2 => h.dor.2.1 k e (h.r.lt k e2).1) (by have := (h.zd k e).1; have := h.lt; omega) (by have := (h.zd k e).1; omega)⟩
  have hZd : ∀ k, Zd k → W.heap.size + 1 ≤ k ∧ k < (w5.setCell ⟨W.heap.size, 2, none⟩ v').heap.size := fun k e => by have := h.zd k e; simp; omega
  have hRo : RowZ onY 72 Zo (w5.setCell ⟨W.heap.size, 2, none⟩ v') vo (ofCs (cs ++ [.rule a])).ons := by
    rw [hofo]
    exact h.o.keep hs56 fun k e hk => ⟨e, hkeep k hk (fun e2 => h.dor.2.2 k e (h.r.lt k e2).1) (by have := (h.zo k e).1; have := h.lt; omega) (by have := (h.zo k e).1; omega)⟩
  have hZo : ∀ k, Zo k → W.heap.size + 1 ≤ k ∧ k < (w5.setCell ⟨W.heap.size, 2, none⟩ v').heap.size := fun k e => by have := h.zo k e; simp; omega
  have hRr : RowZ ruY 41 (fun k => Zr k ∨ (w.heap.size ≤ k ∧ k < w5.heap.size)) (w5.setCell ⟨W.heap.size, 2, none⟩ v') v' (ofCs (cs ++ [.rule a])).rules := by
    rw [hof]
    refine hr5.keep (by simp) fun k e hk => ⟨?_, hset k ?_⟩
    · rcases e with e | e | e
      · exact .inl e
      · exact .inr ⟨e.1, hk⟩
      · exact .inr ⟨by omega, hk⟩
    · rcases e with e | e | e
      · have := (h.zr k e).1; omega
      · omega
      · omega
  have hZr : ∀ k, (fun k => Zr k ∨ (w.heap.size ≤ k ∧ k < w5.heap.size)) k → W.heap.size + 1 ≤ k ∧ k < (w5.setCell ⟨W.heap.size, 2, none⟩ v').heap.size := fun k e => by
    rcases e with e | e
    · have := h.zr k e; simp; omega
    · simp; omega
  have hDdo : ∀ k, Zd k → ¬ Zo k := h.dor.1
  have hDdr : ∀ k, Zd k → ¬ (fun k => Zr k ∨ (w.heap.size ≤ k ∧ k < w5.heap.size)) k := fun k e e2 => by
    rcases e2 with e2 | e2
    · exact h.dor.2.1 k e e2
    · have := (h.zd k e).2; omega
  have hDor : ∀ k, Zo k → ¬ (fun k => Zr k ∨ (w.heap.size ≤ k ∧ k < w5.heap.size)) k := fun k e e2 => by
    rcases e2 with e2 | e2
    · exact h.dor.2.2 k e e2
    · have := (h.zo k e).2; omega
  refine ⟨hbox, hRd, hRo, hRr, hZd, hZo, hZr, ⟨hDdo, hDdr, hDor⟩, ((hrd.alloc _).turned htg fun k e => by have := hown k e; omega).set (by omega) _ _, (((h.only.on ht).alloc _).call htg fun k e => .inr (by have := hown k e; omega)).set (by omega) _ _, by simp; omega, hlt, hnW_⟩
theorem PgQ.on {n b e : Nat} {L : List Wd} {W : World} {cs : List ClL} {vd vo vr : Value} {Zd Zo Zr : Nat → Prop} {s s' : Qs} {w w' : World} (h : PgQ n b e L W cs vd vo vr Zd Zo Zr s w) (ht : Turned (fun k => k = b) w w') (hr : Rq n w' b L e s') : PgQ n b e L W cs vd vo vr Zd Zo Zr s' w' := by
  have h1 := h.lt
  have h2 := h.szk
  have hk : ∀ k, k < w.heap.size → k ≠ b → w'.heap[k]? = w.heap[k]? := fun k a c => ht.block k a c
  have hs := ht.size
  exact ⟨(hk _ (by omega) (by omega)).trans h.box, h.d.keep hs fun k e hq => ⟨e, hk k hq (by have := (h.zd k e).1; omega)⟩, h.o.keep hs fun k e hq => ⟨e, hk k hq (by have := (h.zo k e).1; omega)⟩, h.r.keep hs fun k e hq => ⟨e, hk k hq (by have := (h.zr k e).1; omega)⟩, fun k e => ⟨(h.zd k e).1, Nat.lt_of_lt_of_le (h.zd k e).2 hs⟩, fun k e => ⟨(h.zo k e).1, Nat.lt_of_lt_of_le (h.zo k e).2 hs⟩, fun k e => ⟨(h.zr k e).1, Nat.lt_of_lt_of_le (h.zr k e).2 hs⟩, h.dor, hr, h.only.on ht, by omega, h1, h.nW⟩
theorem PgQ.still {n b e : Nat} {L : List Wd} {W : World} {cs : List ClL} {vd vo vr : Value} {Zd Zo Zr : Nat → Prop} {s : Qs} {w w' : World} (h : PgQ n b e L W cs vd vo vr Zd Zo Zr s w) (hs : Still w w') : PgQ n b e L W cs vd vo vr Zd Zo Zr s w' := h.on (hs.turned _) (h.rd.still hs)
/-- One clause, and the others. -/
theorem Aft.prog_next {L : List Wd} {e : Nat} {s s1 s' : Qs} {c : ClL} {cs : List ClL} (hs : s.bad = false) (hi : s.i < L.length) (h : Aft clauseR L e s c s1) (g : Aft progR L e s1 cs s') : Aft progR L e s (c :: cs) s' := by
  have hne : keys (L.drop s.i) ≠ [] := by rw [dropK_at hi]; simp
  refine ⟨Nat.le_trans h.up g.up, g.le, fun h0 => (by rw [hs] at h0; cases h0), fun _ hs' => ?_, fun _ hs' => ?_⟩
  · have h1 : s1.bad = false := by
      cases h1 : s1.bad with
      | false => rfl
      | true => have := (g.bad h1).1; rw [hs'] at this; cases this
    rw [progR_eq hne, h.ok hs h1]
    simp only [Rs.bind]
    rw [g.ok h1 hs']
  · cases h1 : s1.bad with
    | true =>
      obtain ⟨j, j1, j2, j3⟩ := h.no hs h1
      exact ⟨j, j1, by rw [progR_eq hne, j2]; rfl, (g.bad h1).2.trans j3⟩
    | false =>
      obtain ⟨j, j1, j2, j3⟩ := g.no h1 hs'
      exact ⟨j, j1, by rw [progR_eq hne, h.ok hs h1]; simp only [Rs.bind]; rw [j2], j3⟩
theorem Aft.prog_end {L : List Wd} {e : Nat} {s : Qs} (hi : s.i = L.length) : Aft progR L e s [] s :=
  ⟨Nat.le_refl _, by omega, fun h => ⟨h, rfl⟩, fun _ _ => (by rw [List.drop_eq_nil_of_le (by omega)]; exact progR_nil), fun h h' => (by rw [h] at h'; cases h')⟩
/-- How much is left, told of the world. -/
def badW (w : World) (b : Nat) : Bool := match w.cell? ⟨b, 3, none⟩ with | some (.bool t) => t | _ => false
def mQ (N : Nat) (w : World) (b : Nat) : Nat := 2 * (N - atW w b) + (if badW w b = true then 0 else 1)
theorem mQ_eq {n b e N : Nat} {W : World} {L : List Wd} {s : Qs} (h : Rq n W b L e s) : mQ N W b = 2 * (N - s.i) + (if s.bad = true then 0 else 1) := by
  unfold mQ badW
  rw [h.atW, h.inc.2.2.1]
theorem Aft.eat {α : Type} {p : Rd α} {L : List Wd} {e : Nat} {s s1 : Qs} {a : α} (hp : Eats p) (h : Aft p L e s a s1) (hs : s.bad = false) (hs1 : s1.bad = false) : s.i < s1.i := by
  have h1 := hp _ _ _ (h.ok hs hs1)
  rw [keys_len, keys_len, List.length_drop, List.length_drop] at h1
  omega
theorem prog_len {L : List Wd} {e : Nat} {s s1 : Qs} {c : ClL} {cs : List ClL} (h : Aft clauseR L e s c s1) (hs : s.bad = false) (hl : cs.length ≤ s.i) : (cs ++ [c]).length ≤ s1.i + (if s1.bad = true then 1 else 0) := by
  have := h.up
  cases hb : s1.bad with
  | true => simp; omega
  | false =>
    have := h.eat fit_clause.eats hs hb
    simp
    omega
theorem prog_meas {L : List Wd} {e : Nat} {s s1 : Qs} {c : ClL} (h : Aft clauseR L e s c s1) (hs : s.bad = false) : 2 * (L.length - s1.i) + (if s1.bad = true then 0 else 1) < 2 * (L.length - s.i) + (if s.bad = true then 0 else 1) := by
  have := h.up
  have := h.le
  rw [hs]
  cases hb : s1.bad with
  | true => simp; omega
  | false =>
    have := h.eat fit_clause.eats hs hb
    simp
    omega
theorem say_aft {α : Type} {p : Rd α} {s : ByteArray} {a : α} {s' : Qs} {L : List Wd} {e : Nat} (hn : (lexS valL s.data.toList 0).2 = none) (hL : L = (lexS valL s.data.toList 0).1) (he : e = s.size) (h : Aft p L e ⟨0, false, 0⟩ a s') (hb : s'.bad = true) : sayOf valL p s.data.toList = .bad s'.q := by
  obtain ⟨j, j1, j2, j3⟩ := h.no rfl hb
  rw [j3]
  exact say_bad hn hL j2 (List.drop_suffix _ _) (he.trans (Lib.size_eq s))
theorem say_aft_ok {α : Type} {p : Rd α} {s : ByteArray} {a : α} {s' : Qs} {L : List Wd} {e : Nat} (hn : (lexS valL s.data.toList 0).2 = none) (hL : L = (lexS valL s.data.toList 0).1) (h : Aft p L e ⟨0, false, 0⟩ a s') (hb : s'.bad = false) (hi : s'.i = L.length) : sayOf valL p s.data.toList = .ok a := by
  have h1 := h.ok rfl hb
  have h2 : L.drop s'.i = [] := List.drop_eq_nil_of_le (by omega)
  rw [h2] at h1
  rcases say_ok hn hL (L' := []) (e := s.size) h1 (List.nil_suffix) (Lib.size_eq s) with ⟨-, h3⟩ | ⟨h3, -⟩
  · exact h3
  · exact absurd rfl h3
theorem isKT_wB : isKT 1 [98, 97, 115, 101] = isW wBase := isKT_w rfl
theorem isKT_wV : isKT 1 [118, 105, 101, 119] = isW wView := isKT_w rfl
theorem isKT_wO : isKT 1 [111, 110] = isW wOn := isKT_w rfl
set_option maxRecDepth 100000 in
set_option maxHeartbeats 16000000 in
theorem qProgram_any (s : ByteArray) (w : World) : Calls Tryz.prog 8 #[.string s] w (SayEnd progR prT (.agg #[.slice none 0 0, .slice none 0 0, .slice none 0 0]) s w) := by
  go_enter Tryz.func8, Tryz.ntmps8
  go_wp2_with fail
  refine (qopen_any s (w.alloc (.cells #[.slice none 0 0, .slice none 0 0, .slice none 0 0] 27 (0, 0)))).mono ?_
  rintro y w1 ⟨hb, hways⟩
  have hz : w.heap.size < w1.heap.size := by have := hb.size; simp at this; omega
  have r1 : w1.heap[w.heap.size]? = some (.cells #[.slice none 0 0, .slice none 0 0, .slice none 0 0] 27 (0, 0)) := (hb.block w.heap.size (by simp)).trans (heap_alloc_new w _)
  have HB1 : Hid (Below w.heap.size w w1) := Lib.hid (((Below.refl _ w).alloc (Nat.le_refl _) _).trans (hb.mono (by simp)))
  have hbs : ∀ b, (w.alloc (.cells #[.slice none 0 0, .slice none 0 0, .slice none 0 0] 27 (0, 0))).heap.size ≤ b → w.heap.size < b := fun b h => by simp at h; omega
  obtain ⟨⟨d0, d1, d2⟩, f0, f1, f2⟩ := cellsQ3 r1
  have HR1 := Lib.hid r1
  clear hb r1
  rcases hways with ⟨hs, hn, b, rfl, hbb, hr⟩ | ⟨hs, n, hn, rfl⟩ | ⟨hl, rfl⟩
  rotate_left
  · have HT := HB1.out
    have HS := Lib.hid (And.intro hs hn)
    clear hs hn hbs
    go_wp2_with fail
    obtain ⟨p2, -⟩ := cellsQ3 (rowQ3_set (y0 := .slice none 0 0) (y1 := .slice none 0 0) (y2 := .slice none 0 0) HR1.out)
    refine bodyPost_ret (v := .tuple #[.agg #[.slice none 0 0, .slice none 0 0, .slice none 0 0], .int .i64 n, .int .i64 120]) (by simp [results, Tryz.results8, go_sem, p2]) rfl ⟨?_, .inr (.inr (.inl ⟨HS.out.1, n, sayOf_lex HS.out.2, rfl⟩))⟩
    exact qsetRule_below2 HT
  · have HT := HB1.out
    clear hbs
    go_wp2_with fail
    obtain ⟨p2, -⟩ := cellsQ3 (rowQ3_set (y0 := .slice none 0 0) (y1 := .slice none 0 0) (y2 := .slice none 0 0) HR1.out)
    refine bodyPost_ret (v := .tuple #[.agg #[.slice none 0 0, .slice none 0 0, .slice none 0 0], .int .i64 0, .int .i64 2]) (by simp [results, Tryz.results8, go_sem, p2]) rfl ⟨?_, .inr (.inr (.inr ⟨hl, rfl⟩))⟩
    exact qsetRule_below2 HT
  have hb0 := hbs b hbb
  have HS := Lib.hid (And.intro hs hn)
  obtain ⟨L, hL⟩ : ∃ L, L = (lexS valL s.data.toList 0).1 := ⟨_, rfl⟩
  obtain ⟨e0, he0⟩ : ∃ e, e = s.size := ⟨_, rfl⟩
  obtain ⟨n0, hn0⟩ : ∃ n, n = w1.heap.size := ⟨_, rfl⟩
  have HL := Lib.hid (And.intro hL he0)
  have HN0 := Lib.hid hn0
  rw [← hL, ← he0, ← hn0] at hr
  have HJ0 : Hid (PgQ n0 b e0 L w1 [] (.slice none 0 0) (.slice none 0 0) (.slice none 0 0) (fun _ => False) (fun _ => False) (fun _ => False) ⟨0, false, 0⟩ (w1.alloc (.cells #[.slice none 0 0, .slice none 0 0, .slice none 0 0] 27 (0, 0))) ∧ (∀ cs' s', Aft progR L e0 ⟨0, false, 0⟩ cs' s' → Aft progR L e0 ⟨0, false, 0⟩ ([] ++ cs') s') ∧ ([] : List ClL).length ≤ 0) := Lib.hid ⟨⟨heap_alloc_new w1 _, RowZ.nil _ _ _ _, RowZ.nil _ _ _ _, RowZ.nil _ _ _ _, fun _ e => e.elim, fun _ e => e.elim, fun _ e => e.elim, ⟨fun _ e => e.elim, fun _ e => e.elim, fun _ e => e.elim⟩, hr.alloc _, (Only.refl b w1).alloc _, by simp, hr.lt, by omega⟩, fun _ _ h => h, Nat.le_refl _⟩
  clear hs hn hr hbb hbs hL he0 hn0 d0 d1 d2 f0 f1 f2
  go_wp2_with fail
  go_loopw [20] (fun _ wr => ∃ cs vd vo vr Zd Zo Zr s, Hid (PgQ n0 b e0 L w1 cs vd vo vr Zd Zo Zr s wr ∧ (∀ cs' s', Aft progR L e0 s cs' s' → Aft progR L e0 ⟨0, false, 0⟩ (cs ++ cs') s') ∧ cs.length ≤ s.i + (if s.bad = true then 1 else 0))) (fun _ wr => mQ L.length wr b)
  case atStart => exact ⟨_, _, _, _, _, _, _, _, Lib.hid ⟨HJ0.out.1, HJ0.out.2.1, Nat.le_trans HJ0.out.2.2 (Nat.zero_le _)⟩⟩
  case round =>
    clear HJ0
    obtain ⟨cs, vd, vo, vr, Zd, Zo, Zr, s1, HJ⟩ := hrel
    obtain ⟨s, hs0⟩ : ∃ s : Qs, s = s1 := ⟨_, rfl⟩
    rw [← hs0] at HJ
    clear hs0 s1
    have HB := Lib.hid HJ.out.1
    have HJe := Lib.hid HJ.out.2.1
    have HJl0 := Lib.hid HJ.out.2.2
    clear HJ
    have HMe := Lib.hid (mQ_eq (N := L.length) HB.out.rd)
    obtain ⟨vrow, hrow, hwin⟩ := HB.out.rd.row
    obtain ⟨c0, c1, c2, c3, c4⟩ := hrow.cells
    obtain ⟨pw, cw, rfl, -⟩ := hwin
    have HRes := Lib.hid (show wr.heap[w.heap.size]? = some (.cells #[.slice none 0 0, .slice none 0 0, .slice none 0 0] 27 (0, 0)) from (HB.out.only.block _ hz (by omega)).trans HR1.out)
    have HBl : Hid (Below w.heap.size w wr) := Lib.hid (HB1.out.trans ⟨HB.out.only.os, HB.out.only.tape, HB.out.only.output, HB.out.only.size, fun k hk => HB.out.only.block k (by omega) (by omega)⟩)
    clear hrow
    cases hbad : s.bad with
    | true =>
      rw [hbad] at c3
      have HF := Lib.hid (say_aft HS.out.2 HL.out.1 HL.out.2 (HJe.out [] s (Aft.stay HB.out.rd.le hbad [])) hbad)
      go_wp2_with fail
      go_quiet (fail)
      rename_i nq
      have HB := Lib.hid (HB.out.still (Still.drewN wr nq))
      have HRes := Lib.hid (show (wr.drewN nq).heap[w.heap.size]? = some (.cells #[.slice none 0 0, .slice none 0 0, .slice none 0 0] 27 (0, 0)) from HRes.out)
      have HBl : Hid (Below w.heap.size w (wr.drewN nq)) := Lib.hid (HBl.out.trans (by exact ((Still.drewN wr nq).below.mono HBl.out.size)))
      clear c0 c1 c2 c3 c4
      obtain ⟨⟨y0, y1, y2⟩, g0, g1, g2⟩ := cellsQ3 (show wr.heap[w.heap.size]? = some (.cells #[.slice none 0 0, .slice none 0 0, .slice none 0 0] 27 (0, 0)) from HRes.out)
      obtain ⟨vrw, hrow, -⟩ := HB.out.rd.row
      have hrow : RdAt wr b vrw s.i e0 s.bad s.q := hrow
      obtain ⟨q0, q1, q2, q3, q4⟩ := hrow.cells
      clear hrow
      have hltb : b < wr.heap.size := HB.out.rd.lt
      have hszr : w.heap.size < wr.heap.size := (Array.getElem?_eq_some_iff.1 HRes.out).1
      rw [hbad] at q3
      go_wp2_with fail
      go_region
      all_goals
        go_wp2_with fail
        obtain ⟨p2, -⟩ := cellsQ3 (rowQ3_set (y0 := .slice none 0 0) (y1 := .slice none 0 0) (y2 := .slice none 0 0) (show (wr.drewN (nq + 1)).heap[w.heap.size]? = some (.cells #[.slice none 0 0, .slice none 0 0, .slice none 0 0] 27 (0, 0)) from HRes.out))
        refine bodyPost_ret (v := .tuple #[.agg #[.slice none 0 0, .slice none 0 0, .slice none 0 0], .int .i64 s.q, .int .i64 130]) (by simp [results, Tryz.results8, go_sem, p2]) rfl ⟨?_, .inr (.inl ⟨HS.out.1, s.q, HF.out, rfl⟩)⟩
        exact qsetRule_below HBl.out

    | false =>
      have HBd := Lib.hid hbad
      have HJl := Lib.hid (show cs.length ≤ s.i by have := HJl0.out; rw [hbad] at this; simpa using this)
      rw [hbad] at c3
      clear hbad
      by_cases hlt : s.i < L.length
      · have HIl := Lib.hid hlt
        have hlt' : (s.i : Int) < (L.length : Int) := by omega
        clear hlt
        go_wp2_with fail
        go_quiet (fail)
        rename_i nq
        have HB6 := Lib.hid (HB.out.still (Still.drewN wr nq))
        clear c0 c1 c2 c3 c4
        go_wp2_with fail
        refine (qnext_any HB6.out.rd 1 [98, 97, 115, 101]).mono ?_
        rw [isKT_wB]
        rintro y w7 ⟨⟨hx, rfl⟩ | ⟨hx, rfl⟩, hs7, hr7⟩
        · have HX1 := Lib.hid hx
          have HB := Lib.hid (HB6.out.still hs7)
          clear hx hs7 hr7
          go_wp2_with fail
          obtain ⟨pX, nX, cX, hvX⟩ : ∃ p n c, vd = .slice p n c := (by obtain ⟨p, c, e⟩ := HB.out.d.slice; exact ⟨p, _, c, e⟩)
          subst hvX
          have HS0 := Lib.hid (show w7.drew.cell? ⟨w1.heap.size, 0, none⟩ = some (.slice pX nX cX) from cell_of_row w7 _ 0 _ _ (0, 0) HB.out.box)
          refine Till.begin (S := fun X => X.cell? ⟨w1.heap.size, 0, none⟩ = some (.slice pX nX cX)) (z := 5) (by kernel_rfl) ?_
          refine Till.takeY 0 47 (v := ?_) rfl rfl (by kernel_rfl) (by kernel_rfl) (by kernel_rfl) (by decide) (fun _ _ _ h => h) (by kernel_rfl) ?_ (fun _ => HS0.out) (by first | (simp only [put_norm]; exact rfl) | exact rfl) ?_
          rotate_left
          · rintro X0 -
            go_simp; try (with_reducible rfl)
          refine Till.takeY 2 49 (v := ?_) rfl rfl (by kernel_rfl) (by kernel_rfl) (by kernel_rfl) (by decide) (fun _ _ _ h => h) (by kernel_rfl) ?_ (fun _ => HS0.out) (by first | (simp only [put_norm]; exact rfl) | exact rfl) ?_
          rotate_left
          · rintro X0 -
            go_simp; try (with_reducible rfl)
          refine Till.take [5] 1 48 (v := ?_) rfl rfl (by kernel_rfl) (by kernel_rfl) (by kernel_rfl) (by kernel_rfl) (fun _ _ _ h => h) (by kernel_rfl) ?_ HS0.out (by first | (simp only [put_norm]; exact rfl) | exact rfl) ?_
          rotate_left
          · rintro X0 s0
            go_simp; try (with_reducible rfl)
          refine Till.one 3 (by kernel_rfl) rfl (fun K hK => ?_)
          go_simp
          go_at_call 25
          refine (qdecl_any HB.out.rd.drew HBd.out HIl.out true).mono ?_
          rintro y w3 ⟨ht, a, s1, va, ha, rfl, ⟨ua, rfl, hua⟩, hr⟩
          obtain ⟨pa, na, ca, rfl⟩ : ∃ p n c, ua = .slice p n c := (by obtain ⟨p, c, e⟩ := RowIn.shapeQ hua; exact ⟨p, _, c, e⟩)
          have HU := Lib.hid hua
          have HA : Hid (Aft clauseR L e0 s (.decl a) s1) := Lib.hid (Aft.alt_yes (ha.map fun d => ClL.decl d) HX1.out)
          have HT : Hid (Turned (fun k => k = b) w7 w3) := Lib.hid ⟨ht.os, ht.tape, ht.output, ht.size, ht.block⟩
          have HR3 := Lib.hid hr
          clear ht ha hr hua
          have hbx3 : w3.heap[w1.heap.size]? = some (.cells #[.slice pX nX cX, vo, vr] 27 (0, 0)) := (HT.out.block _ (by have := HB.out.szk; omega) (by have := HB.out.lt; omega)).trans HB.out.box
          have HS3 := Lib.hid (show w3.cell? ⟨w1.heap.size, 0, none⟩ = some (.slice pX nX cX) from cell_of_row w3 _ 0 _ _ (0, 0) hbx3)
          have HBx3 := Lib.hid hbx3
          clear hbx3
          go_simp
          refine hK.out _ _ (fun _ => HS3.out) ?_
          clear hK K
          try simp only [put_norm]
          refine Till.one 4 (by kernel_rfl) rfl (fun K hK => ?_)
          go_simp
          have HS4 := Lib.hid (show (w3.alloc (.cells #[.string ⟨a.name.toArray⟩, .bool a.base, .slice pa na ca] 67)).cell? ⟨w1.heap.size, 0, none⟩ = some (.slice pX nX cX) from (World.cell?_of_block (a := ⟨w1.heap.size, 0, none⟩) (Below.heap_alloc _ _ _ (Array.getElem?_eq_some_iff.1 HBx3.out).1)).trans HS3.out)
          have hown : ∀ k, (Value.slice pX nX cX).ownBlock = some k → k < w7.heap.size := fun k e => (HB.out.d.lt k e).2
          have HOw : Hid (RowZ deY 67 Zd (w3.alloc (.cells #[.string ⟨a.name.toArray⟩, .bool a.base, .slice pa na ca] 67)) (.slice pX nX cX) (ofCs cs).decls) := Lib.hid (HB.out.d.keep (by have := HT.out.size; simp; omega) fun k e hk => ⟨e, (Below.heap_alloc _ _ _ (Nat.lt_of_lt_of_le hk HT.out.size)).trans (HT.out.block k hk (by have := (HB.out.zd k e).1; have := HB.out.lt; omega))⟩)
          have HX3 : Hid (deY.is (fun k => w7.heap.size ≤ k ∧ k < w3.heap.size) (w3.alloc (.cells #[.string ⟨a.name.toArray⟩, .bool a.base, .slice pa na ca] 67)) [.string ⟨a.name.toArray⟩, .bool a.base, .slice pa na ca] a) := Lib.hid (⟨_, rfl, HU.out.keep (by simp) fun k e hk => ⟨⟨e, hk⟩, Below.heap_alloc _ _ _ hk⟩⟩)
          have hlenA : (ofCs cs).decls.length ≤ 1000000 := by have := HJl.out; have := HB.out.rd.le; have := HB.out.rd.len; have := ofCs_len cs; omega
          refine hK.out _ _ (fun _ => HS4.out) ?_
          clear hK K
          try simp only [put_norm]
          refine Till.one 5 (by kernel_rfl) rfl (fun K hK => ?_)
          refine step_appZ deY rfl (.tmp 48) (.tmp 51) 23 67 rfl Zd (fun k => w7.heap.size ≤ k ∧ k < w3.heap.size) (.agg #[.string ⟨#[]⟩, .bool false, .slice none 0 0]) 48 Tryz.underlying23 Tryz.infoDe rfl (by decide) (by decide) _ _ a [.string ⟨a.name.toArray⟩, .bool a.base, .slice pa na ca] w3.heap.size 1 rfl rfl HOw.out HX3.out (fun k e e2 => by have := hown k e2; omega) (lit_rowcells w3 [.string ⟨a.name.toArray⟩, .bool a.base, .slice pa na ca] _) hlenA ?_
          intro v2 w5 ho hg
          have HN := Lib.hid (HB.out.step_d HB.out.nW HT.out HR3.out ho hg)
          obtain ⟨p4, n4, c4, rfl⟩ : ∃ p l c, v2 = .slice p l c := (by obtain ⟨p, c, e⟩ := ho.slice; exact ⟨p, _, c, e⟩)
          have hbx5 : w5.heap[w1.heap.size]? = some (.cells #[.slice pX nX cX, vo, vr] 27 (0, 0)) := ((Turned.of_grown hg).block _ (by have := (Array.getElem?_eq_some_iff.1 HBx3.out).1; simp; omega) (fun e => by have := (HB.out.zd _ (HB.out.d.lt _ e).1).1; omega)).trans ((Below.heap_alloc _ _ _ (Array.getElem?_eq_some_iff.1 HBx3.out).1).trans HBx3.out)
          obtain ⟨⟨x0, x1, x2⟩, xf0, xf1, xf2⟩ := cellsQ3 hbx5
          clear ho hg hbx5
          refine hK.out _ _ (fun h => nomatch (show (true : Bool) = false from h)) ?_
          clear hK K
          try simp only [put_norm]
          refine Till.takeY 6 53 (v := ?_) rfl rfl (by kernel_rfl) (by kernel_rfl) (by kernel_rfl) (by decide) (fun _ _ _ h => h) (by kernel_rfl) ?_ (fun h => nomatch (show (true : Bool) = false from h)) (by first | (simp only [put_norm]; exact rfl) | exact rfl) ?_
          rotate_left
          · rintro X0 -
            go_simp; try (with_reducible rfl)
          refine Till.one 7 (by kernel_rfl) rfl (fun K hK => ?_)
          go_simp
          refine hK.out _ _ (fun h => nomatch (show (true : Bool) = false from h)) ?_
          clear hK K x0 x1 x2 xf0 xf1 xf2
          try simp only [put_norm]
          refine Till.done (by kernel_rfl) ?_ _
          go_wp2_with fail
          go_roundw
          case rel =>
            refine ⟨_, _, _, _, _, _, _, _, Lib.hid ⟨HN.out, fun cs' s' h => ?_, ?_⟩⟩
            · rw [List.append_assoc]
              exact HJe.out _ _ (Aft.prog_next HBd.out HIl.out HA.out h)
            · exact prog_len HA.out HBd.out HJl.out
          case measure =>
            rw [mQ_eq HN.out.rd, HMe.out]
            exact prog_meas HA.out HBd.out

        · have HX1 := Lib.hid hx
          have HB7 := Lib.hid (HB6.out.still hs7)
          clear hx hs7 hr7
          go_wp2_with fail
          refine (qnext_any HB7.out.rd 1 [118, 105, 101, 119]).mono ?_
          rw [isKT_wV]
          rintro y w8 ⟨⟨hx, rfl⟩ | ⟨hx, rfl⟩, hs8, hr8⟩
          · have HX2 := Lib.hid hx
            have HB := Lib.hid (HB7.out.still hs8)
            clear hx hs8 hr8
            go_wp2_with fail
            obtain ⟨pX, nX, cX, hvX⟩ : ∃ p n c, vd = .slice p n c := (by obtain ⟨p, c, e⟩ := HB.out.d.slice; exact ⟨p, _, c, e⟩)
            subst hvX
            have HS0 := Lib.hid (show w8.drew.cell? ⟨w1.heap.size, 0, none⟩ = some (.slice pX nX cX) from cell_of_row w8 _ 0 _ _ (0, 0) HB.out.box)
            refine Till.begin (S := fun X => X.cell? ⟨w1.heap.size, 0, none⟩ = some (.slice pX nX cX)) (z := 5) (by kernel_rfl) ?_
            refine Till.takeY 0 57 (v := ?_) rfl rfl (by kernel_rfl) (by kernel_rfl) (by kernel_rfl) (by decide) (fun _ _ _ h => h) (by kernel_rfl) ?_ (fun _ => HS0.out) (by first | (simp only [put_norm]; exact rfl) | exact rfl) ?_
            rotate_left
            · rintro X0 -
              go_simp; try (with_reducible rfl)
            refine Till.takeY 2 59 (v := ?_) rfl rfl (by kernel_rfl) (by kernel_rfl) (by kernel_rfl) (by decide) (fun _ _ _ h => h) (by kernel_rfl) ?_ (fun _ => HS0.out) (by first | (simp only [put_norm]; exact rfl) | exact rfl) ?_
            rotate_left
            · rintro X0 -
              go_simp; try (with_reducible rfl)
            refine Till.take [5] 1 58 (v := ?_) rfl rfl (by kernel_rfl) (by kernel_rfl) (by kernel_rfl) (by kernel_rfl) (fun _ _ _ h => h) (by kernel_rfl) ?_ HS0.out (by first | (simp only [put_norm]; exact rfl) | exact rfl) ?_
            rotate_left
            · rintro X0 s0
              go_simp; try (with_reducible rfl)
            refine Till.one 3 (by kernel_rfl) rfl (fun K hK => ?_)
            go_simp
            go_at_call 25
            refine (qdecl_any HB.out.rd.drew HBd.out HIl.out false).mono ?_
            rintro y w3 ⟨ht, a, s1, va, ha, rfl, ⟨ua, rfl, hua⟩, hr⟩
            obtain ⟨pa, na, ca, rfl⟩ : ∃ p n c, ua = .slice p n c := (by obtain ⟨p, c, e⟩ := RowIn.shapeQ hua; exact ⟨p, _, c, e⟩)
            have HU := Lib.hid hua
            have HA : Hid (Aft clauseR L e0 s (.decl a) s1) := Lib.hid (Aft.alt_no (Aft.alt_yes (ha.map fun d => ClL.decl d) HX2.out) HX1.out)
            have HT : Hid (Turned (fun k => k = b) w8 w3) := Lib.hid ⟨ht.os, ht.tape, ht.output, ht.size, ht.block⟩
            have HR3 := Lib.hid hr
            clear ht ha hr hua
            have hbx3 : w3.heap[w1.heap.size]? = some (.cells #[.slice pX nX cX, vo, vr] 27 (0, 0)) := (HT.out.block _ (by have := HB.out.szk; omega) (by have := HB.out.lt; omega)).trans HB.out.box
            have HS3 := Lib.hid (show w3.cell? ⟨w1.heap.size, 0, none⟩ = some (.slice pX nX cX) from cell_of_row w3 _ 0 _ _ (0, 0) hbx3)
            have HBx3 := Lib.hid hbx3
            clear hbx3
            go_simp
            refine hK.out _ _ (fun _ => HS3.out) ?_
            clear hK K
            try simp only [put_norm]
            refine Till.one 4 (by kernel_rfl) rfl (fun K hK => ?_)
            go_simp
            have HS4 := Lib.hid (show (w3.alloc (.cells #[.string ⟨a.name.toArray⟩, .bool a.base, .slice pa na ca] 67)).cell? ⟨w1.heap.size, 0, none⟩ = some (.slice pX nX cX) from (World.cell?_of_block (a := ⟨w1.heap.size, 0, none⟩) (Below.heap_alloc _ _ _ (Array.getElem?_eq_some_iff.1 HBx3.out).1)).trans HS3.out)
            have hown : ∀ k, (Value.slice pX nX cX).ownBlock = some k → k < w8.heap.size := fun k e => (HB.out.d.lt k e).2
            have HOw : Hid (RowZ deY 67 Zd (w3.alloc (.cells #[.string ⟨a.name.toArray⟩, .bool a.base, .slice pa na ca] 67)) (.slice pX nX cX) (ofCs cs).decls) := Lib.hid (HB.out.d.keep (by have := HT.out.size; simp; omega) fun k e hk => ⟨e, (Below.heap_alloc _ _ _ (Nat.lt_of_lt_of_le hk HT.out.size)).trans (HT.out.block k hk (by have := (HB.out.zd k e).1; have := HB.out.lt; omega))⟩)
            have HX3 : Hid (deY.is (fun k => w8.heap.size ≤ k ∧ k < w3.heap.size) (w3.alloc (.cells #[.string ⟨a.name.toArray⟩, .bool a.base, .slice pa na ca] 67)) [.string ⟨a.name.toArray⟩, .bool a.base, .slice pa na ca] a) := Lib.hid (⟨_, rfl, HU.out.keep (by simp) fun k e hk => ⟨⟨e, hk⟩, Below.heap_alloc _ _ _ hk⟩⟩)
            have hlenA : (ofCs cs).decls.length ≤ 1000000 := by have := HJl.out; have := HB.out.rd.le; have := HB.out.rd.len; have := ofCs_len cs; omega
            refine hK.out _ _ (fun _ => HS4.out) ?_
            clear hK K
            try simp only [put_norm]
            refine Till.one 5 (by kernel_rfl) rfl (fun K hK => ?_)
            refine step_appZ deY rfl (.tmp 58) (.tmp 61) 23 67 rfl Zd (fun k => w8.heap.size ≤ k ∧ k < w3.heap.size) (.agg #[.string ⟨#[]⟩, .bool false, .slice none 0 0]) 48 Tryz.underlying23 Tryz.infoDe rfl (by decide) (by decide) _ _ a [.string ⟨a.name.toArray⟩, .bool a.base, .slice pa na ca] w3.heap.size 1 rfl rfl HOw.out HX3.out (fun k e e2 => by have := hown k e2; omega) (lit_rowcells w3 [.string ⟨a.name.toArray⟩, .bool a.base, .slice pa na ca] _) hlenA ?_
            intro v2 w5 ho hg
            have HN := Lib.hid (HB.out.step_d HB.out.nW HT.out HR3.out ho hg)
            obtain ⟨p4, n4, c4, rfl⟩ : ∃ p l c, v2 = .slice p l c := (by obtain ⟨p, c, e⟩ := ho.slice; exact ⟨p, _, c, e⟩)
            have hbx5 : w5.heap[w1.heap.size]? = some (.cells #[.slice pX nX cX, vo, vr] 27 (0, 0)) := ((Turned.of_grown hg).block _ (by have := (Array.getElem?_eq_some_iff.1 HBx3.out).1; simp; omega) (fun e => by have := (HB.out.zd _ (HB.out.d.lt _ e).1).1; omega)).trans ((Below.heap_alloc _ _ _ (Array.getElem?_eq_some_iff.1 HBx3.out).1).trans HBx3.out)
            obtain ⟨⟨x0, x1, x2⟩, xf0, xf1, xf2⟩ := cellsQ3 hbx5
            clear ho hg hbx5
            refine hK.out _ _ (fun h => nomatch (show (true : Bool) = false from h)) ?_
            clear hK K
            try simp only [put_norm]
            refine Till.takeY 6 63 (v := ?_) rfl rfl (by kernel_rfl) (by kernel_rfl) (by kernel_rfl) (by decide) (fun _ _ _ h => h) (by kernel_rfl) ?_ (fun h => nomatch (show (true : Bool) = false from h)) (by first | (simp only [put_norm]; exact rfl) | exact rfl) ?_
            rotate_left
            · rintro X0 -
              go_simp; try (with_reducible rfl)
            refine Till.one 7 (by kernel_rfl) rfl (fun K hK => ?_)
            go_simp
            refine hK.out _ _ (fun h => nomatch (show (true : Bool) = false from h)) ?_
            clear hK K x0 x1 x2 xf0 xf1 xf2
            try simp only [put_norm]
            refine Till.done (by kernel_rfl) ?_ _
            go_wp2_with fail
            go_roundw
            case rel =>
              refine ⟨_, _, _, _, _, _, _, _, Lib.hid ⟨HN.out, fun cs' s' h => ?_, ?_⟩⟩
              · rw [List.append_assoc]
                exact HJe.out _ _ (Aft.prog_next HBd.out HIl.out HA.out h)
              · exact prog_len HA.out HBd.out HJl.out
            case measure =>
              rw [mQ_eq HN.out.rd, HMe.out]
              exact prog_meas HA.out HBd.out

          · have HX2 := Lib.hid hx
            have HB8 := Lib.hid (HB7.out.still hs8)
            clear hx hs8 hr8
            go_wp2_with fail
            refine (qnext_any HB8.out.rd 1 [111, 110]).mono ?_
            rw [isKT_wO]
            rintro y w9 ⟨⟨hx, rfl⟩ | ⟨hx, rfl⟩, hs9, hr9⟩
            · have HX3n := Lib.hid hx
              have HB := Lib.hid (HB8.out.still hs9)
              clear hx hs9 hr9
              go_wp2_with fail
              obtain ⟨pX, nX, cX, hvX⟩ : ∃ p n c, vo = .slice p n c := (by obtain ⟨p, c, e⟩ := HB.out.o.slice; exact ⟨p, _, c, e⟩)
              subst hvX
              have HS0 := Lib.hid (show w9.drew.cell? ⟨w1.heap.size, 1, none⟩ = some (.slice pX nX cX) from cell_of_row w9 _ 1 _ _ (0, 0) HB.out.box)
              refine Till.begin (S := fun X => X.cell? ⟨w1.heap.size, 1, none⟩ = some (.slice pX nX cX)) (z := 5) (by kernel_rfl) ?_
              refine Till.takeY 0 67 (v := ?_) rfl rfl (by kernel_rfl) (by kernel_rfl) (by kernel_rfl) (by decide) (fun _ _ _ h => h) (by kernel_rfl) ?_ (fun _ => HS0.out) (by first | (simp only [put_norm]; exact rfl) | exact rfl) ?_
              rotate_left
              · rintro X0 -
                go_simp; try (with_reducible rfl)
              refine Till.takeY 2 69 (v := ?_) rfl rfl (by kernel_rfl) (by kernel_rfl) (by kernel_rfl) (by decide) (fun _ _ _ h => h) (by kernel_rfl) ?_ (fun _ => HS0.out) (by first | (simp only [put_norm]; exact rfl) | exact rfl) ?_
              rotate_left
              · rintro X0 -
                go_simp; try (with_reducible rfl)
              refine Till.take [5] 1 68 (v := ?_) rfl rfl (by kernel_rfl) (by kernel_rfl) (by kernel_rfl) (by kernel_rfl) (fun _ _ _ h => h) (by kernel_rfl) ?_ HS0.out (by first | (simp only [put_norm]; exact rfl) | exact rfl) ?_
              rotate_left
              · rintro X0 s0
                go_simp; try (with_reducible rfl)
              refine Till.one 3 (by kernel_rfl) rfl (fun K hK => ?_)
              go_simp
              go_at_call 26
              refine (qon_any HB.out.rd.drew HBd.out HIl.out).mono ?_
              rintro y w3 ⟨ht, a, s1, va, ha, rfl, ⟨ua, ub, rfl, hua, hub⟩, hr⟩
              obtain ⟨pa, na, ca, rfl⟩ : ∃ p n c, ua = .slice p n c := (by obtain ⟨p, c, e⟩ := RowIn.shapeQ hua; exact ⟨p, _, c, e⟩)
              obtain ⟨pb, nb, cb, rfl⟩ : ∃ p n c, ub = .slice p n c := (by obtain ⟨p, c, e⟩ := RowIn.shapeQ hub; exact ⟨p, _, c, e⟩)
              have HU := Lib.hid (And.intro hua hub)
              have HA : Hid (Aft clauseR L e0 s (.on a) s1) := Lib.hid (Aft.alt_no (Aft.alt_no (Aft.alt_yes (ha.map fun d => ClL.on d) HX3n.out) HX2.out) HX1.out)
              have HT : Hid (Turned (fun k => k = b) w9 w3) := Lib.hid ⟨ht.os, ht.tape, ht.output, ht.size, ht.block⟩
              have HR3 := Lib.hid hr
              clear ht ha hr hua hub
              have hbx3 : w3.heap[w1.heap.size]? = some (.cells #[vd, .slice pX nX cX, vr] 27 (0, 0)) := (HT.out.block _ (by have := HB.out.szk; omega) (by have := HB.out.lt; omega)).trans HB.out.box
              have HS3 := Lib.hid (show w3.cell? ⟨w1.heap.size, 1, none⟩ = some (.slice pX nX cX) from cell_of_row w3 _ 1 _ _ (0, 0) hbx3)
              have HBx3 := Lib.hid hbx3
              clear hbx3
              go_simp
              refine hK.out _ _ (fun _ => HS3.out) ?_
              clear hK K
              try simp only [put_norm]
              refine Till.one 4 (by kernel_rfl) rfl (fun K hK => ?_)
              go_simp
              have HS4 := Lib.hid (show (w3.alloc (.cells #[.string ⟨a.event.toArray⟩, .slice pa na ca, .slice pb nb cb] 72)).cell? ⟨w1.heap.size, 1, none⟩ = some (.slice pX nX cX) from (World.cell?_of_block (a := ⟨w1.heap.size, 1, none⟩) (Below.heap_alloc _ _ _ (Array.getElem?_eq_some_iff.1 HBx3.out).1)).trans HS3.out)
              have hown : ∀ k, (Value.slice pX nX cX).ownBlock = some k → k < w9.heap.size := fun k e => (HB.out.o.lt k e).2
              have HOw : Hid (RowZ onY 72 Zo (w3.alloc (.cells #[.string ⟨a.event.toArray⟩, .slice pa na ca, .slice pb nb cb] 72)) (.slice pX nX cX) (ofCs cs).ons) := Lib.hid (HB.out.o.keep (by have := HT.out.size; simp; omega) fun k e hk => ⟨e, (Below.heap_alloc _ _ _ (Nat.lt_of_lt_of_le hk HT.out.size)).trans (HT.out.block k hk (by have := (HB.out.zo k e).1; have := HB.out.lt; omega))⟩)
              have HX3 : Hid (onY.is (fun k => w9.heap.size ≤ k ∧ k < w3.heap.size) (w3.alloc (.cells #[.string ⟨a.event.toArray⟩, .slice pa na ca, .slice pb nb cb] 72)) [.string ⟨a.event.toArray⟩, .slice pa na ca, .slice pb nb cb] a) := Lib.hid (⟨_, _, rfl, HU.out.1.keep (by simp) fun k e hk => ⟨⟨e, hk⟩, Below.heap_alloc _ _ _ hk⟩, HU.out.2.keep (by simp) fun k e hk => ⟨⟨e, hk⟩, Below.heap_alloc _ _ _ hk⟩⟩)
              have hlenA : (ofCs cs).ons.length ≤ 1000000 := by have := HJl.out; have := HB.out.rd.le; have := HB.out.rd.len; have := ofCs_len cs; omega
              refine hK.out _ _ (fun _ => HS4.out) ?_
              clear hK K
              try simp only [put_norm]
              refine Till.one 5 (by kernel_rfl) rfl (fun K hK => ?_)
              refine step_appZ onY rfl (.tmp 68) (.tmp 71) 24 72 rfl Zo (fun k => w9.heap.size ≤ k ∧ k < w3.heap.size) (.agg #[.string ⟨#[]⟩, .slice none 0 0, .slice none 0 0]) 64 Tryz.underlying24 Tryz.infoOn rfl (by decide) (by decide) _ _ a [.string ⟨a.event.toArray⟩, .slice pa na ca, .slice pb nb cb] w3.heap.size 1 rfl rfl HOw.out HX3.out (fun k e e2 => by have := hown k e2; omega) (lit_rowcells w3 [.string ⟨a.event.toArray⟩, .slice pa na ca, .slice pb nb cb] _) hlenA ?_
              intro v2 w5 ho hg
              have HN := Lib.hid (HB.out.step_o HB.out.nW HT.out HR3.out ho hg)
              obtain ⟨p4, n4, c4, rfl⟩ : ∃ p l c, v2 = .slice p l c := (by obtain ⟨p, c, e⟩ := ho.slice; exact ⟨p, _, c, e⟩)
              have hbx5 : w5.heap[w1.heap.size]? = some (.cells #[vd, .slice pX nX cX, vr] 27 (0, 0)) := ((Turned.of_grown hg).block _ (by have := (Array.getElem?_eq_some_iff.1 HBx3.out).1; simp; omega) (fun e => by have := (HB.out.zo _ (HB.out.o.lt _ e).1).1; omega)).trans ((Below.heap_alloc _ _ _ (Array.getElem?_eq_some_iff.1 HBx3.out).1).trans HBx3.out)
              obtain ⟨⟨x0, x1, x2⟩, xf0, xf1, xf2⟩ := cellsQ3 hbx5
              clear ho hg hbx5
              refine hK.out _ _ (fun h => nomatch (show (true : Bool) = false from h)) ?_
              clear hK K
              try simp only [put_norm]
              refine Till.takeY 6 73 (v := ?_) rfl rfl (by kernel_rfl) (by kernel_rfl) (by kernel_rfl) (by decide) (fun _ _ _ h => h) (by kernel_rfl) ?_ (fun h => nomatch (show (true : Bool) = false from h)) (by first | (simp only [put_norm]; exact rfl) | exact rfl) ?_
              rotate_left
              · rintro X0 -
                go_simp; try (with_reducible rfl)
              refine Till.one 7 (by kernel_rfl) rfl (fun K hK => ?_)
              go_simp
              refine hK.out _ _ (fun h => nomatch (show (true : Bool) = false from h)) ?_
              clear hK K x0 x1 x2 xf0 xf1 xf2
              try simp only [put_norm]
              refine Till.done (by kernel_rfl) ?_ _
              go_wp2_with fail
              go_roundw
              case rel =>
                refine ⟨_, _, _, _, _, _, _, _, Lib.hid ⟨HN.out, fun cs' s' h => ?_, ?_⟩⟩
                · rw [List.append_assoc]
                  exact HJe.out _ _ (Aft.prog_next HBd.out HIl.out HA.out h)
                · exact prog_len HA.out HBd.out HJl.out
              case measure =>
                rw [mQ_eq HN.out.rd, HMe.out]
                exact prog_meas HA.out HBd.out

            · have HX3n := Lib.hid hx
              have HB := Lib.hid (HB8.out.still hs9)
              clear hx hs9 hr9
              go_wp2_with fail
              obtain ⟨pX, nX, cX, hvX⟩ : ∃ p n c, vr = .slice p n c := (by obtain ⟨p, c, e⟩ := HB.out.r.slice; exact ⟨p, _, c, e⟩)
              subst hvX
              have HS0 := Lib.hid (show w9.drew.cell? ⟨w1.heap.size, 2, none⟩ = some (.slice pX nX cX) from cell_of_row w9 _ 2 _ _ (0, 0) HB.out.box)
              refine Till.begin (S := fun X => X.cell? ⟨w1.heap.size, 2, none⟩ = some (.slice pX nX cX)) (z := 5) (by kernel_rfl) ?_
              refine Till.takeY 0 37 (v := ?_) rfl rfl (by kernel_rfl) (by kernel_rfl) (by kernel_rfl) (by decide) (fun _ _ _ h => h) (by kernel_rfl) ?_ (fun _ => HS0.out) (by first | (simp only [put_norm]; exact rfl) | exact rfl) ?_
              rotate_left
              · rintro X0 -
                go_simp; try (with_reducible rfl)
              refine Till.takeY 2 39 (v := ?_) rfl rfl (by kernel_rfl) (by kernel_rfl) (by kernel_rfl) (by decide) (fun _ _ _ h => h) (by kernel_rfl) ?_ (fun _ => HS0.out) (by first | (simp only [put_norm]; exact rfl) | exact rfl) ?_
              rotate_left
              · rintro X0 -
                go_simp; try (with_reducible rfl)
              refine Till.take [5] 1 38 (v := ?_) rfl rfl (by kernel_rfl) (by kernel_rfl) (by kernel_rfl) (by kernel_rfl) (fun _ _ _ h => h) (by kernel_rfl) ?_ HS0.out (by first | (simp only [put_norm]; exact rfl) | exact rfl) ?_
              rotate_left
              · rintro X0 s0
                go_simp; try (with_reducible rfl)
              refine Till.one 3 (by kernel_rfl) rfl (fun K hK => ?_)
              go_simp
              go_at_call 27
              refine (qrule_any HB.out.rd.drew).mono ?_
              rintro y w3 ⟨ht, a, s1, va, ha, rfl, ⟨ua, ub, rfl, hua, hub⟩, hr⟩
              obtain ⟨pa, na, ca, rfl⟩ : ∃ p n c, ua = .slice p n c := (by obtain ⟨p, c, e⟩ := RowIn.shapeQ hua; exact ⟨p, _, c, e⟩)
              obtain ⟨pb, nb, cb, rfl⟩ : ∃ p n c, ub = .slice p n c := (by obtain ⟨p, c, e⟩ := RowIn.shapeQ hub; exact ⟨p, _, c, e⟩)
              have HU := Lib.hid (And.intro hua hub)
              have HA : Hid (Aft clauseR L e0 s (.rule a) s1) := Lib.hid (Aft.alt_no (Aft.alt_no (Aft.alt_no (ha.map fun d => ClL.rule d) HX3n.out) HX2.out) HX1.out)
              have HT : Hid (Turned (fun k => k = b) w9 w3) := Lib.hid ⟨ht.os, ht.tape, ht.output, ht.size, ht.block⟩
              have HR3 := Lib.hid hr
              clear ht ha hr hua hub
              have hbx3 : w3.heap[w1.heap.size]? = some (.cells #[vd, vo, .slice pX nX cX] 27 (0, 0)) := (HT.out.block _ (by have := HB.out.szk; omega) (by have := HB.out.lt; omega)).trans HB.out.box
              have HS3 := Lib.hid (show w3.cell? ⟨w1.heap.size, 2, none⟩ = some (.slice pX nX cX) from cell_of_row w3 _ 2 _ _ (0, 0) hbx3)
              have HBx3 := Lib.hid hbx3
              clear hbx3
              go_simp
              refine hK.out _ _ (fun _ => HS3.out) ?_
              clear hK K
              try simp only [put_norm]
              refine Till.one 4 (by kernel_rfl) rfl (fun K hK => ?_)
              go_simp
              have HS4 := Lib.hid (show (w3.alloc (.cells #[.string ⟨a.head.pred.toArray⟩, .slice pa na ca, .slice pb nb cb] 41)).cell? ⟨w1.heap.size, 2, none⟩ = some (.slice pX nX cX) from (World.cell?_of_block (a := ⟨w1.heap.size, 2, none⟩) (Below.heap_alloc _ _ _ (Array.getElem?_eq_some_iff.1 HBx3.out).1)).trans HS3.out)
              have hown : ∀ k, (Value.slice pX nX cX).ownBlock = some k → k < w9.heap.size := fun k e => (HB.out.r.lt k e).2
              have HOw : Hid (RowZ ruY 41 Zr (w3.alloc (.cells #[.string ⟨a.head.pred.toArray⟩, .slice pa na ca, .slice pb nb cb] 41)) (.slice pX nX cX) (ofCs cs).rules) := Lib.hid (HB.out.r.keep (by have := HT.out.size; simp; omega) fun k e hk => ⟨e, (Below.heap_alloc _ _ _ (Nat.lt_of_lt_of_le hk HT.out.size)).trans (HT.out.block k hk (by have := (HB.out.zr k e).1; have := HB.out.lt; omega))⟩)
              have HX3 : Hid (ruY.is (fun k => w9.heap.size ≤ k ∧ k < w3.heap.size) (w3.alloc (.cells #[.string ⟨a.head.pred.toArray⟩, .slice pa na ca, .slice pb nb cb] 41)) [.string ⟨a.head.pred.toArray⟩, .slice pa na ca, .slice pb nb cb] a) := Lib.hid (⟨_, _, rfl, HU.out.1.keep (by simp) fun k e hk => ⟨⟨e, hk⟩, Below.heap_alloc _ _ _ hk⟩, HU.out.2.keep (by simp) fun k e hk => ⟨⟨e, hk⟩, Below.heap_alloc _ _ _ hk⟩⟩)
              have hlenA : (ofCs cs).rules.length ≤ 1000000 := by have := HJl.out; have := HB.out.rd.le; have := HB.out.rd.len; have := ofCs_len cs; omega
              refine hK.out _ _ (fun _ => HS4.out) ?_
              clear hK K
              try simp only [put_norm]
              refine Till.one 5 (by kernel_rfl) rfl (fun K hK => ?_)
              refine step_appZ ruY rfl (.tmp 38) (.tmp 41) 25 41 rfl Zr (fun k => w9.heap.size ≤ k ∧ k < w3.heap.size) (.agg #[.string ⟨#[]⟩, .slice none 0 0, .slice none 0 0]) 64 Tryz.underlying25 Tryz.infoRu rfl (by decide) (by decide) _ _ a [.string ⟨a.head.pred.toArray⟩, .slice pa na ca, .slice pb nb cb] w3.heap.size 1 rfl rfl HOw.out HX3.out (fun k e e2 => by have := hown k e2; omega) (lit_rowcells w3 [.string ⟨a.head.pred.toArray⟩, .slice pa na ca, .slice pb nb cb] _) hlenA ?_
              intro v2 w5 ho hg
              have HN := Lib.hid (HB.out.step_r HB.out.nW HT.out HR3.out ho hg)
              obtain ⟨p4, n4, c4, rfl⟩ : ∃ p l c, v2 = .slice p l c := (by obtain ⟨p, c, e⟩ := ho.slice; exact ⟨p, _, c, e⟩)
              have hbx5 : w5.heap[w1.heap.size]? = some (.cells #[vd, vo, .slice pX nX cX] 27 (0, 0)) := ((Turned.of_grown hg).block _ (by have := (Array.getElem?_eq_some_iff.1 HBx3.out).1; simp; omega) (fun e => by have := (HB.out.zr _ (HB.out.r.lt _ e).1).1; omega)).trans ((Below.heap_alloc _ _ _ (Array.getElem?_eq_some_iff.1 HBx3.out).1).trans HBx3.out)
              obtain ⟨⟨x0, x1, x2⟩, xf0, xf1, xf2⟩ := cellsQ3 hbx5
              clear ho hg hbx5
              refine hK.out _ _ (fun h => nomatch (show (true : Bool) = false from h)) ?_
              clear hK K
              try simp only [put_norm]
              refine Till.takeY 6 43 (v := ?_) rfl rfl (by kernel_rfl) (by kernel_rfl) (by kernel_rfl) (by decide) (fun _ _ _ h => h) (by kernel_rfl) ?_ (fun h => nomatch (show (true : Bool) = false from h)) (by first | (simp only [put_norm]; exact rfl) | exact rfl) ?_
              rotate_left
              · rintro X0 -
                go_simp; try (with_reducible rfl)
              refine Till.one 7 (by kernel_rfl) rfl (fun K hK => ?_)
              go_simp
              refine hK.out _ _ (fun h => nomatch (show (true : Bool) = false from h)) ?_
              clear hK K x0 x1 x2 xf0 xf1 xf2
              try simp only [put_norm]
              refine Till.done (by kernel_rfl) ?_ _
              go_wp2_with fail
              go_roundw
              case rel =>
                refine ⟨_, _, _, _, _, _, _, _, Lib.hid ⟨HN.out, fun cs' s' h => ?_, ?_⟩⟩
                · rw [List.append_assoc]
                  exact HJe.out _ _ (Aft.prog_next HBd.out HIl.out HA.out h)
                · exact prog_len HA.out HBd.out HJl.out
              case measure =>
                rw [mQ_eq HN.out.rd, HMe.out]
                exact prog_meas HA.out HBd.out

      · have hge : ¬ (s.i : Int) < (L.length : Int) := by omega
        have HF := Lib.hid (say_aft_ok HS.out.2 HL.out.1 (HJe.out [] s (Aft.prog_end (by have := HB.out.rd.le; omega))) HBd.out (by have := HB.out.rd.le; omega))
        obtain ⟨p1, n1, k1, rfl⟩ : ∃ p n c, vd = .slice p n c := (by obtain ⟨p, c, e⟩ := HB.out.d.slice; exact ⟨p, _, c, e⟩)
        obtain ⟨p2, n2, k2, rfl⟩ : ∃ p n c, vo = .slice p n c := (by obtain ⟨p, c, e⟩ := HB.out.o.slice; exact ⟨p, _, c, e⟩)
        obtain ⟨p3, n3, k3, rfl⟩ : ∃ p n c, vr = .slice p n c := (by obtain ⟨p, c, e⟩ := HB.out.r.slice; exact ⟨p, _, c, e⟩)
        go_wp2_with fail
        go_quiet (fail)
        rename_i nq
        have HB := Lib.hid (HB.out.still (Still.drewN wr nq))
        have HRes := Lib.hid (show (wr.drewN nq).heap[w.heap.size]? = some (.cells #[.slice none 0 0, .slice none 0 0, .slice none 0 0] 27 (0, 0)) from HRes.out)
        have HBl : Hid (Below w.heap.size w (wr.drewN nq)) := Lib.hid (HBl.out.trans (by exact ((Still.drewN wr nq).below.mono HBl.out.size)))
        obtain ⟨⟨y0, y1, y2⟩, g0, g1, g2⟩ := cellsQ3 (show wr.heap[w.heap.size]? = some (.cells #[.slice none 0 0, .slice none 0 0, .slice none 0 0] 27 (0, 0)) from HRes.out)
        obtain ⟨⟨x0, x1, x2⟩, -⟩ := cellsQ3 (show wr.heap[w1.heap.size]? = _ from HB.out.box)
        go_wp2_with fail
        obtain ⟨q2, -⟩ := cellsQ3 (rowQ3_set (y0 := .slice p1 n1 k1) (y1 := .slice p2 n2 k2) (y2 := .slice p3 n3 k3) HRes.out)
        refine bodyPost_ret (v := .tuple #[.agg #[.slice p1 n1 k1, .slice p2 n2 k2, .slice p3 n3 k3], .int .i64 0, .int .i64 0]) (by simp [results, Tryz.results8, go_sem, q2]) rfl ⟨?_, .inl ⟨HS.out.1, cs ++ [], _, HF.out, rfl, ?_⟩⟩
        · exact qsetRule_below2 HBl.out
        · rw [List.append_nil]
          refine ⟨_, _, _, rfl, ?_, ?_, ?_⟩
          · exact HB.out.d.in_.keep (by simp) fun k e hk => ⟨by have := (HB.out.zd k e).1; omega, setQ3_off (by have := (HB.out.zd k e).1; omega)⟩
          · exact HB.out.o.in_.keep (by simp) fun k e hk => ⟨by have := (HB.out.zo k e).1; omega, setQ3_off (by have := (HB.out.zo k e).1; omega)⟩
          · exact HB.out.r.in_.keep (by simp) fun k e hk => ⟨by have := (HB.out.zr k e).1; omega, setQ3_off (by have := (HB.out.zr k e).1; omega)⟩
end
end Go.Proofs.YtnbaemfkpfmheaaGreatDoor
