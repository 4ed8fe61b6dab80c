/-
  The program's reader: literal.
  The program's reader: list of parts (Li).
  The program's reader: list of parts (Ac).
  The program's reader: rule.
  The program's reader: decl.
  The program's reader: on.
  Rows of the call's own beside one another: each in blocks of its own zone; clauses, and what a program is made of.
  The program's reader: program.
  The words of a text of any length; what a text says, as an answer.
-/
import Derived.Test.YtlbofeidiclhgaaGreatDoorK03
import Derived.Test.YtlbofeidiclhgaaGreatDoorLxH
import Derived.Defers
import Derived.Recover
import Derived.Laws.Pointers
import Derived.RegionTactic
import Derived.BigRegion
namespace Go.Proofs.YtlbofeidiclhgaaGreatDoor
section
open Go Go.RowKit Go.Shelf

theorem lit_not {L : List Wd} {x : Wd} (h : ∀ w ∈ x :: L, TidyW w) (e : x.text = wNot) : literalR (keys (x :: L)) = bindR atomR (fun a => pureR ⟨2, a, 0, zeroT, zeroT⟩) (keys L) := by
  unfold literalR altR
  rw [if_pos (by rw [nxt_word h rfl]; simpa [txt] using e)]
  exact bind_ok (tok1_yes (by rw [tidy_word (h x List.mem_cons_self) rfl]; simpa using e))
theorem atomR_no {l : List Kt} (h : nameR l = .bad l) : atomR l = .bad l := by
  rw [atomR_eq]
  exact bind_bad h
theorem lit_name {L : List Wd} (h : ∀ w ∈ L, TidyW w) (e : txt L ≠ wNot) (hk : knd L = 1) : literalR (keys L) = bindR atomR (fun a => pureR ⟨1, a, 0, zeroT, zeroT⟩) (keys L) := by
  unfold literalR altR
  rw [if_neg (by rw [nxt_word h rfl]; simpa using e)]
  by_cases hn : nxt isName (keys L) = true
  · rw [if_pos hn]
  · rw [if_neg hn]
    have hn' : nxt isName (keys L) = false := by simpa using hn
    rw [bind_bad (atomR_no (bind_bad (tok1_no hn')))]
    exact bind_bad (bind_bad (tok1_no (by rw [nxt_term, hk]; rfl)))
theorem lit_cmpN {L : List Wd} (h : ∀ w ∈ L, TidyW w) (e : txt L ≠ wNot) (hk : (knd L == 1) = false) : literalR (keys L) = bindR termR (fun a => bindR opR fun o => bindR termR fun b => pureR ⟨3, zeroA, o, a, b⟩) (keys L) := by
  unfold literalR altR
  rw [if_neg (by rw [nxt_word h rfl]; simpa using e), if_neg (by rw [nxt_name, hk]; simp)]
set_option maxRecDepth 100000 in
set_option maxHeartbeats 4000000 in
theorem pliteral_any {W : World} {n b e : Nat} {L : List Wd} (h : Rp n W b L e) : Calls Tryz.prog 90 #[rdp b] W (PEnd literalR liT n b e L W) := by
  have HR := Lib.hid h
  have hnW := h.below_
  have hlt := h.lt
  have F0 := wf0
  clear h
  go_enter Tryz.func90, Tryz.ntmps90
  go_wp2_with fail
  refine (pmay_any wNot (by decide) (HR.out.alloc zLi)).mono ?_
  rintro y w1 ⟨ht, ⟨x, L1, rfl, hx, rfl, hr⟩ | ⟨hx, rfl, hr⟩⟩
  · have HZ : Hid (w1.heap[W.heap.size]? = some zLi) := Lib.hid ((ht.block _ (by simp) (by omega)).trans (heap_alloc_new W zLi))
    have hz : W.heap.size < w1.heap.size := by have := ht.size; simp at this; omega
    have HE := Lib.hid (And.intro ht hr)
    have HL := Lib.hid (lit_not HR.out.tidy hx)
    clear ht hr hx
    go_wp2_with fail
    refine (patom_any HE.out.2).mono ?_
    rintro y wa ⟨hta, ⟨a, La, v, hp, hs, rfl, ⟨u, rfl, hu⟩, hra⟩ | ⟨La, hp, hs, rfl⟩⟩
    · have HOn := Lib.hid (Only.on (((Only.refl b W).alloc zLi).on HE.out.1) hta)
      have HRn := Lib.hid hra
      have HU := Lib.hid (And.intro hp (And.intro hs hu))
      have HK := Lib.hid ((hta.block _ hz (by omega)).trans HZ.out)
      obtain ⟨⟨q0, q1, q2, q3, q4, q5, q6, q7, q8, q9, q10, q11, q12, q13⟩, f0, f1, f2, f3, f4, f5, f6, f7, f8, f9, f10, f11, f12, f13⟩ := cells14 HK.out
      obtain ⟨pu, cu, rfl, -⟩ := id hu
      clear hta hp hs hu hra
      go_wp2_with fail
      refine bodyPost_ret (results_cell_row (fn := Tryz.f90) (by rfl) _ _ _ _ _ _ _ (by rfl) (rowS14_set HK.out) Tryz.underlying73 (by rfl) (by kernel_rfl)) (by rfl) ?_
      obtain ⟨hp, hs, hu⟩ := HU.out
      refine ⟨Only.turned (by
        repeat with_reducible refine Only.set ?_ (Nat.le_refl _) _ _
        exact HOn.out), .inl ⟨⟨2, a, 0, zeroT, zeroT⟩, La, _, HL.out.trans ((bind_ok hp).trans rfl), hs.trans (List.suffix_cons x L1), rfl, ⟨_, rfl, ?_⟩, (by
        repeat with_reducible refine Rp.set ?_ hnW _ _
        exact HRn.out)⟩⟩
      exact hu.keep (by simp) fun k e hk => ⟨by omega, set14_off (by omega)⟩
    · have HE2 := Lib.hid (And.intro hta (And.intro hp hs))
      clear hta hp hs
      go_wp2_with fail
      obtain ⟨hta, hp, hs⟩ := HE2.out
      exact ⟨rfl, Only.turned (Only.on (((Only.refl b W).alloc zLi).on HE.out.1) hta), .inr ⟨La, HL.out.trans (bind_bad hp), hs.trans (List.suffix_cons x L1), rfl⟩⟩
  · have HE := Lib.hid (And.intro ht hr)
    have HX := Lib.hid hx
    have hz1 : W.heap.size < w1.heap.size := by have := ht.size; simp at this; omega
    have HZ1 : Hid (w1.heap[W.heap.size]? = some zLi) := Lib.hid ((ht.block _ (by simp) (by omega)).trans (heap_alloc_new W zLi))
    have HNk := Lib.hid (headW_kind e L)
    clear ht hr hx
    go_wp2_with fail
    refine (pnext_any HE.out.2).mono ?_
    rintro y w2 ⟨rfl, hb⟩
    have HZ : Hid (w2.heap[W.heap.size]? = some zLi) := Lib.hid ((hb.block _ hz1).trans HZ1.out)
    have hz : W.heap.size < w2.heap.size := Nat.lt_of_lt_of_le hz1 hb.size
    have HB := Lib.hid hb
    unfold wordV
    rw [HNk.out]
    obtain ⟨K, hK⟩ : ∃ K, K = knd L := ⟨_, rfl⟩
    rw [← hK]
    have HKn := Lib.hid hK
    clear hb hK
    cases hk : (K == 1)
    · have HL := Lib.hid (lit_cmpN HR.out.tidy HX.out (by rw [← HKn.out]; exact hk))
      go_wp2_with fail
      refine (pterm_any (HE.out.2.below HB.out)).mono ?_
      rintro y w3 ⟨ht3, ⟨ta, L3, va, hp, hs, rfl, hva, hr3⟩ | ⟨L3, hp, hs, rfl⟩⟩
      rotate_left
      · have HE3 := Lib.hid (And.intro ht3 (And.intro hp hs))
        clear ht3 hp hs
        go_wp2_with fail
        obtain ⟨ht3, hp, hs⟩ := HE3.out
        exact ⟨rfl, Only.turned (((((Only.refl b W).alloc zLi).on HE.out.1).below HB.out).on ht3), .inr ⟨L3, HL.out.trans (bind_bad hp), hs, rfl⟩⟩
      obtain rfl : va = .agg #[.int .i64 ta.kind, .string ⟨ta.name.toArray⟩, .int .i64 ta.val.1, .int .i64 ta.val.2.1, .string ta.val.2.2] := hva
      have HE3 := Lib.hid (And.intro ht3 (And.intro hp (And.intro hs hr3)))
      clear ht3 hp hs hr3
      go_wp2_with fail
      refine (pop_any HE3.out.2.2.2).mono ?_
      rintro y w4 ⟨ht4, ⟨o, L4, vo, hp, hs, rfl, hvo, hr4⟩ | ⟨L4, hp, hs, rfl⟩⟩
      rotate_left
      · have HE4 := Lib.hid (And.intro ht4 (And.intro hp hs))
        clear ht4 hp hs
        go_wp2_with fail
        obtain ⟨ht4, hp, hs⟩ := HE4.out
        exact ⟨rfl, Only.turned ((((((Only.refl b W).alloc zLi).on HE.out.1).below HB.out).on HE3.out.1).on ht4), .inr ⟨L4, HL.out.trans ((bind_ok HE3.out.2.1).trans (bind_bad hp)), hs.trans HE3.out.2.2.1, rfl⟩⟩
      obtain rfl : vo = .int .i64 o := hvo
      have HE4 := Lib.hid (And.intro ht4 (And.intro hp (And.intro hs hr4)))
      clear ht4 hp hs hr4
      go_wp2_with fail
      refine (pterm_any HE4.out.2.2.2).mono ?_
      rintro y w5 ⟨ht5, ⟨tb, L5, vb, hp, hs, rfl, hvb, hr5⟩ | ⟨L5, hp, hs, rfl⟩⟩
      rotate_left
      · have HE5 := Lib.hid (And.intro ht5 (And.intro hp hs))
        clear ht5 hp hs
        go_wp2_with fail
        obtain ⟨ht5, hp, hs⟩ := HE5.out
        exact ⟨rfl, Only.turned (((((((Only.refl b W).alloc zLi).on HE.out.1).below HB.out).on HE3.out.1).on HE4.out.1).on ht5), .inr ⟨L5, HL.out.trans ((bind_ok HE3.out.2.1).trans ((bind_ok HE4.out.2.1).trans (bind_bad hp))), hs.trans (HE4.out.2.2.1.trans HE3.out.2.2.1), rfl⟩⟩
      obtain rfl : vb = .agg #[.int .i64 tb.kind, .string ⟨tb.name.toArray⟩, .int .i64 tb.val.1, .int .i64 tb.val.2.1, .string tb.val.2.2] := hvb
      have HP := Lib.hid (And.intro hp hs)
      have HOn := Lib.hid (((((((Only.refl b W).alloc zLi).on HE.out.1).below HB.out).on HE3.out.1).on HE4.out.1).on ht5)
      have HRn := Lib.hid hr5
      have HK := Lib.hid ((ht5.block _ (Nat.lt_of_lt_of_le hz (Nat.le_trans HE3.out.1.size HE4.out.1.size)) (by omega)).trans ((HE4.out.1.block _ (Nat.lt_of_lt_of_le hz HE3.out.1.size) (by omega)).trans ((HE3.out.1.block _ hz (by omega)).trans HZ.out)))
      obtain ⟨⟨q0, q1, q2, q3, q4, q5, q6, q7, q8, q9, q10, q11, q12, q13⟩, f0, f1, f2, f3, f4, f5, f6, f7, f8, f9, f10, f11, f12, f13⟩ := cells14 HK.out
      clear ht5 hp hs hr5
      go_wp2_with fail
      refine bodyPost_ret (results_cell_row (fn := Tryz.f90) (by rfl) _ _ _ _ _ _ _ (by rfl) (rowS14_set HK.out) Tryz.underlying73 (by rfl) (by kernel_rfl)) (by rfl) ?_
      exact ⟨Only.turned (by
        repeat with_reducible refine Only.set ?_ (Nat.le_refl _) _ _
        exact HOn.out), .inl ⟨⟨3, zeroA, o, ta, tb⟩, L5, _, HL.out.trans ((bind_ok HE3.out.2.1).trans ((bind_ok HE4.out.2.1).trans ((bind_ok HP.out.1).trans rfl))), HP.out.2.trans (HE4.out.2.2.1.trans HE3.out.2.2.1), rfl, ⟨_, rfl, RowIn.nil _ _ _⟩, (by
        repeat with_reducible refine Rp.set ?_ hnW _ _
        exact HRn.out)⟩⟩
    · have HL := Lib.hid (lit_name HR.out.tidy HX.out (by rw [← HKn.out]; simpa using hk))
      go_wp2_with fail
      refine (patom_any (HE.out.2.below HB.out)).mono ?_
      rintro y wa ⟨hta, ⟨a, La, v, hp, hs, rfl, ⟨u, rfl, hu⟩, hra⟩ | ⟨La, hp, hs, rfl⟩⟩
      · have HOn := Lib.hid (Only.on ((((Only.refl b W).alloc zLi).on HE.out.1).below HB.out) hta)
        have HRn := Lib.hid hra
        have HU := Lib.hid (And.intro hp (And.intro hs hu))
        have HK := Lib.hid ((hta.block _ hz (by omega)).trans HZ.out)
        obtain ⟨⟨q0, q1, q2, q3, q4, q5, q6, q7, q8, q9, q10, q11, q12, q13⟩, f0, f1, f2, f3, f4, f5, f6, f7, f8, f9, f10, f11, f12, f13⟩ := cells14 HK.out
        obtain ⟨pu, cu, rfl, -⟩ := id hu
        clear hta hp hs hu hra
        go_wp2_with fail
        refine bodyPost_ret (results_cell_row (fn := Tryz.f90) (by rfl) _ _ _ _ _ _ _ (by rfl) (rowS14_set HK.out) Tryz.underlying73 (by rfl) (by kernel_rfl)) (by rfl) ?_
        obtain ⟨hp, hs, hu⟩ := HU.out
        refine ⟨Only.turned (by
          repeat with_reducible refine Only.set ?_ (Nat.le_refl _) _ _
          exact HOn.out), .inl ⟨⟨1, a, 0, zeroT, zeroT⟩, La, _, HL.out.trans ((bind_ok hp).trans rfl), hs, rfl, ⟨_, rfl, ?_⟩, (by
          repeat with_reducible refine Rp.set ?_ hnW _ _
          exact HRn.out)⟩⟩
        exact hu.keep (by simp) fun k e hk => ⟨by omega, set14_off (by omega)⟩
      · have HE2 := Lib.hid (And.intro hta (And.intro hp hs))
        clear hta hp hs
        go_wp2_with fail
        obtain ⟨hta, hp, hs⟩ := HE2.out
        exact ⟨rfl, Only.turned (Only.on ((((Only.refl b W).alloc zLi).on HE.out.1).below HB.out) hta), .inr ⟨La, HL.out.trans (bind_bad hp), hs, rfl⟩⟩
end
section
open Go Go.RowKit Go.Shelf

set_option maxRecDepth 100000 in
set_option maxHeartbeats 2000000 in
theorem plistLi_any {W : World} {n b e : Nat} {L : List Wd} (h : Rp n W b L e) : Calls Tryz.prog 89 #[rdp b, .func (.func 90) #[rdp b] #[]] W (PEnd (sepL (isM [44]) literalR) (rowT liY) n b e L W) := by
  have HR := Lib.hid h
  have HEat := Lib.hid (fit_literal.eats)
  have hnW := h.below_
  have hbn := h.at_
  clear h
  go_enter Tryz.func89, Tryz.ntmps89
  go_wp2_with fail
  refine (pliteral_any HR.out).mono ?_
  rintro y w1 ⟨ht, ⟨a, L1, v, hp, hs, rfl, hv, hr⟩ | ⟨L1, hp, hs, rfl⟩⟩
  rotate_left
  · have HE := Lib.hid (And.intro ht (And.intro hp hs))
    clear ht hp hs
    go_wp2_with fail
    exact ⟨rfl, HE.out.1, .inr ⟨L1, sep_bad HEat.out HE.out.2.1, HE.out.2.2, rfl⟩⟩
  obtain ⟨u, rfl, hu⟩ := hv
  have hu := Lib.hid hu
  have HJ0 : Hid (LsJ (isM [44]) literalR liY 73 n b e L W (.slice (some ⟨w1.heap.size, 0, none⟩) 1 1) [a] L1 (w1.alloc (.cells #[.int .i64 a.kind, .string ⟨a.atom.pred.toArray⟩, u, .int .i64 a.op, .int .i64 a.a.kind, .string ⟨a.a.name.toArray⟩, .int .i64 a.a.val.1, .int .i64 a.a.val.2.1, .string a.a.val.2.2, .int .i64 a.b.kind, .string ⟨a.b.name.toArray⟩, .int .i64 a.b.val.1, .int .i64 a.b.val.2.1, .string a.b.val.2.2] 73))) := Lib.hid
    ⟨RowOwn.lit (us := [.int .i64 a.kind, .string ⟨a.atom.pred.toArray⟩, u, .int .i64 a.op, .int .i64 a.a.kind, .string ⟨a.a.name.toArray⟩, .int .i64 a.a.val.1, .int .i64 a.a.val.2.1, .string a.a.val.2.2, .int .i64 a.b.kind, .string ⟨a.b.name.toArray⟩, .int .i64 a.b.val.1, .int .i64 a.b.val.2.1, .string a.b.val.2.2]) ht.size ⟨u, rfl, hu.out⟩, hr.alloc _, ((Only.refl b W).on ht).alloc _, hs, sep_first HEat.out hp, by have := eats_len HEat.out hp; simp; omega⟩
  clear ht hp hs hr
  go_wp2_with fail
  go_loopw [5] (fun v wr => ∃ zs L2, Hid (LsJ (isM [44]) literalR liY 73 n b e L W v zs L2 wr)) (fun _ wr => leftW wr b)
  case atStart => exact ⟨_, _, HJ0⟩
  case round =>
    obtain ⟨zs, L2, HJ⟩ := hrel
    go_wp2_with fail
    refine (pmay_any [44] (by decide) HJ.out.rd).mono ?_
    rintro y w2 ⟨ht, ⟨x, L3, rfl, hx, rfl, hr⟩ | ⟨hx, rfl, hr⟩⟩
    · have HE := Lib.hid (And.intro ht (And.intro hr hx))
      clear ht hr hx
      go_wp2_with fail
      refine (pliteral_any HE.out.2.1).mono ?_
      rintro y w3 ⟨ht, ⟨a, L4, v1, hp, hs, rfl, hv, hr⟩ | ⟨L4, hp, hs, rfl⟩⟩
      rotate_left
      · have HE4 := Lib.hid (And.intro ht (And.intro hp hs))
        clear ht hp hs
        go_wp2_with fail
        have hq : nxt (isM [44]) (keys (x :: L3)) = true := by rw [nxt_mark HJ.out.rd.tidy rfl]; simp [txt, HE.out.2.2]
        exact ⟨rfl, Only.turned ((HJ.out.only.on HE.out.1).on HE4.out.1), .inr ⟨L4, HJ.out.eq.trans (cont_bad HEat.out hq HE4.out.2.1), HE4.out.2.2.trans ((List.suffix_cons x L3).trans HJ.out.suf), rfl⟩⟩
      obtain ⟨u, rfl, hu⟩ := hv
      have hu := Lib.hid hu
      have HW := Lib.hid (And.intro ht (And.intro hp (And.intro hs hr)))
      clear ht hp hs hr
      have hlenA : zs.length ≤ 1000000 := by have := HJ.out.len; have := HR.out.len; simp at *; omega
      have hsz3 : W.heap.size ≤ w3.heap.size := Nat.le_trans HJ.out.only.size (Nat.le_trans HE.out.1.size HW.out.1.size)
      have HOw : Hid (RowOwn liY 73 W.heap.size (w3.alloc (.cells #[.int .i64 a.kind, .string ⟨a.atom.pred.toArray⟩, u, .int .i64 a.op, .int .i64 a.a.kind, .string ⟨a.a.name.toArray⟩, .int .i64 a.a.val.1, .int .i64 a.a.val.2.1, .string a.a.val.2.2, .int .i64 a.b.kind, .string ⟨a.b.name.toArray⟩, .int .i64 a.b.val.1, .int .i64 a.b.val.2.1, .string a.b.val.2.2] 73)) u5 zs) := Lib.hid (((HJ.out.own.turned HE.out.1 (fun k hB _ e => by omega)).turned HW.out.1 (fun k hB _ e => by omega)).keep (by simp) fun k _ hk => Below.heap_alloc _ _ _ hk)
      have HIs : Hid (liY.is (fun k => W.heap.size ≤ k ∧ u5.ownBlock ≠ some k) (w3.alloc (.cells #[.int .i64 a.kind, .string ⟨a.atom.pred.toArray⟩, u, .int .i64 a.op, .int .i64 a.a.kind, .string ⟨a.a.name.toArray⟩, .int .i64 a.a.val.1, .int .i64 a.a.val.2.1, .string a.a.val.2.2, .int .i64 a.b.kind, .string ⟨a.b.name.toArray⟩, .int .i64 a.b.val.1, .int .i64 a.b.val.2.1, .string a.b.val.2.2] 73)) [.int .i64 a.kind, .string ⟨a.atom.pred.toArray⟩, u, .int .i64 a.op, .int .i64 a.a.kind, .string ⟨a.a.name.toArray⟩, .int .i64 a.a.val.1, .int .i64 a.a.val.2.1, .string a.a.val.2.2, .int .i64 a.b.kind, .string ⟨a.b.name.toArray⟩, .int .i64 a.b.val.1, .int .i64 a.b.val.2.1, .string a.b.val.2.2] a) := Lib.hid ⟨u, rfl, hu.out.keep (by simp) fun k e hk => ⟨⟨by have := HJ.out.only.size; have := HE.out.1.size; omega, fun e2 => by have := (HJ.out.own.lt k e2).2; have := HE.out.1.size; omega⟩, Below.heap_alloc _ _ _ hk⟩⟩
      have hsz3' : W.heap.size ≤ (w3.alloc (.cells #[.int .i64 a.kind, .string ⟨a.atom.pred.toArray⟩, u, .int .i64 a.op, .int .i64 a.a.kind, .string ⟨a.a.name.toArray⟩, .int .i64 a.a.val.1, .int .i64 a.a.val.2.1, .string a.a.val.2.2, .int .i64 a.b.kind, .string ⟨a.b.name.toArray⟩, .int .i64 a.b.val.1, .int .i64 a.b.val.2.1, .string a.b.val.2.2] 73)).heap.size := by simp; omega
      have HCl : Hid (∀ j u', ([.int .i64 a.kind, .string ⟨a.atom.pred.toArray⟩, u, .int .i64 a.op, .int .i64 a.a.kind, .string ⟨a.a.name.toArray⟩, .int .i64 a.a.val.1, .int .i64 a.a.val.2.1, .string a.a.val.2.2, .int .i64 a.b.kind, .string ⟨a.b.name.toArray⟩, .int .i64 a.b.val.1, .int .i64 a.b.val.2.1, .string a.b.val.2.2] : List Value)[j]? = some u' → (w3.alloc (.cells #[.int .i64 a.kind, .string ⟨a.atom.pred.toArray⟩, u, .int .i64 a.op, .int .i64 a.a.kind, .string ⟨a.a.name.toArray⟩, .int .i64 a.a.val.1, .int .i64 a.a.val.2.1, .string a.a.val.2.2, .int .i64 a.b.kind, .string ⟨a.b.name.toArray⟩, .int .i64 a.b.val.1, .int .i64 a.b.val.2.1, .string a.b.val.2.2] 73)).cell? ⟨w3.heap.size, 0 + j, none⟩ = some u') := Lib.hid (lit_rowcells w3 [.int .i64 a.kind, .string ⟨a.atom.pred.toArray⟩, u, .int .i64 a.op, .int .i64 a.a.kind, .string ⟨a.a.name.toArray⟩, .int .i64 a.a.val.1, .int .i64 a.a.val.2.1, .string a.a.val.2.2, .int .i64 a.b.kind, .string ⟨a.b.name.toArray⟩, .int .i64 a.b.val.1, .int .i64 a.b.val.2.1, .string a.b.val.2.2] _)
      go_wp2_with (at_builtin; refine wpList_appY liY rfl (.tmp 13) (.tmp 16) 25 73 rfl W.heap.size (.agg #[.int .i64 0, .string ⟨#[]⟩, .slice none 0 0, .int .i64 0, .int .i64 0, .string ⟨#[]⟩, .int .i64 0, .int .i64 0, .string ⟨#[]⟩, .int .i64 0, .string ⟨#[]⟩, .int .i64 0, .int .i64 0, .string ⟨#[]⟩]) 168 Tryz.underlying25 Tryz.infoLi rfl (by decide) (by decide) u5 zs a [.int .i64 a.kind, .string ⟨a.atom.pred.toArray⟩, u, .int .i64 a.op, .int .i64 a.a.kind, .string ⟨a.a.name.toArray⟩, .int .i64 a.a.val.1, .int .i64 a.a.val.2.1, .string a.a.val.2.2, .int .i64 a.b.kind, .string ⟨a.b.name.toArray⟩, .int .i64 a.b.val.1, .int .i64 a.b.val.2.1, .string a.b.val.2.2] w3.heap.size 1 rfl rfl HOw.out HIs.out HCl.out hlenA hsz3' ?_; intro v2 w4 ho hg hv2; have HN := Lib.hid (And.intro ho hg); clear ho hg hv2)
      go_roundw
      case rel =>
        obtain ⟨ho, hg⟩ := HN.out
        obtain ⟨ht, hp, hs, hr⟩ := HW.out
        have hq : nxt (isM [44]) (keys (x :: L3)) = true := by rw [nxt_mark HJ.out.rd.tidy rfl]; simp [txt, HE.out.2.2]
        have htg := Turned.of_grown hg
        have hlo : ∀ k, u5.ownBlock = some k → W.heap.size ≤ k := fun k e => (HJ.out.own.lt k e).1
        refine ⟨zs ++ [a], L4, Lib.hid ⟨ho, (hr.alloc _).turned htg fun k e => by have := hlo k e; omega, (((HJ.out.only.on HE.out.1).on ht).alloc _).call htg fun k e => .inr (hlo k e), hs.trans ((List.suffix_cons x L3).trans HJ.out.suf), HJ.out.eq.trans (cont_next HEat.out hq hp), ?_⟩⟩
        have h1 := eats_len HEat.out hp
        have h2 := HJ.out.len
        simp at h2 ⊢
        omega
      case measure =>
        obtain ⟨ho, hg⟩ := HN.out
        obtain ⟨ht, hp, hs, hr⟩ := HW.out
        have htg := Turned.of_grown hg
        have hlo : ∀ k, u5.ownBlock = some k → W.heap.size ≤ k := fun k e => (HJ.out.own.lt k e).1
        have h3 := ((hr.alloc (.cells #[.int .i64 a.kind, .string ⟨a.atom.pred.toArray⟩, u, .int .i64 a.op, .int .i64 a.a.kind, .string ⟨a.a.name.toArray⟩, .int .i64 a.a.val.1, .int .i64 a.a.val.2.1, .string a.a.val.2.2, .int .i64 a.b.kind, .string ⟨a.b.name.toArray⟩, .int .i64 a.b.val.1, .int .i64 a.b.val.2.1, .string a.b.val.2.2] 73)).turned htg fun k e => by have := hlo k e; omega).left
        rw [h3, HJ.out.rd.left]
        have h1 := eats_len HEat.out hp
        simp
        omega
    · have HE := Lib.hid (And.intro ht (And.intro hr hx))
      clear ht hr hx
      go_wp2_with fail
      go_ret
      have hq : nxt (isM [44]) (keys L2) = false := by rw [nxt_mark HJ.out.rd.tidy rfl]; simpa using HE.out.2.2
      exact ⟨Only.turned (HJ.out.only.on HE.out.1), .inl ⟨zs, L2, u5, HJ.out.eq.trans (cont_end hq), HJ.out.suf, rfl, (HJ.out.own.turned HE.out.1 (fun k hB _ e => by omega)).in_, HE.out.2.1⟩⟩
end
section
open Go Go.RowKit Go.Shelf

set_option maxRecDepth 100000 in
set_option maxHeartbeats 2000000 in
theorem plistAc_any {W : World} {n b e : Nat} {L : List Wd} (h : Rp n W b L e) : Calls Tryz.prog 120 #[rdp b, .func (.func 121) #[rdp b] #[]] W (PEnd (sepL (isM [44]) actR) (rowT acY) n b e L W) := by
  have HR := Lib.hid h
  have HEat := Lib.hid (fit_act.eats)
  have hnW := h.below_
  have hbn := h.at_
  clear h
  go_enter Tryz.func120, Tryz.ntmps120
  go_wp2_with fail
  refine (pact_any HR.out).mono ?_
  rintro y w1 ⟨ht, ⟨a, L1, v, hp, hs, rfl, hv, hr⟩ | ⟨L1, hp, hs, rfl⟩⟩
  rotate_left
  · have HE := Lib.hid (And.intro ht (And.intro hp hs))
    clear ht hp hs
    go_wp2_with fail
    exact ⟨rfl, HE.out.1, .inr ⟨L1, sep_bad HEat.out HE.out.2.1, HE.out.2.2, rfl⟩⟩
  obtain ⟨u, rfl, hu⟩ := hv
  have hu := Lib.hid hu
  have HJ0 : Hid (LsJ (isM [44]) actR acY 80 n b e L W (.slice (some ⟨w1.heap.size, 0, none⟩) 1 1) [a] L1 (w1.alloc (.cells #[.bool a.plus, .string ⟨a.atom.pred.toArray⟩, u] 80))) := Lib.hid
    ⟨RowOwn.lit (us := [.bool a.plus, .string ⟨a.atom.pred.toArray⟩, u]) ht.size ⟨u, rfl, hu.out⟩, hr.alloc _, ((Only.refl b W).on ht).alloc _, hs, sep_first HEat.out hp, by have := eats_len HEat.out hp; simp; omega⟩
  clear ht hp hs hr
  go_wp2_with fail
  go_loopw [5] (fun v wr => ∃ zs L2, Hid (LsJ (isM [44]) actR acY 80 n b e L W v zs L2 wr)) (fun _ wr => leftW wr b)
  case atStart => exact ⟨_, _, HJ0⟩
  case round =>
    obtain ⟨zs, L2, HJ⟩ := hrel
    go_wp2_with fail
    refine (pmay_any [44] (by decide) HJ.out.rd).mono ?_
    rintro y w2 ⟨ht, ⟨x, L3, rfl, hx, rfl, hr⟩ | ⟨hx, rfl, hr⟩⟩
    · have HE := Lib.hid (And.intro ht (And.intro hr hx))
      clear ht hr hx
      go_wp2_with fail
      refine (pact_any HE.out.2.1).mono ?_
      rintro y w3 ⟨ht, ⟨a, L4, v1, hp, hs, rfl, hv, hr⟩ | ⟨L4, hp, hs, rfl⟩⟩
      rotate_left
      · have HE4 := Lib.hid (And.intro ht (And.intro hp hs))
        clear ht hp hs
        go_wp2_with fail
        have hq : nxt (isM [44]) (keys (x :: L3)) = true := by rw [nxt_mark HJ.out.rd.tidy rfl]; simp [txt, HE.out.2.2]
        exact ⟨rfl, Only.turned ((HJ.out.only.on HE.out.1).on HE4.out.1), .inr ⟨L4, HJ.out.eq.trans (cont_bad HEat.out hq HE4.out.2.1), HE4.out.2.2.trans ((List.suffix_cons x L3).trans HJ.out.suf), rfl⟩⟩
      obtain ⟨u, rfl, hu⟩ := hv
      have hu := Lib.hid hu
      have HW := Lib.hid (And.intro ht (And.intro hp (And.intro hs hr)))
      clear ht hp hs hr
      have hlenA : zs.length ≤ 1000000 := by have := HJ.out.len; have := HR.out.len; simp at *; omega
      have hsz3 : W.heap.size ≤ w3.heap.size := Nat.le_trans HJ.out.only.size (Nat.le_trans HE.out.1.size HW.out.1.size)
      have HOw : Hid (RowOwn acY 80 W.heap.size (w3.alloc (.cells #[.bool a.plus, .string ⟨a.atom.pred.toArray⟩, u] 80)) u5 zs) := Lib.hid (((HJ.out.own.turned HE.out.1 (fun k hB _ e => by omega)).turned HW.out.1 (fun k hB _ e => by omega)).keep (by simp) fun k _ hk => Below.heap_alloc _ _ _ hk)
      have HIs : Hid (acY.is (fun k => W.heap.size ≤ k ∧ u5.ownBlock ≠ some k) (w3.alloc (.cells #[.bool a.plus, .string ⟨a.atom.pred.toArray⟩, u] 80)) [.bool a.plus, .string ⟨a.atom.pred.toArray⟩, u] a) := Lib.hid ⟨u, rfl, hu.out.keep (by simp) fun k e hk => ⟨⟨by have := HJ.out.only.size; have := HE.out.1.size; omega, fun e2 => by have := (HJ.out.own.lt k e2).2; have := HE.out.1.size; omega⟩, Below.heap_alloc _ _ _ hk⟩⟩
      have hsz3' : W.heap.size ≤ (w3.alloc (.cells #[.bool a.plus, .string ⟨a.atom.pred.toArray⟩, u] 80)).heap.size := by simp; omega
      have HCl : Hid (∀ j u', ([.bool a.plus, .string ⟨a.atom.pred.toArray⟩, u] : List Value)[j]? = some u' → (w3.alloc (.cells #[.bool a.plus, .string ⟨a.atom.pred.toArray⟩, u] 80)).cell? ⟨w3.heap.size, 0 + j, none⟩ = some u') := Lib.hid (lit_rowcells w3 [.bool a.plus, .string ⟨a.atom.pred.toArray⟩, u] _)
      go_wp2_with (at_builtin; refine wpList_appY acY rfl (.tmp 13) (.tmp 16) 32 80 rfl W.heap.size (.agg #[.bool false, .string ⟨#[]⟩, .slice none 0 0]) 48 Tryz.underlying32 Tryz.infoAc rfl (by decide) (by decide) u5 zs a [.bool a.plus, .string ⟨a.atom.pred.toArray⟩, u] w3.heap.size 1 rfl rfl HOw.out HIs.out HCl.out hlenA hsz3' ?_; intro v2 w4 ho hg hv2; have HN := Lib.hid (And.intro ho hg); clear ho hg hv2)
      go_roundw
      case rel =>
        obtain ⟨ho, hg⟩ := HN.out
        obtain ⟨ht, hp, hs, hr⟩ := HW.out
        have hq : nxt (isM [44]) (keys (x :: L3)) = true := by rw [nxt_mark HJ.out.rd.tidy rfl]; simp [txt, HE.out.2.2]
        have htg := Turned.of_grown hg
        have hlo : ∀ k, u5.ownBlock = some k → W.heap.size ≤ k := fun k e => (HJ.out.own.lt k e).1
        refine ⟨zs ++ [a], L4, Lib.hid ⟨ho, (hr.alloc _).turned htg fun k e => by have := hlo k e; omega, (((HJ.out.only.on HE.out.1).on ht).alloc _).call htg fun k e => .inr (hlo k e), hs.trans ((List.suffix_cons x L3).trans HJ.out.suf), HJ.out.eq.trans (cont_next HEat.out hq hp), ?_⟩⟩
        have h1 := eats_len HEat.out hp
        have h2 := HJ.out.len
        simp at h2 ⊢
        omega
      case measure =>
        obtain ⟨ho, hg⟩ := HN.out
        obtain ⟨ht, hp, hs, hr⟩ := HW.out
        have htg := Turned.of_grown hg
        have hlo : ∀ k, u5.ownBlock = some k → W.heap.size ≤ k := fun k e => (HJ.out.own.lt k e).1
        have h3 := ((hr.alloc (.cells #[.bool a.plus, .string ⟨a.atom.pred.toArray⟩, u] 80)).turned htg fun k e => by have := hlo k e; omega).left
        rw [h3, HJ.out.rd.left]
        have h1 := eats_len HEat.out hp
        simp
        omega
    · have HE := Lib.hid (And.intro ht (And.intro hr hx))
      clear ht hr hx
      go_wp2_with fail
      go_ret
      have hq : nxt (isM [44]) (keys L2) = false := by rw [nxt_mark HJ.out.rd.tidy rfl]; simpa using HE.out.2.2
      exact ⟨Only.turned (HJ.out.only.on HE.out.1), .inl ⟨zs, L2, u5, HJ.out.eq.trans (cont_end hq), HJ.out.suf, rfl, (HJ.out.own.turned HE.out.1 (fun k hB _ e => by omega)).in_, HE.out.2.1⟩⟩
end
section
open Go Go.RowKit Go.Shelf

abbrev zRu : Obj := .cells #[.string ⟨#[]⟩, .slice none 0 0, .slice none 0 0] 27
def ruT (S : Nat → Prop) (w : World) (v : Value) (r : RuL) : Prop := ∃ u x, v = .agg #[.string ⟨r.head.pred.toArray⟩, u, x] ∧ RowIn tmY S w u r.head.args ∧ RowIn liY S w x r.body
/-- A box of three cells and the result's box under it. -/
def Bx3 (N b ba kt : Nat) (ko : Obj) (t : TypeId) (x y z : Value) (W : World) : Prop :=
  (N ≤ ba ∧ ba < W.heap.size ∧ b < N ∧ kt ≠ ba ∧ N ≤ kt ∧ kt < W.heap.size) ∧ W.heap[ba]? = some (.cells #[x, y, z] t (0, 0)) ∧ W.heap[kt]? = some ko
theorem Bx3.on {N b ba kt : Nat} {ko : Obj} {t : TypeId} {x y z : Value} {W W' : World} (h : Bx3 N b ba kt ko t x y z W) (ht : Turned (fun k => k = b) W W') : Bx3 N b ba kt ko t x y z W' := by
  obtain ⟨⟨h1, h2, h3, h4, h5, h6⟩, h7, h8⟩ := h
  exact ⟨⟨h1, Nat.lt_of_lt_of_le h2 ht.size, h3, h4, h5, Nat.lt_of_lt_of_le h6 ht.size⟩, (ht.block ba h2 (by omega)).trans h7, (ht.block kt h6 (by omega)).trans h8⟩
set_option maxRecDepth 100000 in
set_option maxHeartbeats 2000000 in
theorem prule_any {W : World} {n b e : Nat} {L : List Wd} (h : Rp n W b L e) : Calls Tryz.prog 50 #[rdp b] W (PEnd ruleR ruT n b e L W) := by
  have HR := Lib.hid h
  have hnW := h.below_
  have hlt := h.lt
  clear h
  go_enter Tryz.func50, Tryz.ntmps50
  go_wp2_with fail
  refine (patom_any (HR.out.alloc zRu)).mono ?_
  rintro y w1 ⟨ht, ⟨a, L1, v, hp, hs, rfl, ⟨u, rfl, hu⟩, hr⟩ | ⟨L1, hp, hs, rfl⟩⟩
  rotate_left
  · have HE := Lib.hid (And.intro ht (And.intro hp hs))
    clear ht hp hs
    go_wp2_with fail
    obtain ⟨ht, hp, hs⟩ := HE.out
    exact ⟨rfl, Only.turned (((Only.refl b W).alloc zRu).on ht), .inr ⟨L1, bind_bad hp, hs, rfl⟩⟩
  have HE := Lib.hid (And.intro ht (And.intro hp (And.intro hs (And.intro hu hr))))
  obtain ⟨pu, cu, rfl, -⟩ := id hu
  have hsz : W.heap.size < w1.heap.size := by have := ht.size; simp at this; omega
  have HB : Hid (Bx3 W.heap.size b w1.heap.size W.heap.size zRu 27 (.string ⟨a.pred.toArray⟩) (.slice pu a.args.length cu) (.slice none 0 0) (w1.alloc (.cells #[.string ⟨a.pred.toArray⟩, .slice pu a.args.length cu, .slice none 0 0] 27))) := Lib.hid
    ⟨⟨by omega, by simp, hlt, by omega, Nat.le_refl _, by simp; omega⟩, heap_alloc_new _ _, (Below.heap_alloc _ _ _ hsz).trans ((ht.block _ (by simp) (by omega)).trans (heap_alloc_new W zRu))⟩
  have HO : Hid (Only W.heap.size b W (w1.alloc (.cells #[.string ⟨a.pred.toArray⟩, .slice pu a.args.length cu, .slice none 0 0] 27))) := Lib.hid ((((Only.refl b W).alloc zRu).on ht).alloc _)
  have HR1 := Lib.hid (hr.alloc (.cells #[.string ⟨a.pred.toArray⟩, .slice pu a.args.length cu, .slice none 0 0] 27))
  have HU : Hid (RowIn tmY (fun k => W.heap.size ≤ k ∧ k ≠ W.heap.size ∧ k ≠ w1.heap.size) (w1.alloc (.cells #[.string ⟨a.pred.toArray⟩, .slice pu a.args.length cu, .slice none 0 0] 27)) (.slice pu a.args.length cu) a.args) := Lib.hid (hu.keep (by simp) fun k e hk => ⟨by simp at e; omega, Below.heap_alloc _ _ _ hk⟩)
  have HP := Lib.hid (And.intro hp hs)
  obtain ⟨c1, hc1⟩ : ∃ c, c = w1.heap.size := ⟨_, rfl⟩
  clear ht hp hs hu hr HE
  go_wp2_with fail
  refine (pmay_any [58, 45] (by decide) HR1.out).mono ?_
  rintro y w2 ⟨ht, ⟨x, L2, rfl, hx, rfl, hr⟩ | ⟨hx, rfl, hr⟩⟩
  · have HE2 := Lib.hid (And.intro ht (And.intro hr hx))
    have HB2 := Lib.hid (HB.out.on ht)
    obtain ⟨⟨a0, a1, a2⟩, g0, g1, g2⟩ := cells3 HB2.out.2.1
    clear ht hr hx
    go_wp2_with fail
    refine (plistLi_any HE2.out.2.1).mono ?_
    rintro y w3 ⟨ht, ⟨zs, L3, v, hp, hs, rfl, hv, hr⟩ | ⟨L3, hp, hs, rfl⟩⟩
    rotate_left
    · have HE3 := Lib.hid (And.intro ht (And.intro hp hs))
      clear ht hp hs
      go_wp2_with fail
      obtain ⟨ht, hp, hs⟩ := HE3.out
      refine ⟨rfl, Only.turned ((HO.out.on HE2.out.1).on ht), .inr ⟨L3, (bind_ok HP.out.1).trans (bind_bad (bind_bad ?_)), hs.trans ((List.suffix_cons x L2).trans HP.out.2), rfl⟩⟩
      unfold moreR altR
      rw [if_pos (by rw [nxt_mark HR1.out.tidy rfl]; simpa [txt] using HE2.out.2.2)]
      exact (bind_ok (tok1_yes (by rw [tidy_mark (HR1.out.tidy x List.mem_cons_self) rfl]; simpa using HE2.out.2.2))).trans hp
    have HB3 := Lib.hid (HB2.out.on ht)
    obtain ⟨pv, cv, rfl, -⟩ := id hv
    obtain ⟨⟨b0, b1, b2⟩, k0, k1, k2⟩ := cells3 HB3.out.2.1
    have HE3 := Lib.hid (And.intro ht (And.intro hp (And.intro hs (And.intro hv hr))))
    clear ht hp hs hv hr a0 a1 a2 g0 g1 g2
    go_wp2_with fail
    -- TAIL
    have HRX : Hid (Rp n (w3.setCell ⟨w1.heap.size, 2, none⟩ (.slice pv zs.length cv)) b L3 e) := Lib.hid (HE3.out.2.2.2.2.set (by omega) _ _)
    have HOX : Hid (Only W.heap.size b W (w3.setCell ⟨w1.heap.size, 2, none⟩ (.slice pv zs.length cv))) := Lib.hid (((HO.out.on HE2.out.1).on HE3.out.1).set (by omega) _ _)
    have HBX : Hid (Bx3 W.heap.size b w1.heap.size W.heap.size zRu 27 (.string ⟨a.pred.toArray⟩) (.slice pu a.args.length cu) (.slice pv zs.length cv) (w3.setCell ⟨w1.heap.size, 2, none⟩ (.slice pv zs.length cv))) := Lib.hid (by
      obtain ⟨⟨h1, h2, h3, h4, h5, h6⟩, h7, h8⟩ := HB3.out
      exact ⟨⟨h1, by simpa using h2, h3, h4, h5, by simpa using h6⟩, heap_setCell_same w3 _ 2 _ _ _ h7, (heap_setCell_other w3 ⟨w1.heap.size, 2, none⟩ _ _ h4).trans h8⟩)
    have HUX : Hid (RowIn tmY (fun k => W.heap.size ≤ k ∧ k ≠ W.heap.size ∧ k ≠ w1.heap.size) (w3.setCell ⟨w1.heap.size, 2, none⟩ (.slice pv zs.length cv)) (.slice pu a.args.length cu) a.args) := Lib.hid ((((HU.out.turned HE2.out.1 fun k e e2 => by omega).turned HE3.out.1 fun k e e2 => by omega)).keep (by simp) fun k e hk => ⟨e, heap_setCell_other w3 ⟨w1.heap.size, 2, none⟩ k _ e.2.2⟩)
    have HVX : Hid (RowIn liY (fun k => W.heap.size ≤ k ∧ k ≠ W.heap.size ∧ k ≠ w1.heap.size) (w3.setCell ⟨w1.heap.size, 2, none⟩ (.slice pv zs.length cv)) (.slice pv zs.length cv) zs) := Lib.hid (by
      have h2 := HB2.out.1.2.1
      exact RowIn.keep HE3.out.2.2.2.1 (by simp) fun k e hk => ⟨by omega, heap_setCell_other w3 ⟨w1.heap.size, 2, none⟩ k _ (by show k ≠ w1.heap.size; omega)⟩)
    have HM : Hid (moreR [58, 45] literalR (keys (x :: L2)) = .ok zs (keys L3) ∧ L3 <:+ x :: L2) := Lib.hid (by
      refine ⟨?_, HE3.out.2.2.1.trans (List.suffix_cons x L2)⟩
      unfold moreR altR
      rw [if_pos (by rw [nxt_mark HR1.out.tidy rfl]; simpa [txt] using HE2.out.2.2)]
      exact (bind_ok (tok1_yes (by rw [tidy_mark (HR1.out.tidy x List.mem_cons_self) rfl]; simpa using HE2.out.2.2))).trans HE3.out.2.1)
    refine (pmust_any [46] (by decide) HRX.out).mono ?_
    rintro y w4 ⟨ht, ⟨x4, L4, hL, hx, rfl, hr⟩ | ⟨hx, rfl⟩⟩
    · subst hL
      have HB4 := Lib.hid (HBX.out.on ht)
      have HF := Lib.hid (And.intro ht (And.intro hr hx))
      obtain ⟨⟨d0, d1, d2⟩, m0, m1, m2⟩ := cells3 HB4.out.2.1
      obtain ⟨⟨p0, p1, p2⟩, o0, o1, o2⟩ := cells3 HB4.out.2.2
      clear ht hr hx
      go_wp2_with fail
      refine bodyPost_ret (results_cell_row (fn := Tryz.f50) (by rfl) _ _ _ _ _ _ _ (by rfl) (rowS3_set HB4.out.2.2) Tryz.underlying27 (by rfl) (by kernel_rfl)) (by rfl) ?_
      obtain ⟨ht, hr, hx⟩ := HF.out
      refine ⟨Only.turned ((((HOX.out.on ht).set (Nat.le_refl _) _ _).set (Nat.le_refl _) _ _).set (Nat.le_refl _) _ _), .inl ⟨⟨a, zs⟩, L4, _, (bind_ok HP.out.1).trans ((bind_ok ((bind_ok HM.out.1).trans ((bind_ok (mark_yes (HRX.out.tidy x4 List.mem_cons_self) rfl hx)).trans rfl))).trans rfl), (List.suffix_cons x4 L4).trans (HM.out.2.trans HP.out.2), rfl, ⟨_, _, rfl, ?_, ?_⟩, ((hr.set hnW _ _).set hnW _ _).set hnW _ _⟩⟩
      · exact (HUX.out.turned ht fun k e e2 => by omega).keep (by simp) fun k e hk => ⟨e.1, set3_off e.2.1⟩
      · exact (HVX.out.turned ht fun k e e2 => by omega).keep (by simp) fun k e hk => ⟨e.1, set3_off e.2.1⟩
    · have HF := Lib.hid (And.intro ht hx)
      clear ht hx
      go_wp2_with fail
      obtain ⟨ht, hx⟩ := HF.out
      exact ⟨rfl, Only.turned (HOX.out.on ht), .inr ⟨L3, (bind_ok HP.out.1).trans (bind_bad ((bind_ok HM.out.1).trans (bind_bad (mark_no HRX.out.tidy rfl hx)))), HM.out.2.trans HP.out.2, rfl⟩⟩
  · have HE2 := Lib.hid (And.intro ht (And.intro hr hx))
    have HB2 := Lib.hid (HB.out.on ht)
    have HRX := Lib.hid hr
    have HOX := Lib.hid (HO.out.on ht)
    have HBX := Lib.hid (HB.out.on ht)
    have HUX := Lib.hid (HU.out.turned ht fun k e e2 => by omega)
    obtain ⟨zs, hzs⟩ : ∃ zs : List LiL, zs = [] := ⟨_, rfl⟩
    have HVX : Hid (RowIn liY (fun k => W.heap.size ≤ k ∧ k ≠ W.heap.size ∧ k ≠ w1.heap.size) w2 (.slice none 0 0) zs) := Lib.hid (by rw [hzs]; exact RowIn.nil _ _ _)
    obtain ⟨L3, hL3⟩ : ∃ L3, L3 = L1 := ⟨_, rfl⟩
    have HM : Hid (moreR [58, 45] literalR (keys L1) = .ok zs (keys L3) ∧ L3 <:+ L1) := Lib.hid (by
      rw [hL3, hzs]
      refine ⟨?_, List.suffix_refl _⟩
      unfold moreR altR
      rw [if_neg (by rw [nxt_mark HR1.out.tidy rfl]; simpa using hx)]
      rfl)
    rw [← hL3] at HRX
    clear ht hr hx hzs hL3
    go_wp2_with fail
    refine (pmust_any [46] (by decide) HRX.out).mono ?_
    rintro y w4 ⟨ht, ⟨x4, L4, hL, hx, rfl, hr⟩ | ⟨hx, rfl⟩⟩
    · subst hL
      have HB4 := Lib.hid (HBX.out.on ht)
      have HF := Lib.hid (And.intro ht (And.intro hr hx))
      obtain ⟨⟨d0, d1, d2⟩, m0, m1, m2⟩ := cells3 HB4.out.2.1
      obtain ⟨⟨p0, p1, p2⟩, o0, o1, o2⟩ := cells3 HB4.out.2.2
      clear ht hr hx
      go_wp2_with fail
      refine bodyPost_ret (results_cell_row (fn := Tryz.f50) (by rfl) _ _ _ _ _ _ _ (by rfl) (rowS3_set HB4.out.2.2) Tryz.underlying27 (by rfl) (by kernel_rfl)) (by rfl) ?_
      obtain ⟨ht, hr, hx⟩ := HF.out
      refine ⟨Only.turned ((((HOX.out.on ht).set (Nat.le_refl _) _ _).set (Nat.le_refl _) _ _).set (Nat.le_refl _) _ _), .inl ⟨⟨a, zs⟩, L4, _, (bind_ok HP.out.1).trans ((bind_ok ((bind_ok HM.out.1).trans ((bind_ok (mark_yes (HRX.out.tidy x4 List.mem_cons_self) rfl hx)).trans rfl))).trans rfl), (List.suffix_cons x4 L4).trans (HM.out.2.trans HP.out.2), rfl, ⟨_, _, rfl, ?_, ?_⟩, ((hr.set hnW _ _).set hnW _ _).set hnW _ _⟩⟩
      · exact (HUX.out.turned ht fun k e e2 => by omega).keep (by simp) fun k e hk => ⟨e.1, set3_off e.2.1⟩
      · exact (HVX.out.turned ht fun k e e2 => by omega).keep (by simp) fun k e hk => ⟨e.1, set3_off e.2.1⟩
    · have HF := Lib.hid (And.intro ht hx)
      clear ht hx
      go_wp2_with fail
      obtain ⟨ht, hx⟩ := HF.out
      exact ⟨rfl, Only.turned (HOX.out.on ht), .inr ⟨L3, (bind_ok HP.out.1).trans (bind_bad ((bind_ok HM.out.1).trans (bind_bad (mark_no HRX.out.tidy rfl hx)))), HM.out.2.trans HP.out.2, rfl⟩⟩
end
section
open Go Go.RowKit Go.Shelf

abbrev zDe : Obj := .cells #[.string ⟨#[]⟩, .bool false, .slice none 0 0] 30
abbrev bvO : Obj := .cells #[.string ⟨#[98, 97, 115, 101]⟩, .string ⟨#[118, 105, 101, 119]⟩] 9
abbrev brO (b : Nat) : Obj := .cells #[rdp b] 105
def deT (S : Nat → Prop) (w : World) (v : Value) (d : DeL) : Prop := ∃ u, v = .agg #[.string ⟨d.name.toArray⟩, .bool d.base, u] ∧ RowIn tyY S w u d.types
theorem bindR_assoc {α β γ : Type} (p : Rd α) (f : α → Rd β) (g : β → Rd γ) : bindR (bindR p f) g = bindR p fun a => bindR (f a) g := by
  funext l
  unfold bindR
  cases p l <;> rfl
theorem bindR_pure {α β : Type} (a : α) (f : α → Rd β) : bindR (pureR a) f = f a := rfl
theorem declR_eq (base : Bool) : declR base = bindR (tok1 fun _ => true) fun _ => bindR nameR fun nm => bindR (encR (sepL (isM [44]) kindR)) fun ts => bindR (markR [46]) fun _ => pureR ⟨base, nm, ts⟩ := by
  unfold declR encR rowR
  simp only [bindR_assoc, bindR_pure]
theorem which_at {S : List (List UInt8)} {n b e : Nat} {x : Wd} {L : List Wd} {W w' : World} {y : Ending} (K : Int) (h : WhEnd S n b e (x :: L) W y w') (hk : textAt S x.text 0 = K) (h0 : 0 ≤ K) : Turned (fun k => k = b) W w' ∧ Rp n w' b L e ∧ y = .returned (.int .i64 K) := by
  obtain ⟨ht, ⟨x', L', hL, -, rfl, hr⟩ | ⟨h1, -⟩⟩ := h
  · injection hL with e1 e2
    subst e1
    subst e2
    exact ⟨ht, hr, by rw [hk]⟩
  · have h2 : textAt S (txt (x :: L)) 0 = K := hk
    omega
/-- What the first region of a declaration holds: the reader, the boxes, and the new box where it is laid. -/
structure DSt (n b e : Nat) (W : World) (L : List Wd) (box : Option Nat) (X : World) : Prop where
  rd : Rp n X b L e
  only : Only W.heap.size b W X
  r0 : X.heap[W.heap.size]? = some (brO b)
  r2 : X.heap[W.heap.size + 1]? = some zDe
  sz : W.heap.size + 2 ≤ X.heap.size
  bx : ∀ ba, box = some ba → X.heap[ba]? = some zDe ∧ W.heap.size + 2 ≤ ba ∧ ba < X.heap.size
  lt : b < W.heap.size
theorem DSt.s {n b e : Nat} {W X : World} {L : List Wd} {box : Option Nat} (h : DSt n b e W L box X) : X.cell? ⟨W.heap.size, 0, none⟩ = some (rdp b) := cell_of_row X _ 0 _ _ (0, 0) h.r0
theorem DSt.on {n b e : Nat} {W X X' : World} {L L' : List Wd} {box : Option Nat} (h : DSt n b e W L box X) (ht : Turned (fun k => k = b) X X') (hr : Rp n X' b L' e) : DSt n b e W L' box X' := by
  have hb := h.lt
  have hs := h.sz
  exact ⟨hr, h.only.on ht, (ht.block _ (by omega) (by omega)).trans h.r0, (ht.block _ (by omega) (by omega)).trans h.r2, Nat.le_trans h.sz ht.size, fun ba e => ⟨(ht.block _ (h.bx ba e).2.2 (by have := (h.bx ba e).2.1; omega)).trans (h.bx ba e).1, (h.bx ba e).2.1, Nat.lt_of_lt_of_le (h.bx ba e).2.2 ht.size⟩, hb⟩
theorem DSt.alloc {n b e : Nat} {W X : World} {L : List Wd} {box : Option Nat} (h : DSt n b e W L box X) (o : Obj) : DSt n b e W L box (X.alloc o) := h.on (Turned.alloc _ X o) (h.rd.alloc o)
theorem DSt.box {n b e : Nat} {W X : World} {L : List Wd} (h : DSt n b e W L none X) (m : Nat) (hm : X.heap.size = m) : DSt n b e W L (some m) (X.alloc zDe) := by
  have h' := h.alloc zDe
  refine ⟨h'.rd, h'.only, h'.r0, h'.r2, h'.sz, fun ba e => ?_, h.lt⟩
  injection e with e
  subst e
  subst hm
  exact ⟨heap_alloc_new X zDe, h.sz, by simp⟩
theorem DSt.done {n b e : Nat} {W X : World} {L : List Wd} {ba : Nat} {box : Option Nat} {nm : List UInt8} {base : Bool} (h : DSt n b e W L box X) (hb : box = some ba) (hnW : n ≤ W.heap.size) : ∀ Y, Y = ((X.setCell ⟨ba, 0, none⟩ (.string ⟨nm.toArray⟩)).setCell ⟨ba, 1, none⟩ (.bool base)).setCell ⟨ba, 2, none⟩ (.slice none 0 0) →
    Y.cell? ⟨W.heap.size, 0, none⟩ = some (rdp b) ∧ Only W.heap.size b W Y ∧ Rp n Y b L e ∧ DeG W.heap.size b W.heap.size ba (W.heap.size + 1) zDe nm base Y [] := by
  rintro Y rfl
  obtain ⟨g1, g2, g3⟩ := h.bx ba hb
  have hs := h.sz
  have hl := h.lt
  have hn := h.rd.at_
  have hnle : n ≤ X.heap.size := h.rd.below_
  have q0 := (set3_off (w1 := X) (b := ba) (k := W.heap.size) (y0 := .string ⟨nm.toArray⟩) (y1 := .bool base) (y2 := .slice none 0 0) (by omega)).trans h.r0
  have q1 := (set3_off (w1 := X) (b := ba) (k := W.heap.size + 1) (y0 := .string ⟨nm.toArray⟩) (y1 := .bool base) (y2 := .slice none 0 0) (by omega)).trans h.r2
  have q2 := rowS3_set (y0 := .string ⟨nm.toArray⟩) (y1 := .bool base) (y2 := .slice none 0 0) g1
  refine ⟨cell_of_row _ _ 0 _ _ (0, 0) q0, ((h.only.set (by omega) _ _).set (by omega) _ _).set (by omega) _ _, ?_, ⟨⟨by omega, by simpa using g3, hl⟩, ⟨_, q2, RowIn.nil _ _ _⟩, Nat.le_refl _, by simp; omega, by omega, q0, by omega, by omega, by simp; omega, q1⟩⟩
  exact h.rd.turned (Z := fun k => k = ba) (((Turned.set X ba 0 _).trans (Turned.set _ ba 1 _) fun _ _ e => e).trans (Turned.set _ ba 2 _) fun _ _ e => e) fun k e => by omega
theorem DSt.cast {n b e : Nat} {W X Y : World} {L : List Wd} {box : Option Nat} (h : X = Y) (g : DSt n b e W L box Y) : DSt n b e W L box X := by
  rw [h]
  exact g
theorem TxsIn.cast {X Y : World} {v : Value} {S : List (List UInt8)} (h : X = Y) (g : TxsIn Y v S) : TxsIn X v S := by
  rw [h]
  exact g
theorem txs_at (X : World) (m : Nat) (hm : X.heap.size = m) : TxsIn (X.alloc bvO) (.slice (some ⟨m, 0, none⟩) 2 2) [wBase, wView] := by
  subst hm
  exact txs_new X [wBase, wView] (by simp) 2
theorem name_h {P : Program} {ops : Array Oper} {Q : Exit → Act → World → Prop} {md : Region.Mode} {S : World → Prop} {fuel : Nat} {listed : Array Bool} {a : Act} {W : World} (h : ∀ X, X = W → wpAnyH P md ops Q S fuel listed a X) : wpAnyH P md ops Q S fuel listed a W := h W rfl
set_option maxRecDepth 100000 in
set_option maxHeartbeats 8000000 in
theorem pdecl_any {W : World} {n b e : Nat} {x : Wd} {L : List Wd} (h : Rp n W b (x :: L) e) (hx : x.text = wBase ∨ x.text = wView) : Calls Tryz.prog 84 #[rdp b] W (PEnd (declR (x.text == wBase)) deT n b e (x :: L) W) := by
  have HR := Lib.hid h
  have hnW := h.below_
  have hlt := h.lt
  have mixed : Tryz.prog.follows .mixedOrders = true := by kernel_rfl
  have H0 : Hid (DSt n b e W (x :: L) none ((W.alloc (brO b)).alloc zDe).drew) := Lib.hid
    ⟨((h.alloc (brO b)).alloc zDe).drew, (((Only.refl b W).alloc (brO b)).alloc zDe).drew, (two_new W (brO b) zDe).1, (two_new W (brO b) zDe).2, by show W.heap.size + 2 ≤ ((W.alloc (brO b)).alloc zDe).heap.size; simp, fun _ e => (by cases e), hlt⟩
  have HTk := Lib.hid (show tok1 (fun _ => true) (keys (x :: L)) = .ok x.key (keys L) from tok1_yes rfl)
  obtain ⟨base, hbase⟩ : ∃ base, base = (x.text == wBase) := ⟨_, rfl⟩
  rw [← hbase]
  obtain ⟨KK, hKt, hK0, hKb⟩ : ∃ K : Int, textAt [wBase, wView] x.text 0 = K ∧ 0 ≤ K ∧ (K == 0) = base := by
    rw [textAt_two, hbase]
    rcases hx with e | e
    · exact ⟨0, by rw [e]; decide, by decide, by rw [e]; decide⟩
    · exact ⟨1, by rw [e]; decide, by decide, by rw [e]; decide⟩
  clear hbase hx h
  cases hnR : nameR (keys L) with
  | ok nm r =>
    have HNR := Lib.hid hnR
    clear hnR
    go_enter Tryz.func84, Tryz.ntmps84
    go_wp2_with fail
    refine wp_region_held_drew (S := fun X => X.cell? ⟨W.heap.size, 0, none⟩ = some (rdp b)) (by kernel_rfl) H0.out.s (fun _ => ?_)
    refine name_h fun Xr hXr => ?_
    replace H0 := Lib.hid (DSt.cast hXr H0.out)
    clear hXr
    refine take1 0 4 (v := ?_) rfl rfl (by kernel_rfl) (by kernel_rfl) (by kernel_rfl) (fun _ _ _ h => h) (by kernel_rfl) ?_ (H0.out.s) (by simp only [put_norm]; exact rfl) ?_
    rotate_left
    · rintro X0 s0; go_simp; try (with_reducible rfl)
    refine take1 1 5 (v := ?_) rfl rfl (by kernel_rfl) (by kernel_rfl) (by kernel_rfl) (fun _ _ _ h => h) (by kernel_rfl) ?_ (H0.out.s) (by simp only [put_norm]; exact rfl) ?_
    rotate_left
    · rintro X0 s0; go_simp; try (with_reducible rfl)
    refine take1 2 6 (v := ?_) rfl rfl (by kernel_rfl) (by kernel_rfl) (by kernel_rfl) (fun _ _ _ h => h) (by kernel_rfl) ?_ (H0.out.s) (by simp only [put_norm]; exact rfl) ?_
    rotate_left
    · rintro X0 s0; go_simp; try (with_reducible rfl)
    refine take1 6 10 (v := ?_) rfl rfl (by kernel_rfl) (by kernel_rfl) (by kernel_rfl) (fun _ _ _ h => h) (by kernel_rfl) ?_ (H0.out.s) (by simp only [put_norm]; exact rfl) ?_
    rotate_left
    · rintro X0 s0; go_simp; try (with_reducible rfl)
    refine wpAnyH_ready (rs := [3, 9]) (by kernel_rfl) (by simp) ?_
    refine AllReadyH.cons rfl (fun K hK => ?_) ?_
    · go_simp
      have H1a := Lib.hid (H0.out.alloc bvO)
      have HT1 := Lib.hid (txs_at Xr (Xr.heap.size) rfl)
      refine hK.out _ _ H1a.out.s (fun _ => ?_)
      clear hK K
      refine name_h fun X1 hX1 => ?_
      replace H1a := Lib.hid (DSt.cast hX1 H1a.out)
      replace HT1 := Lib.hid (TxsIn.cast hX1 HT1.out)
      clear hX1
      refine wpAnyH_ready (rs := [4, 9]) (by kernel_rfl) (by simp) ?_
      refine AllReadyH.cons rfl (fun K hK => ?_) ?_
      · go_simp
        refine (pwhich_any (S := [wBase, wView]) H1a.out.rd HT1.out (by decide)).mono ?_
        rintro y w1 hw
        obtain ⟨ht, hr, rfl⟩ := which_at KK hw hKt hK0
        have H2w := Lib.hid (H1a.out.on ht hr)
        clear hw ht hr
        go_wp2_with fail
        refine hK.out _ _ H2w.out.s (fun _ => ?_)
        clear hK K
        refine take1 5 9 (v := ?_) rfl rfl (by kernel_rfl) (by kernel_rfl) (by kernel_rfl) (fun _ _ _ h => h) (by kernel_rfl) ?_ (H2w.out.s) (by simp only [put_norm]; exact rfl) ?_
        rotate_left
        · rintro X0 s0; go_simp; try (with_reducible rfl)
        try simp only [hKb]
        refine wpAnyH_ready (rs := [7, 9]) (by kernel_rfl) (by simp) ?_
        refine AllReadyH.cons rfl (fun K hK => ?_) ?_
        · go_simp
          refine (pname_any H2w.out.rd).mono ?_
          rintro y w2 hn
          obtain ⟨ht2, L2, v, e2, hs2, rfl, hv2, hr2⟩ := PEnd.yes hn HNR.out
          obtain rfl : v = .string ⟨nm.toArray⟩ := hv2
          have H3n := Lib.hid (H2w.out.on ht2 hr2)
          have HL2 := Lib.hid (And.intro e2 hs2)
          clear hn ht2 e2 hs2 hr2
          go_wp2_with fail
          refine hK.out _ _ H3n.out.s (fun _ => ?_)
          clear hK K
          refine take1 8 12 (v := ?_) rfl rfl (by kernel_rfl) (by kernel_rfl) (by kernel_rfl) (fun _ _ _ h => h) (by kernel_rfl) ?_ (H3n.out.s) (by simp only [put_norm]; exact rfl) ?_
          rotate_left
          · rintro X0 s0; go_simp; try (with_reducible rfl)
          refine wpAnyH_ready (rs := [9]) (by kernel_rfl) (by simp) ?_
          refine AllReadyH.cons rfl (fun K hK => ?_) AllReadyH.nil
          go_simp
          have H4b := Lib.hid (H3n.out.box (w2.heap.size) rfl)
          refine hK.out _ _ H4b.out.s (fun _ => ?_)
          clear hK K
          refine name_h fun X4 hX4 => ?_
          replace H4b := Lib.hid (DSt.cast hX4 H4b.out)
          clear hX4
          obtain ⟨⟨e0, e1, e2⟩, j0, j1, j2⟩ := cells3 (H4b.out.bx _ rfl).1
          have HY := Lib.hid (H4b.out.done (nm := nm) (base := base) rfl hnW)
          refine wpAnyH_ready (rs := [10]) (by kernel_rfl) (by simp) ?_
          refine AllReadyH.cons rfl (fun K hK => ?_) AllReadyH.nil
          go_simp
          refine hK.out _ _ (HY.out _ rfl).1 (fun _ => ?_)
          clear hK K e0 e1 e2 j0 j1 j2
          refine wpAnyH_done (by kernel_rfl) ?_ _
          have x3 : _ := (HY.out _ rfl).1
          have HO3 := Lib.hid (HY.out _ rfl).2.1
          have HR3 := Lib.hid (HY.out _ rfl).2.2.1
          have HG3 := Lib.hid (HY.out _ rfl).2.2.2
          go_wp2_with fail
          refine (penclosed_any (sepL (isM [44]) kindR) 114 #[.pointer (some ⟨W.heap.size, 0, none⟩), .pointer (some ⟨w2.heap.size, 0, none⟩)] (fun _ _ => by kernel_rfl) HR3.out HO3.out HG3.out (fun _ _ _ h ht => h.on ht) (fun _ _ ho hg hr => pdecl1_any hg ho hr hnW)).mono ?_
          rintro y w5 ⟨ho, ⟨zs, L5, hp, hs, rfl, hg, hr⟩ | ⟨L5, hp, hs, rfl⟩⟩
          rotate_left
          · have HE5 := Lib.hid (And.intro ho (And.intro hp hs))
            clear ho hp hs
            go_wp2_with fail
            obtain ⟨ho, hp, hs⟩ := HE5.out
            exact ⟨rfl, Only.turned ho, .inr ⟨L5, by rw [declR_eq]; exact (bind_ok HTk.out).trans ((bind_ok (HNR.out.trans (by rw [HL2.out.1]))).trans (bind_bad hp)), hs.trans (HL2.out.2.trans (List.suffix_cons x L)), rfl⟩⟩
          have HE5 := Lib.hid (And.intro ho (And.intro hp (And.intro hs (And.intro hg hr))))
          have x5 : w5.cell? ⟨W.heap.size, 0, none⟩ = some (rdp b) := cell_of_row w5 _ 0 _ _ (0, 0) hg.2.2.2.2.2.1
          clear ho hp hs hg hr x3
          go_wp2_with fail
          refine (pmust_any [46] (by decide) HE5.out.2.2.2.2).mono ?_
          rintro y w6 ⟨ht, ⟨x6, L6, rfl, hx6, rfl, hr⟩ | ⟨hx6, rfl⟩⟩
          rotate_left
          · have HE6 := Lib.hid (And.intro ht hx6)
            clear ht hx6
            go_wp2_with fail
            obtain ⟨ho, hp, hs, hg, hr⟩ := HE5.out
            exact ⟨rfl, Only.turned (ho.on HE6.out.1), .inr ⟨L5, by rw [declR_eq]; exact (bind_ok HTk.out).trans ((bind_ok (HNR.out.trans (by rw [HL2.out.1]))).trans ((bind_ok hp).trans (bind_bad (mark_no hr.tidy rfl HE6.out.2)))), hs.trans (HL2.out.2.trans (List.suffix_cons x L)), rfl⟩⟩
          have HE6 := Lib.hid (And.intro ht (And.intro hr hx6))
          obtain ⟨⟨g1, g2, -⟩, ⟨u, g3, g4⟩, -, -, -, -, -, -, k3, k4⟩ := HE5.out.2.2.2.1.on ht
          obtain ⟨pu, cu, rfl, -⟩ := id g4
          obtain ⟨⟨d0, d1, d2⟩, m0, m1, m2⟩ := cells3 g3
          obtain ⟨⟨p0, p1, p2⟩, o0, o1, o2⟩ := cells3 k4
          have HK := Lib.hid k4
          have HV := Lib.hid g4
          clear ht hr hx6 g3 g4 k4 x5
          go_wp2_with fail
          refine bodyPost_ret (results_cell_row (fn := Tryz.f84) (by rfl) _ _ _ _ _ _ _ (by rfl) (rowS3_set HK.out) Tryz.underlying30 (by rfl) (by kernel_rfl)) (by rfl) ?_
          obtain ⟨ho, hp, hs, hg, hr5⟩ := HE5.out
          obtain ⟨ht, hr, hx6⟩ := HE6.out
          refine ⟨Only.turned ((((ho.on ht).set (Nat.le_succ _) _ _).set (Nat.le_succ _) _ _).set (Nat.le_succ _) _ _), .inl ⟨⟨base, nm, zs⟩, L6, _, ?_, (List.suffix_cons x6 L6).trans (hs.trans (HL2.out.2.trans (List.suffix_cons x L))), rfl, ⟨_, rfl, ?_⟩, ((hr.set (by omega) _ _).set (by omega) _ _).set (by omega) _ _⟩⟩
          · rw [declR_eq]
            exact (bind_ok HTk.out).trans ((bind_ok (HNR.out.trans (by rw [HL2.out.1]))).trans ((bind_ok hp).trans ((bind_ok (mark_yes (hr5.tidy x6 List.mem_cons_self) rfl hx6)).trans rfl)))
          · exact HV.out.keep (by simp) fun k e hk => ⟨e.1, set3_off e.2.2⟩
        refine AllReadyH.cons rfl (fun K hK => ?_) AllReadyH.nil
        go_simp
        have H3b := Lib.hid (H2w.out.box (w1.heap.size) rfl)
        refine hK.out _ _ H3b.out.s (fun _ => ?_)
        clear hK K
        refine name_h fun X3 hX3 => ?_
        replace H3b := Lib.hid (DSt.cast hX3 H3b.out)
        clear hX3
        refine wpAnyH_ready (rs := [7]) (by kernel_rfl) (by simp) ?_
        refine AllReadyH.cons rfl (fun K hK => ?_) AllReadyH.nil
        go_simp
        refine (pname_any H3b.out.rd).mono ?_
        rintro y w2 hn
        obtain ⟨ht2, L2, v, e2, hs2, rfl, hv2, hr2⟩ := PEnd.yes hn HNR.out
        obtain rfl : v = .string ⟨nm.toArray⟩ := hv2
        have H6n := Lib.hid (H3b.out.on ht2 hr2)
        have HL2 := Lib.hid (And.intro e2 hs2)
        clear hn ht2 e2 hs2 hr2
        go_wp2_with fail
        refine hK.out _ _ H6n.out.s (fun _ => ?_)
        clear hK K
        refine take1 8 12 (v := ?_) rfl rfl (by kernel_rfl) (by kernel_rfl) (by kernel_rfl) (fun _ _ _ h => h) (by kernel_rfl) ?_ (H6n.out.s) (by simp only [put_norm]; exact rfl) ?_
        rotate_left
        · rintro X0 s0; go_simp; try (with_reducible rfl)
        obtain ⟨⟨e0, e1, e2⟩, j0, j1, j2⟩ := cells3 (H6n.out.bx _ rfl).1
        have HY := Lib.hid (H6n.out.done (nm := nm) (base := base) rfl hnW)
        refine wpAnyH_ready (rs := [10]) (by kernel_rfl) (by simp) ?_
        refine AllReadyH.cons rfl (fun K hK => ?_) AllReadyH.nil
        go_simp
        refine hK.out _ _ (HY.out _ rfl).1 (fun _ => ?_)
        clear hK K e0 e1 e2 j0 j1 j2
        refine wpAnyH_done (by kernel_rfl) ?_ _
        have x3 : _ := (HY.out _ rfl).1
        have HO3 := Lib.hid (HY.out _ rfl).2.1
        have HR3 := Lib.hid (HY.out _ rfl).2.2.1
        have HG3 := Lib.hid (HY.out _ rfl).2.2.2
        go_wp2_with fail
        refine (penclosed_any (sepL (isM [44]) kindR) 114 #[.pointer (some ⟨W.heap.size, 0, none⟩), .pointer (some ⟨w1.heap.size, 0, none⟩)] (fun _ _ => by kernel_rfl) HR3.out HO3.out HG3.out (fun _ _ _ h ht => h.on ht) (fun _ _ ho hg hr => pdecl1_any hg ho hr hnW)).mono ?_
        rintro y w5 ⟨ho, ⟨zs, L5, hp, hs, rfl, hg, hr⟩ | ⟨L5, hp, hs, rfl⟩⟩
        rotate_left
        · have HE5 := Lib.hid (And.intro ho (And.intro hp hs))
          clear ho hp hs
          go_wp2_with fail
          obtain ⟨ho, hp, hs⟩ := HE5.out
          exact ⟨rfl, Only.turned ho, .inr ⟨L5, by rw [declR_eq]; exact (bind_ok HTk.out).trans ((bind_ok (HNR.out.trans (by rw [HL2.out.1]))).trans (bind_bad hp)), hs.trans (HL2.out.2.trans (List.suffix_cons x L)), rfl⟩⟩
        have HE5 := Lib.hid (And.intro ho (And.intro hp (And.intro hs (And.intro hg hr))))
        have x5 : w5.cell? ⟨W.heap.size, 0, none⟩ = some (rdp b) := cell_of_row w5 _ 0 _ _ (0, 0) hg.2.2.2.2.2.1
        clear ho hp hs hg hr x3
        go_wp2_with fail
        refine (pmust_any [46] (by decide) HE5.out.2.2.2.2).mono ?_
        rintro y w6 ⟨ht, ⟨x6, L6, rfl, hx6, rfl, hr⟩ | ⟨hx6, rfl⟩⟩
        rotate_left
        · have HE6 := Lib.hid (And.intro ht hx6)
          clear ht hx6
          go_wp2_with fail
          obtain ⟨ho, hp, hs, hg, hr⟩ := HE5.out
          exact ⟨rfl, Only.turned (ho.on HE6.out.1), .inr ⟨L5, by rw [declR_eq]; exact (bind_ok HTk.out).trans ((bind_ok (HNR.out.trans (by rw [HL2.out.1]))).trans ((bind_ok hp).trans (bind_bad (mark_no hr.tidy rfl HE6.out.2)))), hs.trans (HL2.out.2.trans (List.suffix_cons x L)), rfl⟩⟩
        have HE6 := Lib.hid (And.intro ht (And.intro hr hx6))
        obtain ⟨⟨g1, g2, -⟩, ⟨u, g3, g4⟩, -, -, -, -, -, -, k3, k4⟩ := HE5.out.2.2.2.1.on ht
        obtain ⟨pu, cu, rfl, -⟩ := id g4
        obtain ⟨⟨d0, d1, d2⟩, m0, m1, m2⟩ := cells3 g3
        obtain ⟨⟨p0, p1, p2⟩, o0, o1, o2⟩ := cells3 k4
        have HK := Lib.hid k4
        have HV := Lib.hid g4
        clear ht hr hx6 g3 g4 k4 x5
        go_wp2_with fail
        refine bodyPost_ret (results_cell_row (fn := Tryz.f84) (by rfl) _ _ _ _ _ _ _ (by rfl) (rowS3_set HK.out) Tryz.underlying30 (by rfl) (by kernel_rfl)) (by rfl) ?_
        obtain ⟨ho, hp, hs, hg, hr5⟩ := HE5.out
        obtain ⟨ht, hr, hx6⟩ := HE6.out
        refine ⟨Only.turned ((((ho.on ht).set (Nat.le_succ _) _ _).set (Nat.le_succ _) _ _).set (Nat.le_succ _) _ _), .inl ⟨⟨base, nm, zs⟩, L6, _, ?_, (List.suffix_cons x6 L6).trans (hs.trans (HL2.out.2.trans (List.suffix_cons x L))), rfl, ⟨_, rfl, ?_⟩, ((hr.set (by omega) _ _).set (by omega) _ _).set (by omega) _ _⟩⟩
        · rw [declR_eq]
          exact (bind_ok HTk.out).trans ((bind_ok (HNR.out.trans (by rw [HL2.out.1]))).trans ((bind_ok hp).trans ((bind_ok (mark_yes (hr5.tidy x6 List.mem_cons_self) rfl hx6)).trans rfl)))
        · exact HV.out.keep (by simp) fun k e hk => ⟨e.1, set3_off e.2.2⟩
      refine AllReadyH.cons rfl (fun K hK => ?_) AllReadyH.nil
      go_simp
      have H2b := Lib.hid (H1a.out.box (X1.heap.size) rfl)
      have HT2b := Lib.hid (TxsIn.keep HT1.out ((Below.refl _ _).alloc (Nat.le_refl _) zDe))
      refine hK.out _ _ H2b.out.s (fun _ => ?_)
      clear hK K
      refine name_h fun X2 hX2 => ?_
      replace H2b := Lib.hid (DSt.cast hX2 H2b.out)
      replace HT2b := Lib.hid (TxsIn.cast hX2 HT2b.out)
      clear hX2
      refine wpAnyH_ready (rs := [4]) (by kernel_rfl) (by simp) ?_
      refine AllReadyH.cons rfl (fun K hK => ?_) AllReadyH.nil
      go_simp
      refine (pwhich_any (S := [wBase, wView]) H2b.out.rd HT2b.out (by decide)).mono ?_
      rintro y w1 hw
      obtain ⟨ht, hr, rfl⟩ := which_at KK hw hKt hK0
      have H8w := Lib.hid (H2b.out.on ht hr)
      clear hw ht hr
      go_wp2_with fail
      refine hK.out _ _ H8w.out.s (fun _ => ?_)
      clear hK K
      refine take1 5 9 (v := ?_) rfl rfl (by kernel_rfl) (by kernel_rfl) (by kernel_rfl) (fun _ _ _ h => h) (by kernel_rfl) ?_ (H8w.out.s) (by simp only [put_norm]; exact rfl) ?_
      rotate_left
      · rintro X0 s0; go_simp; try (with_reducible rfl)
      try simp only [hKb]
      refine wpAnyH_ready (rs := [7]) (by kernel_rfl) (by simp) ?_
      refine AllReadyH.cons rfl (fun K hK => ?_) AllReadyH.nil
      go_simp
      refine (pname_any H8w.out.rd).mono ?_
      rintro y w2 hn
      obtain ⟨ht2, L2, v, e2, hs2, rfl, hv2, hr2⟩ := PEnd.yes hn HNR.out
      obtain rfl : v = .string ⟨nm.toArray⟩ := hv2
      have H9n := Lib.hid (H8w.out.on ht2 hr2)
      have HL2 := Lib.hid (And.intro e2 hs2)
      clear hn ht2 e2 hs2 hr2
      go_wp2_with fail
      refine hK.out _ _ H9n.out.s (fun _ => ?_)
      clear hK K
      refine take1 8 12 (v := ?_) rfl rfl (by kernel_rfl) (by kernel_rfl) (by kernel_rfl) (fun _ _ _ h => h) (by kernel_rfl) ?_ (H9n.out.s) (by simp only [put_norm]; exact rfl) ?_
      rotate_left
      · rintro X0 s0; go_simp; try (with_reducible rfl)
      obtain ⟨⟨e0, e1, e2⟩, j0, j1, j2⟩ := cells3 (H9n.out.bx _ rfl).1
      have HY := Lib.hid (H9n.out.done (nm := nm) (base := base) rfl hnW)
      refine wpAnyH_ready (rs := [10]) (by kernel_rfl) (by simp) ?_
      refine AllReadyH.cons rfl (fun K hK => ?_) AllReadyH.nil
      go_simp
      refine hK.out _ _ (HY.out _ rfl).1 (fun _ => ?_)
      clear hK K e0 e1 e2 j0 j1 j2
      refine wpAnyH_done (by kernel_rfl) ?_ _
      have x3 : _ := (HY.out _ rfl).1
      have HO3 := Lib.hid (HY.out _ rfl).2.1
      have HR3 := Lib.hid (HY.out _ rfl).2.2.1
      have HG3 := Lib.hid (HY.out _ rfl).2.2.2
      go_wp2_with fail
      refine (penclosed_any (sepL (isM [44]) kindR) 114 #[.pointer (some ⟨W.heap.size, 0, none⟩), .pointer (some ⟨X1.heap.size, 0, none⟩)] (fun _ _ => by kernel_rfl) HR3.out HO3.out HG3.out (fun _ _ _ h ht => h.on ht) (fun _ _ ho hg hr => pdecl1_any hg ho hr hnW)).mono ?_
      rintro y w5 ⟨ho, ⟨zs, L5, hp, hs, rfl, hg, hr⟩ | ⟨L5, hp, hs, rfl⟩⟩
      rotate_left
      · have HE5 := Lib.hid (And.intro ho (And.intro hp hs))
        clear ho hp hs
        go_wp2_with fail
        obtain ⟨ho, hp, hs⟩ := HE5.out
        exact ⟨rfl, Only.turned ho, .inr ⟨L5, by rw [declR_eq]; exact (bind_ok HTk.out).trans ((bind_ok (HNR.out.trans (by rw [HL2.out.1]))).trans (bind_bad hp)), hs.trans (HL2.out.2.trans (List.suffix_cons x L)), rfl⟩⟩
      have HE5 := Lib.hid (And.intro ho (And.intro hp (And.intro hs (And.intro hg hr))))
      have x5 : w5.cell? ⟨W.heap.size, 0, none⟩ = some (rdp b) := cell_of_row w5 _ 0 _ _ (0, 0) hg.2.2.2.2.2.1
      clear ho hp hs hg hr x3
      go_wp2_with fail
      refine (pmust_any [46] (by decide) HE5.out.2.2.2.2).mono ?_
      rintro y w6 ⟨ht, ⟨x6, L6, rfl, hx6, rfl, hr⟩ | ⟨hx6, rfl⟩⟩
      rotate_left
      · have HE6 := Lib.hid (And.intro ht hx6)
        clear ht hx6
        go_wp2_with fail
        obtain ⟨ho, hp, hs, hg, hr⟩ := HE5.out
        exact ⟨rfl, Only.turned (ho.on HE6.out.1), .inr ⟨L5, by rw [declR_eq]; exact (bind_ok HTk.out).trans ((bind_ok (HNR.out.trans (by rw [HL2.out.1]))).trans ((bind_ok hp).trans (bind_bad (mark_no hr.tidy rfl HE6.out.2)))), hs.trans (HL2.out.2.trans (List.suffix_cons x L)), rfl⟩⟩
      have HE6 := Lib.hid (And.intro ht (And.intro hr hx6))
      obtain ⟨⟨g1, g2, -⟩, ⟨u, g3, g4⟩, -, -, -, -, -, -, k3, k4⟩ := HE5.out.2.2.2.1.on ht
      obtain ⟨pu, cu, rfl, -⟩ := id g4
      obtain ⟨⟨d0, d1, d2⟩, m0, m1, m2⟩ := cells3 g3
      obtain ⟨⟨p0, p1, p2⟩, o0, o1, o2⟩ := cells3 k4
      have HK := Lib.hid k4
      have HV := Lib.hid g4
      clear ht hr hx6 g3 g4 k4 x5
      go_wp2_with fail
      refine bodyPost_ret (results_cell_row (fn := Tryz.f84) (by rfl) _ _ _ _ _ _ _ (by rfl) (rowS3_set HK.out) Tryz.underlying30 (by rfl) (by kernel_rfl)) (by rfl) ?_
      obtain ⟨ho, hp, hs, hg, hr5⟩ := HE5.out
      obtain ⟨ht, hr, hx6⟩ := HE6.out
      refine ⟨Only.turned ((((ho.on ht).set (Nat.le_succ _) _ _).set (Nat.le_succ _) _ _).set (Nat.le_succ _) _ _), .inl ⟨⟨base, nm, zs⟩, L6, _, ?_, (List.suffix_cons x6 L6).trans (hs.trans (HL2.out.2.trans (List.suffix_cons x L))), rfl, ⟨_, rfl, ?_⟩, ((hr.set (by omega) _ _).set (by omega) _ _).set (by omega) _ _⟩⟩
      · rw [declR_eq]
        exact (bind_ok HTk.out).trans ((bind_ok (HNR.out.trans (by rw [HL2.out.1]))).trans ((bind_ok hp).trans ((bind_ok (mark_yes (hr5.tidy x6 List.mem_cons_self) rfl hx6)).trans rfl)))
      · exact HV.out.keep (by simp) fun k e hk => ⟨e.1, set3_off e.2.2⟩
    refine AllReadyH.cons rfl (fun K hK => ?_) AllReadyH.nil
    go_simp
    have H1b := Lib.hid (H0.out.box (Xr.heap.size) rfl)
    refine hK.out _ _ H1b.out.s (fun _ => ?_)
    clear hK K
    refine name_h fun X1 hX1 => ?_
    replace H1b := Lib.hid (DSt.cast hX1 H1b.out)
    clear hX1
    refine wpAnyH_ready (rs := [3]) (by kernel_rfl) (by simp) ?_
    refine AllReadyH.cons rfl (fun K hK => ?_) AllReadyH.nil
    go_simp
    have H11a := Lib.hid (H1b.out.alloc bvO)
    have HT11 := Lib.hid (txs_at X1 (X1.heap.size) rfl)
    refine hK.out _ _ H11a.out.s (fun _ => ?_)
    clear hK K
    refine name_h fun X11 hX11 => ?_
    replace H11a := Lib.hid (DSt.cast hX11 H11a.out)
    replace HT11 := Lib.hid (TxsIn.cast hX11 HT11.out)
    clear hX11
    refine wpAnyH_ready (rs := [4]) (by kernel_rfl) (by simp) ?_
    refine AllReadyH.cons rfl (fun K hK => ?_) AllReadyH.nil
    go_simp
    refine (pwhich_any (S := [wBase, wView]) H11a.out.rd HT11.out (by decide)).mono ?_
    rintro y w1 hw
    obtain ⟨ht, hr, rfl⟩ := which_at KK hw hKt hK0
    have H12w := Lib.hid (H11a.out.on ht hr)
    clear hw ht hr
    go_wp2_with fail
    refine hK.out _ _ H12w.out.s (fun _ => ?_)
    clear hK K
    refine take1 5 9 (v := ?_) rfl rfl (by kernel_rfl) (by kernel_rfl) (by kernel_rfl) (fun _ _ _ h => h) (by kernel_rfl) ?_ (H12w.out.s) (by simp only [put_norm]; exact rfl) ?_
    rotate_left
    · rintro X0 s0; go_simp; try (with_reducible rfl)
    try simp only [hKb]
    refine wpAnyH_ready (rs := [7]) (by kernel_rfl) (by simp) ?_
    refine AllReadyH.cons rfl (fun K hK => ?_) AllReadyH.nil
    go_simp
    refine (pname_any H12w.out.rd).mono ?_
    rintro y w2 hn
    obtain ⟨ht2, L2, v, e2, hs2, rfl, hv2, hr2⟩ := PEnd.yes hn HNR.out
    obtain rfl : v = .string ⟨nm.toArray⟩ := hv2
    have H13n := Lib.hid (H12w.out.on ht2 hr2)
    have HL2 := Lib.hid (And.intro e2 hs2)
    clear hn ht2 e2 hs2 hr2
    go_wp2_with fail
    refine hK.out _ _ H13n.out.s (fun _ => ?_)
    clear hK K
    refine take1 8 12 (v := ?_) rfl rfl (by kernel_rfl) (by kernel_rfl) (by kernel_rfl) (fun _ _ _ h => h) (by kernel_rfl) ?_ (H13n.out.s) (by simp only [put_norm]; exact rfl) ?_
    rotate_left
    · rintro X0 s0; go_simp; try (with_reducible rfl)
    obtain ⟨⟨e0, e1, e2⟩, j0, j1, j2⟩ := cells3 (H13n.out.bx _ rfl).1
    have HY := Lib.hid (H13n.out.done (nm := nm) (base := base) rfl hnW)
    refine wpAnyH_ready (rs := [10]) (by kernel_rfl) (by simp) ?_
    refine AllReadyH.cons rfl (fun K hK => ?_) AllReadyH.nil
    go_simp
    refine hK.out _ _ (HY.out _ rfl).1 (fun _ => ?_)
    clear hK K e0 e1 e2 j0 j1 j2
    refine wpAnyH_done (by kernel_rfl) ?_ _
    have x3 : _ := (HY.out _ rfl).1
    have HO3 := Lib.hid (HY.out _ rfl).2.1
    have HR3 := Lib.hid (HY.out _ rfl).2.2.1
    have HG3 := Lib.hid (HY.out _ rfl).2.2.2
    go_wp2_with fail
    refine (penclosed_any (sepL (isM [44]) kindR) 114 #[.pointer (some ⟨W.heap.size, 0, none⟩), .pointer (some ⟨Xr.heap.size, 0, none⟩)] (fun _ _ => by kernel_rfl) HR3.out HO3.out HG3.out (fun _ _ _ h ht => h.on ht) (fun _ _ ho hg hr => pdecl1_any hg ho hr hnW)).mono ?_
    rintro y w5 ⟨ho, ⟨zs, L5, hp, hs, rfl, hg, hr⟩ | ⟨L5, hp, hs, rfl⟩⟩
    rotate_left
    · have HE5 := Lib.hid (And.intro ho (And.intro hp hs))
      clear ho hp hs
      go_wp2_with fail
      obtain ⟨ho, hp, hs⟩ := HE5.out
      exact ⟨rfl, Only.turned ho, .inr ⟨L5, by rw [declR_eq]; exact (bind_ok HTk.out).trans ((bind_ok (HNR.out.trans (by rw [HL2.out.1]))).trans (bind_bad hp)), hs.trans (HL2.out.2.trans (List.suffix_cons x L)), rfl⟩⟩
    have HE5 := Lib.hid (And.intro ho (And.intro hp (And.intro hs (And.intro hg hr))))
    have x5 : w5.cell? ⟨W.heap.size, 0, none⟩ = some (rdp b) := cell_of_row w5 _ 0 _ _ (0, 0) hg.2.2.2.2.2.1
    clear ho hp hs hg hr x3
    go_wp2_with fail
    refine (pmust_any [46] (by decide) HE5.out.2.2.2.2).mono ?_
    rintro y w6 ⟨ht, ⟨x6, L6, rfl, hx6, rfl, hr⟩ | ⟨hx6, rfl⟩⟩
    rotate_left
    · have HE6 := Lib.hid (And.intro ht hx6)
      clear ht hx6
      go_wp2_with fail
      obtain ⟨ho, hp, hs, hg, hr⟩ := HE5.out
      exact ⟨rfl, Only.turned (ho.on HE6.out.1), .inr ⟨L5, by rw [declR_eq]; exact (bind_ok HTk.out).trans ((bind_ok (HNR.out.trans (by rw [HL2.out.1]))).trans ((bind_ok hp).trans (bind_bad (mark_no hr.tidy rfl HE6.out.2)))), hs.trans (HL2.out.2.trans (List.suffix_cons x L)), rfl⟩⟩
    have HE6 := Lib.hid (And.intro ht (And.intro hr hx6))
    obtain ⟨⟨g1, g2, -⟩, ⟨u, g3, g4⟩, -, -, -, -, -, -, k3, k4⟩ := HE5.out.2.2.2.1.on ht
    obtain ⟨pu, cu, rfl, -⟩ := id g4
    obtain ⟨⟨d0, d1, d2⟩, m0, m1, m2⟩ := cells3 g3
    obtain ⟨⟨p0, p1, p2⟩, o0, o1, o2⟩ := cells3 k4
    have HK := Lib.hid k4
    have HV := Lib.hid g4
    clear ht hr hx6 g3 g4 k4 x5
    go_wp2_with fail
    refine bodyPost_ret (results_cell_row (fn := Tryz.f84) (by rfl) _ _ _ _ _ _ _ (by rfl) (rowS3_set HK.out) Tryz.underlying30 (by rfl) (by kernel_rfl)) (by rfl) ?_
    obtain ⟨ho, hp, hs, hg, hr5⟩ := HE5.out
    obtain ⟨ht, hr, hx6⟩ := HE6.out
    refine ⟨Only.turned ((((ho.on ht).set (Nat.le_succ _) _ _).set (Nat.le_succ _) _ _).set (Nat.le_succ _) _ _), .inl ⟨⟨base, nm, zs⟩, L6, _, ?_, (List.suffix_cons x6 L6).trans (hs.trans (HL2.out.2.trans (List.suffix_cons x L))), rfl, ⟨_, rfl, ?_⟩, ((hr.set (by omega) _ _).set (by omega) _ _).set (by omega) _ _⟩⟩
    · rw [declR_eq]
      exact (bind_ok HTk.out).trans ((bind_ok (HNR.out.trans (by rw [HL2.out.1]))).trans ((bind_ok hp).trans ((bind_ok (mark_yes (hr5.tidy x6 List.mem_cons_self) rfl hx6)).trans rfl)))
    · exact HV.out.keep (by simp) fun k e hk => ⟨e.1, set3_off e.2.2⟩
  | bad r =>
    have HNR := Lib.hid hnR
    clear hnR
    go_enter Tryz.func84, Tryz.ntmps84
    go_wp2_with fail
    refine wp_region_held_drew (S := fun X => X.cell? ⟨W.heap.size, 0, none⟩ = some (rdp b)) (by kernel_rfl) H0.out.s (fun _ => ?_)
    refine name_h fun Xr hXr => ?_
    replace H0 := Lib.hid (DSt.cast hXr H0.out)
    clear hXr
    refine take1 0 4 (v := ?_) rfl rfl (by kernel_rfl) (by kernel_rfl) (by kernel_rfl) (fun _ _ _ h => h) (by kernel_rfl) ?_ (H0.out.s) (by simp only [put_norm]; exact rfl) ?_
    rotate_left
    · rintro X0 s0; go_simp; try (with_reducible rfl)
    refine take1 1 5 (v := ?_) rfl rfl (by kernel_rfl) (by kernel_rfl) (by kernel_rfl) (fun _ _ _ h => h) (by kernel_rfl) ?_ (H0.out.s) (by simp only [put_norm]; exact rfl) ?_
    rotate_left
    · rintro X0 s0; go_simp; try (with_reducible rfl)
    refine take1 2 6 (v := ?_) rfl rfl (by kernel_rfl) (by kernel_rfl) (by kernel_rfl) (fun _ _ _ h => h) (by kernel_rfl) ?_ (H0.out.s) (by simp only [put_norm]; exact rfl) ?_
    rotate_left
    · rintro X0 s0; go_simp; try (with_reducible rfl)
    refine take1 6 10 (v := ?_) rfl rfl (by kernel_rfl) (by kernel_rfl) (by kernel_rfl) (fun _ _ _ h => h) (by kernel_rfl) ?_ (H0.out.s) (by simp only [put_norm]; exact rfl) ?_
    rotate_left
    · rintro X0 s0; go_simp; try (with_reducible rfl)
    refine wpAnyH_ready (rs := [3, 9]) (by kernel_rfl) (by simp) ?_
    refine AllReadyH.cons rfl (fun K hK => ?_) ?_
    · go_simp
      have H15a := Lib.hid (H0.out.alloc bvO)
      have HT15 := Lib.hid (txs_at Xr (Xr.heap.size) rfl)
      refine hK.out _ _ H15a.out.s (fun _ => ?_)
      clear hK K
      refine name_h fun X15 hX15 => ?_
      replace H15a := Lib.hid (DSt.cast hX15 H15a.out)
      replace HT15 := Lib.hid (TxsIn.cast hX15 HT15.out)
      clear hX15
      refine wpAnyH_ready (rs := [4, 9]) (by kernel_rfl) (by simp) ?_
      refine AllReadyH.cons rfl (fun K hK => ?_) ?_
      · go_simp
        refine (pwhich_any (S := [wBase, wView]) H15a.out.rd HT15.out (by decide)).mono ?_
        rintro y w1 hw
        obtain ⟨ht, hr, rfl⟩ := which_at KK hw hKt hK0
        have H16w := Lib.hid (H15a.out.on ht hr)
        clear hw ht hr
        go_wp2_with fail
        refine hK.out _ _ H16w.out.s (fun _ => ?_)
        clear hK K
        refine take1 5 9 (v := ?_) rfl rfl (by kernel_rfl) (by kernel_rfl) (by kernel_rfl) (fun _ _ _ h => h) (by kernel_rfl) ?_ (H16w.out.s) (by simp only [put_norm]; exact rfl) ?_
        rotate_left
        · rintro X0 s0; go_simp; try (with_reducible rfl)
        try simp only [hKb]
        refine wpAnyH_ready (rs := [7, 9]) (by kernel_rfl) (by simp) ?_
        refine AllReadyH.cons rfl (fun K hK => ?_) ?_
        · go_simp
          refine (pname_any H16w.out.rd).mono ?_
          rintro y w2 hn
          obtain ⟨ht2, L2, e2, hs2, rfl⟩ := PEnd.bad_ hn HNR.out
          exact ⟨rfl, Only.turned (H16w.out.only.on ht2), .inr ⟨L2, by rw [declR_eq]; exact (bind_ok HTk.out).trans (bind_bad (HNR.out.trans (by rw [e2]))), hs2.trans (List.suffix_cons x L), rfl⟩⟩
        refine AllReadyH.cons rfl (fun K hK => ?_) AllReadyH.nil
        go_simp
        have H17b := Lib.hid (H16w.out.box (w1.heap.size) rfl)
        refine hK.out _ _ H17b.out.s (fun _ => ?_)
        clear hK K
        refine name_h fun X17 hX17 => ?_
        replace H17b := Lib.hid (DSt.cast hX17 H17b.out)
        clear hX17
        refine wpAnyH_ready (rs := [7]) (by kernel_rfl) (by simp) ?_
        refine AllReadyH.cons rfl (fun K hK => ?_) AllReadyH.nil
        go_simp
        refine (pname_any H17b.out.rd).mono ?_
        rintro y w2 hn
        obtain ⟨ht2, L2, e2, hs2, rfl⟩ := PEnd.bad_ hn HNR.out
        exact ⟨rfl, Only.turned (H17b.out.only.on ht2), .inr ⟨L2, by rw [declR_eq]; exact (bind_ok HTk.out).trans (bind_bad (HNR.out.trans (by rw [e2]))), hs2.trans (List.suffix_cons x L), rfl⟩⟩
      refine AllReadyH.cons rfl (fun K hK => ?_) AllReadyH.nil
      go_simp
      have H16b := Lib.hid (H15a.out.box (X15.heap.size) rfl)
      have HT16b := Lib.hid (TxsIn.keep HT15.out ((Below.refl _ _).alloc (Nat.le_refl _) zDe))
      refine hK.out _ _ H16b.out.s (fun _ => ?_)
      clear hK K
      refine name_h fun X16 hX16 => ?_
      replace H16b := Lib.hid (DSt.cast hX16 H16b.out)
      replace HT16b := Lib.hid (TxsIn.cast hX16 HT16b.out)
      clear hX16
      refine wpAnyH_ready (rs := [4]) (by kernel_rfl) (by simp) ?_
      refine AllReadyH.cons rfl (fun K hK => ?_) AllReadyH.nil
      go_simp
      refine (pwhich_any (S := [wBase, wView]) H16b.out.rd HT16b.out (by decide)).mono ?_
      rintro y w1 hw
      obtain ⟨ht, hr, rfl⟩ := which_at KK hw hKt hK0
      have H19w := Lib.hid (H16b.out.on ht hr)
      clear hw ht hr
      go_wp2_with fail
      refine hK.out _ _ H19w.out.s (fun _ => ?_)
      clear hK K
      refine take1 5 9 (v := ?_) rfl rfl (by kernel_rfl) (by kernel_rfl) (by kernel_rfl) (fun _ _ _ h => h) (by kernel_rfl) ?_ (H19w.out.s) (by simp only [put_norm]; exact rfl) ?_
      rotate_left
      · rintro X0 s0; go_simp; try (with_reducible rfl)
      try simp only [hKb]
      refine wpAnyH_ready (rs := [7]) (by kernel_rfl) (by simp) ?_
      refine AllReadyH.cons rfl (fun K hK => ?_) AllReadyH.nil
      go_simp
      refine (pname_any H19w.out.rd).mono ?_
      rintro y w2 hn
      obtain ⟨ht2, L2, e2, hs2, rfl⟩ := PEnd.bad_ hn HNR.out
      exact ⟨rfl, Only.turned (H19w.out.only.on ht2), .inr ⟨L2, by rw [declR_eq]; exact (bind_ok HTk.out).trans (bind_bad (HNR.out.trans (by rw [e2]))), hs2.trans (List.suffix_cons x L), rfl⟩⟩
    refine AllReadyH.cons rfl (fun K hK => ?_) AllReadyH.nil
    go_simp
    have H15b := Lib.hid (H0.out.box (Xr.heap.size) rfl)
    refine hK.out _ _ H15b.out.s (fun _ => ?_)
    clear hK K
    refine name_h fun X15 hX15 => ?_
    replace H15b := Lib.hid (DSt.cast hX15 H15b.out)
    clear hX15
    refine wpAnyH_ready (rs := [3]) (by kernel_rfl) (by simp) ?_
    refine AllReadyH.cons rfl (fun K hK => ?_) AllReadyH.nil
    go_simp
    have H21a := Lib.hid (H15b.out.alloc bvO)
    have HT21 := Lib.hid (txs_at X15 (X15.heap.size) rfl)
    refine hK.out _ _ H21a.out.s (fun _ => ?_)
    clear hK K
    refine name_h fun X21 hX21 => ?_
    replace H21a := Lib.hid (DSt.cast hX21 H21a.out)
    replace HT21 := Lib.hid (TxsIn.cast hX21 HT21.out)
    clear hX21
    refine wpAnyH_ready (rs := [4]) (by kernel_rfl) (by simp) ?_
    refine AllReadyH.cons rfl (fun K hK => ?_) AllReadyH.nil
    go_simp
    refine (pwhich_any (S := [wBase, wView]) H21a.out.rd HT21.out (by decide)).mono ?_
    rintro y w1 hw
    obtain ⟨ht, hr, rfl⟩ := which_at KK hw hKt hK0
    have H22w := Lib.hid (H21a.out.on ht hr)
    clear hw ht hr
    go_wp2_with fail
    refine hK.out _ _ H22w.out.s (fun _ => ?_)
    clear hK K
    refine take1 5 9 (v := ?_) rfl rfl (by kernel_rfl) (by kernel_rfl) (by kernel_rfl) (fun _ _ _ h => h) (by kernel_rfl) ?_ (H22w.out.s) (by simp only [put_norm]; exact rfl) ?_
    rotate_left
    · rintro X0 s0; go_simp; try (with_reducible rfl)
    try simp only [hKb]
    refine wpAnyH_ready (rs := [7]) (by kernel_rfl) (by simp) ?_
    refine AllReadyH.cons rfl (fun K hK => ?_) AllReadyH.nil
    go_simp
    refine (pname_any H22w.out.rd).mono ?_
    rintro y w2 hn
    obtain ⟨ht2, L2, e2, hs2, rfl⟩ := PEnd.bad_ hn HNR.out
    exact ⟨rfl, Only.turned (H22w.out.only.on ht2), .inr ⟨L2, by rw [declR_eq]; exact (bind_ok HTk.out).trans (bind_bad (HNR.out.trans (by rw [e2]))), hs2.trans (List.suffix_cons x L), rfl⟩⟩
end
section
open Go Go.RowKit Go.Shelf

abbrev zOn : Obj := .cells #[.string ⟨#[]⟩, .slice none 0 0, .slice none 0 0] 34
def onT (S : Nat → Prop) (w : World) (v : Value) (o : OnL) : Prop := ∃ u x, v = .agg #[.string ⟨o.event.toArray⟩, u, x] ∧ RowIn paY S w u o.params ∧ RowIn acY S w x o.acts
theorem onR_eq : onR = bindR (tok1 fun _ => true) fun _ => bindR nameR fun nm => bindR (encR (sepL (isM [44]) paramR)) fun ps => bindR (bindR (moreR [58] actR) fun zs => bindR (markR [46]) fun _ => pureR zs) fun zs => pureR ⟨nm, ps, zs⟩ := by
  unfold onR encR rowR
  simp only [bindR_assoc, bindR_pure]
set_option maxRecDepth 100000 in
set_option maxHeartbeats 4000000 in
theorem pon_any {W : World} {n b e : Nat} {x : Wd} {L : List Wd} (h : Rp n W b (x :: L) e) (hx : x.text = wOn) : Calls Tryz.prog 85 #[rdp b] W (PEnd onR onT n b e (x :: L) W) := by
  have HR := Lib.hid h
  have hnW := h.below_
  have hlt := h.lt
  have HTk := Lib.hid (show tok1 (fun _ => true) (keys (x :: L)) = .ok x.key (keys L) from tok1_yes rfl)
  have HXx := Lib.hid hx
  clear h hx
  go_enter Tryz.func85, Tryz.ntmps85
  go_wp2_with fail
  refine (pmust_any wOn (by decide) ((HR.out.alloc (brO b)).alloc zOn)).mono ?_
  rintro y w1 ⟨ht, ⟨x', L', hL, -, rfl, hr⟩ | ⟨hx, -⟩⟩
  rotate_left
  · exact absurd HXx.out hx
  obtain ⟨rfl, rfl⟩ : x = x' ∧ L = L' := by injection hL with e1 e2; exact ⟨e1, e2⟩
  have hz : W.heap.size + 2 ≤ w1.heap.size := by have := ht.size; simp at this; omega
  have hr0 : w1.heap[W.heap.size]? = some (brO b) := (ht.block _ (by simp; omega) (by omega)).trans (two_new W _ zOn).1
  have hr1 : w1.heap[W.heap.size + 1]? = some zOn := (ht.block _ (by simp) (by omega)).trans (two_new W (brO b) zOn).2
  have c0 : w1.cell? ⟨W.heap.size, 0, none⟩ = some (rdp b) := cell_of_row w1 _ 0 _ _ (0, 0) hr0
  have HO1 : Hid (Only W.heap.size b W w1) := Lib.hid ((((Only.refl b W).alloc _).alloc _).on ht)
  have HR1 := Lib.hid hr
  have HK1 := Lib.hid (And.intro hr0 hr1)
  clear ht hr hL hr0 hr1
  go_wp2_with fail
  refine (pname_any HR1.out).mono ?_
  rintro y w2 ⟨ht, ⟨nm, L2, v, hp, hs, rfl, hv, hr⟩ | ⟨L2, hp, hs, rfl⟩⟩
  rotate_left
  · have HE := Lib.hid (And.intro ht (And.intro hp hs))
    clear ht hp hs
    go_wp2_with fail
    obtain ⟨ht, hp, hs⟩ := HE.out
    exact ⟨rfl, Only.turned (HO1.out.on ht), .inr ⟨L2, by rw [onR_eq]; exact (bind_ok HTk.out).trans (bind_bad hp), hs.trans (List.suffix_cons x L), rfl⟩⟩
  obtain rfl : v = .string ⟨nm.toArray⟩ := hv
  have hz2 : W.heap.size + 2 ≤ w2.heap.size := Nat.le_trans hz ht.size
  have hq0 : w2.heap[W.heap.size]? = some (brO b) := (ht.block _ (by omega) (by omega)).trans HK1.out.1
  have hq1 : w2.heap[W.heap.size + 1]? = some zOn := (ht.block _ (by omega) (by omega)).trans HK1.out.2
  have c2 : w2.cell? ⟨W.heap.size, 0, none⟩ = some (rdp b) := cell_of_row w2 _ 0 _ _ (0, 0) hq0
  have hzz : W.heap.size < w2.heap.size := by omega
  have HO2 : Hid (Only W.heap.size b W (w2.alloc (.cells #[.string ⟨nm.toArray⟩, .slice none 0 0, .slice none 0 0] 34))) := Lib.hid ((HO1.out.on ht).alloc _)
  have HR2 := Lib.hid (hr.alloc (.cells #[.string ⟨nm.toArray⟩, .slice none 0 0, .slice none 0 0] 34))
  have HN := Lib.hid (And.intro hp hs)
  obtain ⟨ba, hba⟩ : ∃ ba, ba = w2.heap.size := ⟨_, rfl⟩
  have HG : Hid (OnG W.heap.size b W.heap.size w2.heap.size (W.heap.size + 1) zOn nm (w2.alloc (.cells #[.string ⟨nm.toArray⟩, .slice none 0 0, .slice none 0 0] 34)) []) := Lib.hid
    ⟨⟨by omega, by simp, hlt⟩, ⟨.slice none 0 0, heap_alloc_new _ _, RowIn.nil _ _ _⟩, Nat.le_refl _, by simp; omega, by omega, (Below.heap_alloc _ _ _ hzz).trans hq0, by omega, by omega, by simp; omega, (Below.heap_alloc _ _ _ (by omega)).trans hq1⟩
  clear ht hp hs hr hq0 hq1 c0 HK1
  go_wp2_with fail
  refine (penclosed_any (sepL (isM [44]) paramR) 117 #[.pointer (some ⟨W.heap.size, 0, none⟩), .pointer (some ⟨w2.heap.size, 0, none⟩)] (fun _ _ => by kernel_rfl) HR2.out HO2.out HG.out (fun _ _ _ h ht => h.on ht) (fun _ _ ho hg hr => pon1_any hg ho hr hnW)).mono ?_
  rw [← hba]
  rintro y w3 ⟨ho, ⟨ps, L3, hp, hs, rfl, hg, hr⟩ | ⟨L3, hp, hs, rfl⟩⟩
  rotate_left
  · have HE := Lib.hid (And.intro ho (And.intro hp hs))
    clear ho hp hs
    go_wp2_with fail
    obtain ⟨ho, hp, hs⟩ := HE.out
    exact ⟨rfl, Only.turned ho, .inr ⟨L3, by rw [onR_eq]; exact (bind_ok HTk.out).trans ((bind_ok HN.out.1).trans (bind_bad hp)), hs.trans (HN.out.2.trans (List.suffix_cons x L)), rfl⟩⟩
  have HP : Hid ((∀ {β : Type} (f : List UInt8 → List (List UInt8 × Int) → Rd β), bindR (tok1 fun _ => true) (fun _ => bindR nameR fun nm => bindR (encR (sepL (isM [44]) paramR)) fun ps => f nm ps) (keys (x :: L)) = f nm ps (keys L3)) ∧ L3 <:+ x :: L) := Lib.hid
    ⟨fun f => (bind_ok HTk.out).trans ((bind_ok HN.out.1).trans (bind_ok hp)), hs.trans (HN.out.2.trans (List.suffix_cons x L))⟩
  have HE3 := Lib.hid (And.intro ho hr)
  obtain ⟨⟨g1, g2, g2'⟩, ⟨u, g3, g4⟩, g5, g6, g7, g8, k1, k2, k3, k4⟩ := hg
  obtain ⟨pu, cu, rfl, -⟩ := id g4
  have c3 : w3.cell? ⟨W.heap.size, 0, none⟩ = some (rdp b) := cell_of_row w3 _ 0 _ _ (0, 0) g8
  have HB3 : Hid (Bx3 W.heap.size b ba (W.heap.size + 1) zOn 34 (.string ⟨nm.toArray⟩) (.slice pu ps.length cu) (.slice none 0 0) w3) := Lib.hid ⟨⟨g1, g2, hlt, k1, by omega, k3⟩, g3, k4⟩
  have HU3 := Lib.hid g4
  have HR8 := Lib.hid (And.intro g6 (And.intro g7 g8))
  have hbaN : W.heap.size + 2 ≤ ba := by omega
  clear ho hp hs hr g3 g4 g8 k4 c2 g5 g6 g7 k1 k2 k3 g1 g2 HG HR2 HO2 hba
  go_wp2_with fail
  refine (pmay_any [58] (by decide) HE3.out.2).mono ?_
  rintro y w4 ⟨ht, ⟨x4, L4, rfl, hx, rfl, hr⟩ | ⟨hx, rfl, hr⟩⟩
  · have HE4 := Lib.hid (And.intro ht (And.intro hr hx))
    have HB4 := Lib.hid (HB3.out.on ht)
    have h84 : w4.heap[W.heap.size]? = some (brO b) := (ht.block _ HR8.out.1 (by omega)).trans HR8.out.2.2
    have HR84 := Lib.hid h84
    have c4 : w4.cell? ⟨W.heap.size, 0, none⟩ = some (rdp b) := cell_of_row w4 _ 0 _ _ (0, 0) h84
    clear ht hr hx h84 c3
    go_wp2_with fail
    refine (plistAc_any HE4.out.2.1).mono ?_
    rintro y w5 ⟨ht, ⟨zs, L5, v, hp, hs, rfl, hv, hr⟩ | ⟨L5, hp, hs, rfl⟩⟩
    rotate_left
    · have HE5 := Lib.hid (And.intro ht (And.intro hp hs))
      clear ht hp hs
      go_wp2_with fail
      obtain ⟨ht, hp, hs⟩ := HE5.out
      refine ⟨rfl, Only.turned ((HE3.out.1.on HE4.out.1).on ht), .inr ⟨L5, ?_, hs.trans ((List.suffix_cons x4 L4).trans HP.out.2), rfl⟩⟩
      rw [onR_eq]
      refine (HP.out.1 _).trans (bind_bad (bind_bad ?_))
      unfold moreR altR
      rw [if_pos (by rw [nxt_mark HE3.out.2.tidy rfl]; simpa [txt] using HE4.out.2.2)]
      exact (bind_ok (tok1_yes (by rw [tidy_mark (HE3.out.2.tidy x4 List.mem_cons_self) rfl]; simpa using HE4.out.2.2))).trans hp
    have HB5 := Lib.hid (HB4.out.on ht)
    obtain ⟨pv, cv, rfl, -⟩ := id hv
    obtain ⟨⟨b0, b1, b2⟩, k0, k1, k2⟩ := cells3 HB5.out.2.1
    have c5 : w5.cell? ⟨W.heap.size, 0, none⟩ = some (rdp b) := cell_of_row w5 _ 0 _ _ (0, 0) ((ht.block _ (by have := HB4.out.1.2.2.2.2.2; omega) (by omega)).trans HR84.out)
    have hne8 : ¬ W.heap.size = ba := by omega
    have HE5 := Lib.hid (And.intro ht (And.intro hp (And.intro hs (And.intro hv hr))))
    have c5' : (w5.setCell ⟨ba, 2, none⟩ (.slice pv zs.length cv)).cell? ⟨W.heap.size, 0, none⟩ = some (rdp b) := by rw [World.cell?_setCell_other _ _ _ _ (by simp)]; exact c5
    have HRX : Hid (Rp n (w5.setCell ⟨ba, 2, none⟩ (.slice pv zs.length cv)) b L5 e) := Lib.hid (hr.set (by omega) _ _)
    have HOX : Hid (Only W.heap.size b W (w5.setCell ⟨ba, 2, none⟩ (.slice pv zs.length cv))) := Lib.hid (((HE3.out.1.on HE4.out.1).on ht).set (by omega) _ _)
    have HBX : Hid (Bx3 W.heap.size b ba (W.heap.size + 1) zOn 34 (.string ⟨nm.toArray⟩) (.slice pu ps.length cu) (.slice pv zs.length cv) (w5.setCell ⟨ba, 2, none⟩ (.slice pv zs.length cv))) := Lib.hid (by
      obtain ⟨⟨h1, h2, h3, h4, h5, h6⟩, h7, h8⟩ := HB5.out
      exact ⟨⟨h1, by simpa using h2, h3, h4, h5, by simpa using h6⟩, heap_setCell_same w5 _ 2 _ _ _ h7, (heap_setCell_other w5 ⟨ba, 2, none⟩ _ _ h4).trans h8⟩)
    have HUX : Hid (RowIn paY (fun k => W.heap.size ≤ k ∧ k ≠ ba ∧ k ≠ W.heap.size + 1) (w5.setCell ⟨ba, 2, none⟩ (.slice pv zs.length cv)) (.slice pu ps.length cu) ps) := Lib.hid ((((HU3.out.turned HE4.out.1 fun k e e2 => by omega).turned ht fun k e e2 => by omega)).keep (by simp) fun k e hk => ⟨e, heap_setCell_other w5 ⟨ba, 2, none⟩ k _ e.2.1⟩)
    have HVX : Hid (RowIn acY (fun k => W.heap.size ≤ k ∧ k ≠ ba ∧ k ≠ W.heap.size + 1) (w5.setCell ⟨ba, 2, none⟩ (.slice pv zs.length cv)) (.slice pv zs.length cv) zs) := Lib.hid (by
      have h2 := HB4.out.1.2.1
      have h3 := HB4.out.1.2.2.2.2.2
      exact RowIn.keep hv (by simp) fun k e hk => ⟨by omega, heap_setCell_other w5 ⟨ba, 2, none⟩ k _ (by show k ≠ ba; omega)⟩)
    have HM : Hid (moreR [58] actR (keys (x4 :: L4)) = .ok zs (keys L5) ∧ L5 <:+ x4 :: L4) := Lib.hid (by
      refine ⟨?_, hs.trans (List.suffix_cons x4 L4)⟩
      unfold moreR altR
      rw [if_pos (by rw [nxt_mark HE3.out.2.tidy rfl]; simpa [txt] using HE4.out.2.2)]
      exact (bind_ok (tok1_yes (by rw [tidy_mark (HE3.out.2.tidy x4 List.mem_cons_self) rfl]; simpa using HE4.out.2.2))).trans hp)
    clear ht hp hs hv hr c4
    go_wp2_with fail
    refine (pmust_any [46] (by decide) HRX.out).mono ?_
    rintro y w6 ⟨ht, ⟨x6, L6, hL, hx, rfl, hr⟩ | ⟨hx, rfl⟩⟩
    · subst hL
      have HB6 := Lib.hid (HBX.out.on ht)
      have HF := Lib.hid (And.intro ht (And.intro hr hx))
      obtain ⟨⟨d0, d1, d2⟩, m0, m1, m2⟩ := cells3 HB6.out.2.1
      obtain ⟨⟨p0, p1, p2⟩, o0, o1, o2⟩ := cells3 HB6.out.2.2
      clear ht hr hx
      go_wp2_with fail
      refine bodyPost_ret (results_cell_row (fn := Tryz.f85) (by rfl) _ _ _ _ _ _ _ (by rfl) (rowS3_set HB6.out.2.2) Tryz.underlying34 (by rfl) (by kernel_rfl)) (by rfl) ?_
      obtain ⟨ht, hr, hx⟩ := HF.out
      refine ⟨Only.turned ((((HOX.out.on ht).set (Nat.le_succ _) _ _).set (Nat.le_succ _) _ _).set (Nat.le_succ _) _ _), .inl ⟨⟨nm, ps, zs⟩, L6, _, ?_, (List.suffix_cons x6 L6).trans (HM.out.2.trans HP.out.2), rfl, ⟨_, _, rfl, ?_, ?_⟩, ((hr.set (by omega) _ _).set (by omega) _ _).set (by omega) _ _⟩⟩
      · rw [onR_eq]
        exact (HP.out.1 _).trans ((bind_ok ((bind_ok HM.out.1).trans ((bind_ok (mark_yes (HRX.out.tidy x6 List.mem_cons_self) rfl hx)).trans rfl))).trans rfl)
      · exact (HUX.out.turned ht fun k e e2 => by omega).keep (by simp) fun k e hk => ⟨e.1, set3_off e.2.2⟩
      · exact (HVX.out.turned ht fun k e e2 => by omega).keep (by simp) fun k e hk => ⟨e.1, set3_off e.2.2⟩
    · have HF := Lib.hid (And.intro ht hx)
      clear ht hx
      go_wp2_with fail
      obtain ⟨ht, hx⟩ := HF.out
      exact ⟨rfl, Only.turned (HOX.out.on ht), .inr ⟨L5, by rw [onR_eq]; exact (HP.out.1 _).trans (bind_bad ((bind_ok HM.out.1).trans (bind_bad (mark_no HRX.out.tidy rfl hx)))), HM.out.2.trans HP.out.2, rfl⟩⟩
  · have HE4 := Lib.hid (And.intro ht (And.intro hr hx))
    have c4 : w4.cell? ⟨W.heap.size, 0, none⟩ = some (rdp b) := cell_of_row w4 _ 0 _ _ (0, 0) ((ht.block _ HR8.out.1 (by omega)).trans HR8.out.2.2)
    have HRX := Lib.hid hr
    have HOX := Lib.hid (HE3.out.1.on ht)
    have HBX := Lib.hid (HB3.out.on ht)
    have HUX := Lib.hid (HU3.out.turned ht fun k e e2 => by omega)
    obtain ⟨zs, hzs⟩ : ∃ zs : List ActL, zs = [] := ⟨_, rfl⟩
    have HVX : Hid (RowIn acY (fun k => W.heap.size ≤ k ∧ k ≠ ba ∧ k ≠ W.heap.size + 1) w4 (.slice none 0 0) zs) := Lib.hid (by rw [hzs]; exact RowIn.nil _ _ _)
    obtain ⟨L5, hL5⟩ : ∃ L5, L5 = L3 := ⟨_, rfl⟩
    have HM : Hid (moreR [58] actR (keys L3) = .ok zs (keys L5) ∧ L5 <:+ L3) := Lib.hid (by
      rw [hL5, hzs]
      refine ⟨?_, List.suffix_refl _⟩
      unfold moreR altR
      rw [if_neg (by rw [nxt_mark HE3.out.2.tidy rfl]; simpa using hx)]
      rfl)
    rw [← hL5] at HRX
    clear ht hr hx hzs hL5
    go_wp2_with fail
    refine (pmust_any [46] (by decide) HRX.out).mono ?_
    rintro y w6 ⟨ht, ⟨x6, L6, hL, hx, rfl, hr⟩ | ⟨hx, rfl⟩⟩
    · subst hL
      have HB6 := Lib.hid (HBX.out.on ht)
      have HF := Lib.hid (And.intro ht (And.intro hr hx))
      obtain ⟨⟨d0, d1, d2⟩, m0, m1, m2⟩ := cells3 HB6.out.2.1
      obtain ⟨⟨p0, p1, p2⟩, o0, o1, o2⟩ := cells3 HB6.out.2.2
      clear ht hr hx
      go_wp2_with fail
      refine bodyPost_ret (results_cell_row (fn := Tryz.f85) (by rfl) _ _ _ _ _ _ _ (by rfl) (rowS3_set HB6.out.2.2) Tryz.underlying34 (by rfl) (by kernel_rfl)) (by rfl) ?_
      obtain ⟨ht, hr, hx⟩ := HF.out
      refine ⟨Only.turned ((((HOX.out.on ht).set (Nat.le_succ _) _ _).set (Nat.le_succ _) _ _).set (Nat.le_succ _) _ _), .inl ⟨⟨nm, ps, zs⟩, L6, _, ?_, (List.suffix_cons x6 L6).trans (HM.out.2.trans HP.out.2), rfl, ⟨_, _, rfl, ?_, ?_⟩, ((hr.set (by omega) _ _).set (by omega) _ _).set (by omega) _ _⟩⟩
      · rw [onR_eq]
        exact (HP.out.1 _).trans ((bind_ok ((bind_ok HM.out.1).trans ((bind_ok (mark_yes (HRX.out.tidy x6 List.mem_cons_self) rfl hx)).trans rfl))).trans rfl)
      · exact (HUX.out.turned ht fun k e e2 => by omega).keep (by simp) fun k e hk => ⟨e.1, set3_off e.2.2⟩
      · exact (HVX.out.turned ht fun k e e2 => by omega).keep (by simp) fun k e hk => ⟨e.1, set3_off e.2.2⟩
    · have HF := Lib.hid (And.intro ht hx)
      clear ht hx
      go_wp2_with fail
      obtain ⟨ht, hx⟩ := HF.out
      exact ⟨rfl, Only.turned (HOX.out.on ht), .inr ⟨L5, by rw [onR_eq]; exact (HP.out.1 _).trans (bind_bad ((bind_ok HM.out.1).trans (bind_bad (mark_no HRX.out.tidy rfl hx)))), HM.out.2.trans HP.out.2, rfl⟩⟩
end
section
open Go Go.RowKit Go.Shelf

section
variable {α : Type}
/-- A row of the call's own; its block and those inside lie in Z. -/
def RowZ (Y : Lay α) (et : TypeId) (Z : Nat → Prop) (w : World) (v : Value) (L : List α) : Prop :=
  ∃ us, w.ownsRow 0 et Y.sz v L.length us ∧ (∀ k, v.ownBlock = some k → Z k) ∧ ∀ j (h : j < L.length), ∃ xs, Y.is (fun k => Z k ∧ v.ownBlock ≠ some k) w xs L[j] ∧ ∀ i u, xs[i]? = some u → us[j * Y.sz + i]? = some u
theorem RowZ.nil (Y : Lay α) (et : TypeId) (Z : Nat → Prop) (w : World) : RowZ Y et Z w (.slice none 0 0) [] := ⟨[], World.ownsRow_nil w 0 _ _, fun k e => by simp [Value.ownBlock] at e, fun j h => by simp at h⟩
theorem RowZ.lt {Y : Lay α} {et : TypeId} {Z : Nat → Prop} {w : World} {v : Value} {L : List α} (h : RowZ Y et Z w v L) : ∀ k, v.ownBlock = some k → Z k ∧ k < w.heap.size := by
  obtain ⟨us, h, hz, -⟩ := h
  exact fun k e => ⟨hz k e, (World.ownsRow.lt h k e).2⟩
theorem RowZ.slice {Y : Lay α} {et : TypeId} {Z : Nat → Prop} {w : World} {v : Value} {L : List α} (h : RowZ Y et Z w v L) : ∃ p c, v = .slice p L.length c := by
  obtain ⟨us, h, -⟩ := h
  rcases h.2 with ⟨rfl, e⟩ | ⟨g, cap, cur, rfl, -⟩
  · exact ⟨none, 0, by rw [e]⟩
  · exact ⟨_, _, rfl⟩
theorem RowZ.keep {Y : Lay α} {et : TypeId} {Z Z' : Nat → Prop} {w w' : World} {v : Value} {L : List α} (h : RowZ Y et Z w v L) (hs : w.heap.size ≤ w'.heap.size) (hb : ∀ k, Z k → k < w.heap.size → Z' k ∧ w'.heap[k]? = w.heap[k]?) : RowZ Y et Z' w' v L := by
  have hlt := h.lt
  obtain ⟨us, h1, hz, h2⟩ := h
  refine ⟨us, ownsRow_keep h1 fun k e => (hb k (hlt k e).1 (hlt k e).2).2, fun k e => (hb k (hlt k e).1 (hlt k e).2).1, fun j hj => ?_⟩
  obtain ⟨xs, hx, hc⟩ := h2 j hj
  exact ⟨xs, Y.keep hx hs fun k e hk => ⟨⟨(hb k e.1 hk).1, e.2⟩, (hb k e.1 hk).2⟩, hc⟩
theorem RowZ.in_ {Y : Lay α} {et : TypeId} {Z : Nat → Prop} {w : World} {v : Value} {L : List α} (h : RowZ Y et Z w v L) : RowIn Y Z w v L := by
  obtain ⟨us, ho, hz, h⟩ := h
  rcases Nat.eq_zero_or_pos L.length with h0 | h0
  · obtain rfl := List.eq_nil_of_length_eq_zero h0
    rcases ho.2 with ⟨rfl, -⟩ | ⟨g, cap, cur, rfl, -, -, hnc, hcm, -⟩
    · exact ⟨none, 0, rfl, by simp, by simp, .inl rfl⟩
    · exact ⟨_, cap, rfl, by simp, hcm, .inl rfl⟩
  · have hcap : ∃ g cap, v = .slice (some ⟨g, 0, none⟩) L.length cap ∧ L.length ≤ cap ∧ cap ≤ maxLen ∧ g < w.heap.size := by
      rcases ho.2 with ⟨rfl, e⟩ | ⟨g, cap, cur, rfl, hB, hg, hnc, hcm, -⟩
      · omega
      · exact ⟨g, cap, rfl, hnc, hcm, (Array.getElem?_eq_some_iff.1 hg).1⟩
    obtain ⟨g, cap, rfl, g1, g2, g3⟩ := hcap
    refine ⟨_, cap, rfl, g1, g2, .inr ⟨g, 0, rfl, hz g rfl, g3, fun j hj => ?_⟩⟩
    obtain ⟨xs, hx, hc⟩ := h j hj
    refine ⟨xs, Y.keep hx (Nat.le_refl _) fun k e _ => ⟨e.1, rfl⟩, fun i u e => ?_⟩
    have hcell := World.ownsRow.cells ho (g := g) rfl (j * Y.sz + i) u (hc i u e)
    rw [addr_add] at hcell
    exact hcell
theorem run_appZ (Y : Lay α) (w : World) (Z Zx : Nat → Prop) (st et ty : TypeId) (z : Value) (by_ : Nat) (hu : Tryz.prog.underlying st = some (.slice et)) (hi : (Tryz.prog.info? et).map (fun i => (i.zero, i.size, i.bytes)) = some (some z, Y.sz, by_)) (hzc : z.cells.size = Y.sz) (hsz : 0 < Y.sz) (hby : by_ ≤ 1000) (v : Value) (T : List α) (x : α) (us : List Value) (b c : Nat)
    (hown : RowZ Y et Z w v T) (hx : Y.is Zx w us x) (hxo : ∀ k, Zx k → v.ownBlock ≠ some k) (hc : ∀ j u, us[j]? = some u → w.cell? ⟨b, 0 + j, none⟩ = some u) (hn : T.length ≤ 1000000) :
    ∃ v' w', (Builtin.append_ #[st, st] ty #[v, .slice (some ⟨b, 0, none⟩) 1 c]).run Tryz.prog w = .ok v' w' ∧ RowZ Y et (fun k => Z k ∨ Zx k ∨ k = w.heap.size) w' v' (T ++ [x]) ∧ w.grownBy w' v.ownBlock := by
  obtain ⟨i0, hi, hz0, hz1, hz2⟩ := info_parts hi
  have hbytes : (T.length + 1) * by_ ≤ 140737488355328 := by
    have : (T.length + 1) * by_ ≤ 1000001 * 1000 := Nat.mul_le_mul (by omega) hby
    omega
  have hlt := hown.lt
  obtain ⟨xs, ho, hzo, hxs⟩ := hown
  obtain ⟨v', w', hr, ho', hg, -, hv⟩ := run_append_own_at (P := Tryz.prog) w 0 st ty et i0 z Y.sz by_ hu hi hz0 hz1 hz2 hzc hsz v _ xs ho ⟨b, 0, none⟩ 1 c us
    (by rw [Y.len hx]; simp) (fun j u hu => by rw [addr_add]; exact hc j u hu) (Y.one hx) (by unfold maxLen; omega) hbytes (Nat.zero_le _)
  have hlen : xs.length = T.length * Y.sz := ho.1
  have hne : ∀ k, k < w.heap.size → v.ownBlock ≠ some k → v'.ownBlock ≠ some k := fun k hk e e2 => by
    rcases hv with hv | hv
    · exact e (hv.symm.trans e2)
    · rw [hv] at e2; cases e2; omega
  refine ⟨v', w', hr, ⟨xs ++ us, by rw [List.length_append]; exact ho', fun k e => ?_, fun j hj => ?_⟩, hg⟩
  · rcases hv with hv | hv
    · exact .inl (hzo k (hv.symm.trans e))
    · rw [hv] at e; cases e; exact .inr (.inr rfl)
  by_cases e : j < T.length
  · obtain ⟨ys, hy, hcy⟩ := hxs j e
    rw [List.getElem_append_left e]
    refine ⟨ys, Y.keep hy hg.size fun k e hk => ⟨⟨.inl e.1, hne k hk e.2⟩, hg.block k hk fun e2 => e.2 e2.symm⟩, fun i u hu => ?_⟩
    have := hcy i u hu
    rw [List.getElem?_append_left (List.getElem?_eq_some_iff.1 this).1]
    exact this
  · obtain rfl : j = T.length := by simp at hj; omega
    rw [List.getElem_append_right (Nat.le_refl _)]
    simp only [Nat.sub_self, List.getElem_cons_zero]
    refine ⟨us, Y.keep hx hg.size fun k e hk => ⟨⟨.inr (.inl e), hne k hk (hxo k e)⟩, hg.block k hk fun e2 => hxo k e e2.symm⟩, fun i u hu => ?_⟩
    rw [List.getElem?_append_right (by omega), hlen, Nat.add_sub_cancel_left]
    exact hu
theorem step_appZ {ops : Array Oper} {o : Oper} {a : Act} {w : World} {K : Act → World → Prop} {Q : Exit → Act → World → Prop} {E : Prop} (Y : Lay α) (hgd : o.guard = none) (s y : Operand) (st et : TypeId)
    (ho : o.op = .call { callee := .builtin .append, args := #[s, y], argTypes := #[st, st] }) (Z Zx : Nat → Prop) (z : Value) (by_ : Nat) (hu : Tryz.prog.underlying st = some (.slice et)) (hi : (Tryz.prog.info? et).map (fun i => (i.zero, i.size, i.bytes)) = some (some z, Y.sz, by_)) (hzc : z.cells.size = Y.sz) (hsz : 0 < Y.sz) (hby : by_ ≤ 1000) (v : Value) (T : List α) (x : α) (us : List Value) (b c : Nat)
    (hs : a.eval s = v) (hx : a.eval y = .slice (some ⟨b, 0, none⟩) 1 c) (hown : RowZ Y et Z w v T) (hin : Y.is Zx w us x) (hxo : ∀ k, Zx k → v.ownBlock ≠ some k) (hc : ∀ j u, us[j]? = some u → w.cell? ⟨b, 0 + j, none⟩ = some u) (hn : T.length ≤ 1000000)
    (h : ∀ v' w', RowZ Y et (fun k => Z k ∨ Zx k ∨ k = w.heap.size) w' v' (T ++ [x]) → w.grownBy w' v.ownBlock → K (a.put o.dst v') w') : if Region.wanted o (yielded ops a.tmps) = true then Oper.wp Tryz.prog o a w K Q else E := by
  have hw : Region.wanted o (yielded ops a.tmps) = true := by simp [Region.wanted, hgd]
  rw [if_pos hw]
  obtain ⟨v', w', hr, h2, h3⟩ := run_appZ Y w Z Zx st et o.type z by_ hu hi hzc hsz hby v T x us b c hown hin hxo hc hn
  unfold Oper.wp execOp
  simp only [ho, resolve, invoke, builtin, Sem.run_bind, Sem.run_pure, Result.andThen_ok, List.map_toArray, List.map_cons, List.map_nil, hs, hx, hr]
  exact h v' w' h2 h3
end
/-! Clauses -/
def ClL.decl? : ClL → Option DeL
  | .decl d => some d
  | _ => none
def ClL.on? : ClL → Option OnL
  | .on d => some d
  | _ => none
def ClL.rule? : ClL → Option RuL
  | .rule d => some d
  | _ => none
/-- The program of these clauses. -/
def ofCs (cs : List ClL) : PrL := ⟨cs.filterMap ClL.decl?, cs.filterMap ClL.on?, cs.filterMap ClL.rule?⟩
theorem clause_decl {L : List Wd} {x : Wd} (h : ∀ w ∈ x :: L, TidyW w) (hx : x.text = wBase ∨ x.text = wView) : clauseR (keys (x :: L)) = bindR (declR (x.text == wBase)) (fun d => pureR (.decl d)) (keys (x :: L)) := by
  unfold clauseR altR
  rcases hx with e | e
  · rw [if_pos (by rw [nxt_word h rfl]; simpa [txt] using e), e]
    rfl
  · rw [if_neg (by rw [nxt_word h rfl]; simp [txt, e]; decide), if_pos (by rw [nxt_word h rfl]; simpa [txt] using e), e]
    rfl
theorem clause_on {L : List Wd} {x : Wd} (h : ∀ w ∈ x :: L, TidyW w) (e : x.text = wOn) : clauseR (keys (x :: L)) = bindR onR (fun d => pureR (.on d)) (keys (x :: L)) := by
  unfold clauseR altR
  rw [if_neg (by rw [nxt_word h rfl]; simp [txt, e]; decide), if_neg (by rw [nxt_word h rfl]; simp [txt, e]; decide), if_pos (by rw [nxt_word h rfl]; simpa [txt] using e)]
theorem clause_rule {L : List Wd} (h : ∀ w ∈ L, TidyW w) (h1 : txt L ≠ wBase) (h2 : txt L ≠ wView) (h3 : txt L ≠ wOn) : clauseR (keys L) = bindR ruleR (fun d => pureR (.rule d)) (keys L) := by
  unfold clauseR altR
  rw [if_neg (by rw [nxt_word h rfl]; simpa using h1), if_neg (by rw [nxt_word h rfl]; simpa using h2), if_neg (by rw [nxt_word h rfl]; simpa using h3)]
/-- What is read behind these clauses. -/
def contP (cs : List ClL) (r : List Kt) : Rs (List ClL) := (progR r).bind fun ds x => .ok (cs ++ ds) x
theorem contP_nil (l : List Kt) : progR l = contP [] l := by
  unfold contP
  cases progR l <;> rfl
theorem contP_next {cs : List ClL} {l r : List Kt} {c : ClL} (hl : l ≠ []) (h : clauseR l = .ok c r) : contP cs l = contP (cs ++ [c]) r := by
  unfold contP
  rw [progR_eq hl, h]
  simp only [Rs.bind]
  cases progR r with
  | ok ds x => simp
  | bad x => rfl
theorem contP_bad {cs : List ClL} {l r : List Kt} (hl : l ≠ []) (h : clauseR l = .bad r) : contP cs l = .bad r := by
  unfold contP
  rw [progR_eq hl, h]
  rfl
theorem contP_end (cs : List ClL) : contP cs [] = .ok cs [] := by
  unfold contP
  rw [progR_nil]
  simp [Rs.bind]
end
section
open Go Go.RowKit Go.Shelf

abbrev zPr : Obj := .cells #[.slice none 0 0, .slice none 0 0, .slice none 0 0] 49
def prT (S : Nat → Prop) (w : World) (v : Value) (cs : List ClL) : Prop := ∃ u x y, v = .agg #[u, x, y] ∧ RowIn deY S w u (ofCs cs).decls ∧ RowIn onY S w x (ofCs cs).ons ∧ RowIn ruY S w y (ofCs cs).rules
/-- What the loop of a program keeps. -/
structure PgJ (n b e : Nat) (W : World) (L : List Wd) (cs : List ClL) (vd vo vr : Value) (Zd Zo Zr : Nat → Prop) (L1 : List Wd) (w : World) : Prop where
  box : w.heap[W.heap.size + 1]? = some (.cells #[vd, vo, vr] 49 (0, 0))
  kt : w.heap[W.heap.size]? = some zPr
  d : RowZ deY 30 Zd w vd (ofCs cs).decls
  o : RowZ onY 34 Zo w vo (ofCs cs).ons
  r : RowZ ruY 27 Zr w vr (ofCs cs).rules
  zd : ∀ k, Zd k → W.heap.size + 2 ≤ k ∧ k < w.heap.size
  zo : ∀ k, Zo k → W.heap.size + 2 ≤ k ∧ k < w.heap.size
  zr : ∀ k, Zr k → W.heap.size + 2 ≤ k ∧ k < w.heap.size
  dor : (∀ k, Zd k → ¬ Zo k) ∧ (∀ k, Zd k → ¬ Zr k) ∧ ∀ k, Zo k → ¬ Zr k
  rd : Rp n w b L1 e
  only : Only W.heap.size b W w
  suf : L1 <:+ L
  eq : progR (keys L) = contP cs (keys L1)
  len : cs.length + L1.length ≤ L.length
  szk : W.heap.size + 2 ≤ w.heap.size
  lt : b < W.heap.size
theorem ofCs_len (cs : List ClL) : (ofCs cs).decls.length ≤ cs.length ∧ (ofCs cs).ons.length ≤ cs.length ∧ (ofCs cs).rules.length ≤ cs.length := ⟨List.length_filterMap_le _ _, List.length_filterMap_le _ _, List.length_filterMap_le _ _⟩
theorem keys_ne {x : Wd} {L : List Wd} : keys (x :: L) ≠ [] := by simp
theorem PgJ.step_d {n b e : Nat} {W w w3 w5 : World} {L L1 L4 : List Wd} {cs : List ClL} {vd vo vr v' : Value} {Zd Zo Zr : Nat → Prop} {a : DeL} {us : List Value} (h : PgJ n b e W L cs vd vo vr Zd Zo Zr L1 w) (hnW_ : n ≤ W.heap.size)
    (ht : Turned (fun k => k = b) w w3) (hrd : Rp n w3 b L4 e) (hne : keys L1 ≠ []) (hc : clauseR (keys L1) = .ok (.decl a) (keys L4)) (hs4 : L4 <:+ L1)
    (hr5 : RowZ deY 30 (fun k => Zd k ∨ (w.heap.size ≤ k ∧ k < w3.heap.size) ∨ k = (w3.alloc (.cells us.toArray 30)).heap.size) w5 v' ((ofCs cs).decls ++ [a])) (hg : (w3.alloc (.cells us.toArray 30)).grownBy w5 vd.ownBlock) :
    PgJ n b e W L (cs ++ [.decl a]) v' vo vr (fun k => Zd k ∨ (w.heap.size ≤ k ∧ k < w5.heap.size)) Zo Zr L4 (w5.setCell ⟨W.heap.size + 1, 0, none⟩ v') := by
  have htg := Turned.of_grown hg
  have hsz3 := ht.size
  have hsz4 : (w3.alloc (.cells us.toArray 30)).heap.size = w3.heap.size + 1 := by simp
  have hsz5 := htg.size
  have hszk := h.szk
  have hlt := h.lt
  have hown : ∀ k, vd.ownBlock = some k → W.heap.size + 2 ≤ k := fun k e => (h.zd k (h.d.lt k e).1).1
  have hkeep5 : ∀ k, k < w.heap.size → ¬ vd.ownBlock = some k → k ≠ b → w5.heap[k]? = w.heap[k]? := fun k hk e1 e2 => (htg.block k (by omega) e1).trans ((Below.heap_alloc _ _ _ (by omega)).trans (ht.block k hk e2))
  have hkeep : ∀ k, k < w.heap.size → ¬ vd.ownBlock = some k → k ≠ b → k ≠ W.heap.size + 1 → (w5.setCell ⟨W.heap.size + 1, 0, none⟩ v').heap[k]? = w.heap[k]? := fun k hk e1 e2 e3 => (heap_setCell_other w5 ⟨W.heap.size + 1, 0, none⟩ k _ e3).trans (hkeep5 k hk e1 e2)
  have hs56 : w.heap.size ≤ (w5.setCell ⟨W.heap.size + 1, 0, none⟩ v').heap.size := by simp; omega
  have hset : ∀ k, k ≠ W.heap.size + 1 → (w5.setCell ⟨W.heap.size + 1, 0, none⟩ v').heap[k]? = w5.heap[k]? := fun k e3 => heap_setCell_other w5 ⟨W.heap.size + 1, 0, none⟩ k _ e3
  have hbox := heap_setCell_same w5 (W.heap.size + 1) 0 _ _ v' ((hkeep5 _ (by omega) (fun e => by have := hown _ e; omega) (by omega)).trans h.box)
  have hlen := h.len
  have hl4 : L4.length < L1.length := by
    have := fit_clause.eats _ _ _ hc
    rw [keys_len, keys_len] at this
    exact this
  have hof : (ofCs (cs ++ [.decl a])).decls = (ofCs cs).decls ++ [a] := by simp [ofCs, ClL.decl?]
  have hofo : (ofCs (cs ++ [.decl a])).ons = (ofCs cs).ons := by simp [ofCs, ClL.on?]
  have hofr : (ofCs (cs ++ [.decl a])).rules = (ofCs cs).rules := by simp [ofCs, ClL.rule?]
  have hRd : RowZ deY 30 (fun k => Zd k ∨ (w.heap.size ≤ k ∧ k < w5.heap.size)) (w5.setCell ⟨W.heap.size + 1, 0, none⟩ v') v' (ofCs (cs ++ [.decl a])).decls := by
    rw [hof]
    refine hr5.keep (by simp) fun k e hk => ⟨?_, hset k ?_⟩
    · rcases e with e | e | e
      · exact .inl e
      · exact .inr ⟨e.1, hk⟩
      · exact .inr ⟨by omega, hk⟩
    · rcases e with e | e | e
      · have := (h.zd k e).1; omega
      · omega
      · omega
  have hZd : ∀ k, (fun k => Zd k ∨ (w.heap.size ≤ k ∧ k < w5.heap.size)) k → W.heap.size + 2 ≤ k ∧ k < (w5.setCell ⟨W.heap.size + 1, 0, none⟩ v').heap.size := fun k e => by
    rcases e with e | e
    · have := h.zd k e; simp; omega
    · simp; omega
  have hRo : RowZ onY 34 Zo (w5.setCell ⟨W.heap.size + 1, 0, none⟩ v') vo (ofCs (cs ++ [.decl a])).ons := by
    rw [hofo]
    exact h.o.keep hs56 fun k e hk => ⟨e, hkeep k hk (fun e2 => h.dor.1 k (h.d.lt k e2).1 e) (by have := (h.zo k e).1; have := h.lt; omega) (by have := (h.zo k e).1; omega)⟩
  have hZo : ∀ k, Zo k → W.heap.size + 2 ≤ k ∧ k < (w5.setCell ⟨W.heap.size + 1, 0, none⟩ v').heap.size := fun k e => by have := h.zo k e; simp; omega
  have hRr : RowZ ruY 27 Zr (w5.setCell ⟨W.heap.size + 1, 0, none⟩ v') vr (ofCs (cs ++ [.decl a])).rules := by
    rw [hofr]
    exact h.r.keep hs56 fun k e hk => ⟨e, hkeep k hk (fun e2 => h.dor.2.1 k (h.d.lt k e2).1 e) (by have := (h.zr k e).1; have := h.lt; omega) (by have := (h.zr k e).1; omega)⟩
  have hZr : ∀ k, Zr k → W.heap.size + 2 ≤ k ∧ k < (w5.setCell ⟨W.heap.size + 1, 0, none⟩ v').heap.size := fun k e => by have := h.zr k e; simp; omega
  have hDdo : ∀ k, (fun k => Zd k ∨ (w.heap.size ≤ k ∧ k < w5.heap.size)) k → ¬ Zo k := fun k e e2 => by
    rcases e with e | e
    · exact h.dor.1 k e e2
    · have := (h.zo k e2).2; omega
  have hDdr : ∀ k, (fun k => Zd k ∨ (w.heap.size ≤ k ∧ k < w5.heap.size)) k → ¬ Zr k := fun k e e2 => by
    rcases e with e | e
    · exact h.dor.2.1 k e e2
    · have := (h.zr k e2).2; omega
  have hDor : ∀ k, Zo k → ¬ Zr k := h.dor.2.2
  refine ⟨hbox, (hkeep _ (by omega) (fun e => by have := hown _ e; omega) (by omega) (by omega)).trans h.kt, hRd, hRo, hRr, hZd, hZo, hZr, ⟨hDdo, hDdr, hDor⟩, ((hrd.alloc _).turned htg fun k e => by have := hown k e; omega).set (by omega) _ _, (((h.only.on ht).alloc _).call htg fun k e => .inr (by have := hown k e; omega)).set (by omega) _ _, hs4.trans h.suf, h.eq.trans (contP_next hne hc), by simp; omega, by simp; omega, hlt⟩
theorem PgJ.step_o {n b e : Nat} {W w w3 w5 : World} {L L1 L4 : List Wd} {cs : List ClL} {vd vo vr v' : Value} {Zd Zo Zr : Nat → Prop} {a : OnL} {us : List Value} (h : PgJ n b e W L cs vd vo vr Zd Zo Zr L1 w) (hnW_ : n ≤ W.heap.size)
    (ht : Turned (fun k => k = b) w w3) (hrd : Rp n w3 b L4 e) (hne : keys L1 ≠ []) (hc : clauseR (keys L1) = .ok (.on a) (keys L4)) (hs4 : L4 <:+ L1)
    (hr5 : RowZ onY 34 (fun k => Zo k ∨ (w.heap.size ≤ k ∧ k < w3.heap.size) ∨ k = (w3.alloc (.cells us.toArray 34)).heap.size) w5 v' ((ofCs cs).ons ++ [a])) (hg : (w3.alloc (.cells us.toArray 34)).grownBy w5 vo.ownBlock) :
    PgJ n b e W L (cs ++ [.on a]) vd v' vr Zd (fun k => Zo k ∨ (w.heap.size ≤ k ∧ k < w5.heap.size)) Zr L4 (w5.setCell ⟨W.heap.size + 1, 1, none⟩ v') := by
  have htg := Turned.of_grown hg
  have hsz3 := ht.size
  have hsz4 : (w3.alloc (.cells us.toArray 34)).heap.size = w3.heap.size + 1 := by simp
  have hsz5 := htg.size
  have hszk := h.szk
  have hlt := h.lt
  have hown : ∀ k, vo.ownBlock = some k → W.heap.size + 2 ≤ k := fun k e => (h.zo k (h.o.lt k e).1).1
  have hkeep5 : ∀ k, k < w.heap.size → ¬ vo.ownBlock = some k → k ≠ b → w5.heap[k]? = w.heap[k]? := fun k hk e1 e2 => (htg.block k (by omega) e1).trans ((Below.heap_alloc _ _ _ (by omega)).trans (ht.block k hk e2))
  have hkeep : ∀ k, k < w.heap.size → ¬ vo.ownBlock = some k → k ≠ b → k ≠ W.heap.size + 1 → (w5.setCell ⟨W.heap.size + 1, 1, none⟩ v').heap[k]? = w.heap[k]? := fun k hk e1 e2 e3 => (heap_setCell_other w5 ⟨W.heap.size + 1, 1, none⟩ k _ e3).trans (hkeep5 k hk e1 e2)
  have hs56 : w.heap.size ≤ (w5.setCell ⟨W.heap.size + 1, 1, none⟩ v').heap.size := by simp; omega
  have hset : ∀ k, k ≠ W.heap.size + 1 → (w5.setCell ⟨W.heap.size + 1, 1, none⟩ v').heap[k]? = w5.heap[k]? := fun k e3 => heap_setCell_other w5 ⟨W.heap.size + 1, 1, none⟩ k _ e3
  have hbox := heap_setCell_same w5 (W.heap.size + 1) 1 _ _ v' ((hkeep5 _ (by omega) (fun e => by have := hown _ e; omega) (by omega)).trans h.box)
  have hlen := h.len
  have hl4 : L4.length < L1.length := by
    have := fit_clause.eats _ _ _ hc
    rw [keys_len, keys_len] at this
    exact this
  have hof : (ofCs (cs ++ [.on a])).ons = (ofCs cs).ons ++ [a] := by simp [ofCs, ClL.on?]
  have hofd : (ofCs (cs ++ [.on a])).decls = (ofCs cs).decls := by simp [ofCs, ClL.decl?]
  have hofr : (ofCs (cs ++ [.on a])).rules = (ofCs cs).rules := by simp [ofCs, ClL.rule?]
  have hRd : RowZ deY 30 Zd (w5.setCell ⟨W.heap.size + 1, 1, none⟩ v') vd (ofCs (cs ++ [.on a])).decls := by
    rw [hofd]
    exact h.d.keep hs56 fun k e hk => ⟨e, hkeep k hk (fun e2 => h.dor.1 k e (h.o.lt k e2).1) (by have := (h.zd k e).1; have := h.lt; omega) (by have := (h.zd k e).1; omega)⟩
  have hZd : ∀ k, Zd k → W.heap.size + 2 ≤ k ∧ k < (w5.setCell ⟨W.heap.size + 1, 1, none⟩ v').heap.size := fun k e => by have := h.zd k e; simp; omega
  have hRo : RowZ onY 34 (fun k => Zo k ∨ (w.heap.size ≤ k ∧ k < w5.heap.size)) (w5.setCell ⟨W.heap.size + 1, 1, none⟩ v') v' (ofCs (cs ++ [.on a])).ons := by
    rw [hof]
    refine hr5.keep (by simp) fun k e hk => ⟨?_, hset k ?_⟩
    · rcases e with e | e | e
      · exact .inl e
      · exact .inr ⟨e.1, hk⟩
      · exact .inr ⟨by omega, hk⟩
    · rcases e with e | e | e
      · have := (h.zo k e).1; omega
      · omega
      · omega
  have hZo : ∀ k, (fun k => Zo k ∨ (w.heap.size ≤ k ∧ k < w5.heap.size)) k → W.heap.size + 2 ≤ k ∧ k < (w5.setCell ⟨W.heap.size + 1, 1, none⟩ v').heap.size := fun k e => by
    rcases e with e | e
    · have := h.zo k e; simp; omega
    · simp; omega
  have hRr : RowZ ruY 27 Zr (w5.setCell ⟨W.heap.size + 1, 1, none⟩ v') vr (ofCs (cs ++ [.on a])).rules := by
    rw [hofr]
    exact h.r.keep hs56 fun k e hk => ⟨e, hkeep k hk (fun e2 => h.dor.2.2 k (h.o.lt k e2).1 e) (by have := (h.zr k e).1; have := h.lt; omega) (by have := (h.zr k e).1; omega)⟩
  have hZr : ∀ k, Zr k → W.heap.size + 2 ≤ k ∧ k < (w5.setCell ⟨W.heap.size + 1, 1, none⟩ v').heap.size := fun k e => by have := h.zr k e; simp; omega
  have hDdo : ∀ k, Zd k → ¬ (fun k => Zo k ∨ (w.heap.size ≤ k ∧ k < w5.heap.size)) k := fun k e e2 => by
    rcases e2 with e2 | e2
    · exact h.dor.1 k e e2
    · have := (h.zd k e).2; omega
  have hDdr : ∀ k, Zd k → ¬ Zr k := h.dor.2.1
  have hDor : ∀ k, (fun k => Zo k ∨ (w.heap.size ≤ k ∧ k < w5.heap.size)) k → ¬ Zr k := fun k e e2 => by
    rcases e with e | e
    · exact h.dor.2.2 k e e2
    · have := (h.zr k e2).2; omega
  refine ⟨hbox, (hkeep _ (by omega) (fun e => by have := hown _ e; omega) (by omega) (by omega)).trans h.kt, hRd, hRo, hRr, hZd, hZo, hZr, ⟨hDdo, hDdr, hDor⟩, ((hrd.alloc _).turned htg fun k e => by have := hown k e; omega).set (by omega) _ _, (((h.only.on ht).alloc _).call htg fun k e => .inr (by have := hown k e; omega)).set (by omega) _ _, hs4.trans h.suf, h.eq.trans (contP_next hne hc), by simp; omega, by simp; omega, hlt⟩
theorem PgJ.step_r {n b e : Nat} {W w w3 w5 : World} {L L1 L4 : List Wd} {cs : List ClL} {vd vo vr v' : Value} {Zd Zo Zr : Nat → Prop} {a : RuL} {us : List Value} (h : PgJ n b e W L cs vd vo vr Zd Zo Zr L1 w) (hnW_ : n ≤ W.heap.size)
    (ht : Turned (fun k => k = b) w w3) (hrd : Rp n w3 b L4 e) (hne : keys L1 ≠ []) (hc : clauseR (keys L1) = .ok (.rule a) (keys L4)) (hs4 : L4 <:+ L1)
    (hr5 : RowZ ruY 27 (fun k => Zr k ∨ (w.heap.size ≤ k ∧ k < w3.heap.size) ∨ k = (w3.alloc (.cells us.toArray 27)).heap.size) w5 v' ((ofCs cs).rules ++ [a])) (hg : (w3.alloc (.cells us.toArray 27)).grownBy w5 vr.ownBlock) :
    PgJ n b e W L (cs ++ [.rule a]) vd vo v' Zd Zo (fun k => Zr k ∨ (w.heap.size ≤ k ∧ k < w5.heap.size)) L4 (w5.setCell ⟨W.heap.size + 1, 2, none⟩ v') := by
  have htg := Turned.of_grown hg
  have hsz3 := ht.size
  have hsz4 : (w3.alloc (.cells us.toArray 27)).heap.size = w3.heap.size + 1 := by simp
  have hsz5 := htg.size
  have hszk := h.szk
  have hlt := h.lt
  have hown : ∀ k, vr.ownBlock = some k → W.heap.size + 2 ≤ k := fun k e => (h.zr k (h.r.lt k e).1).1
  have hkeep5 : ∀ k, k < w.heap.size → ¬ vr.ownBlock = some k → k ≠ b → w5.heap[k]? = w.heap[k]? := fun k hk e1 e2 => (htg.block k (by omega) e1).trans ((Below.heap_alloc _ _ _ (by omega)).trans (ht.block k hk e2))
  have hkeep : ∀ k, k < w.heap.size → ¬ vr.ownBlock = some k → k ≠ b → k ≠ W.heap.size + 1 → (w5.setCell ⟨W.heap.size + 1, 2, none⟩ v').heap[k]? = w.heap[k]? := fun k hk e1 e2 e3 => (heap_setCell_other w5 ⟨W.heap.size + 1, 2, none⟩ k _ e3).trans (hkeep5 k hk e1 e2)
  have hs56 : w.heap.size ≤ (w5.setCell ⟨W.heap.size + 1, 2, none⟩ v').heap.size := by simp; omega
  have hset : ∀ k, k ≠ W.heap.size + 1 → (w5.setCell ⟨W.heap.size + 1, 2, none⟩ v').heap[k]? = w5.heap[k]? := fun k e3 => heap_setCell_other w5 ⟨W.heap.size + 1, 2, none⟩ k _ e3
  have hbox := heap_setCell_same w5 (W.heap.size + 1) 2 _ _ v' ((hkeep5 _ (by omega) (fun e => by have := hown _ e; omega) (by omega)).trans h.box)
  have hlen := h.len
  have hl4 : L4.length < L1.length := by
    have := fit_clause.eats _ _ _ hc
    rw [keys_len, keys_len] at this
    exact this
  have hof : (ofCs (cs ++ [.rule a])).rules = (ofCs cs).rules ++ [a] := by simp [ofCs, ClL.rule?]
  have hofd : (ofCs (cs ++ [.rule a])).decls = (ofCs cs).decls := by simp [ofCs, ClL.decl?]
  have hofo : (ofCs (cs ++ [.rule a])).ons = (ofCs cs).ons := by simp [ofCs, ClL.on?]
  have hRd : RowZ deY 30 Zd (w5.setCell ⟨W.heap.size + 1, 2, none⟩ v') vd (ofCs (cs ++ [.rule a])).decls := by
    rw [hofd]
    exact h.d.keep hs56 fun k e hk => ⟨e, hkeep k hk (fun e2 => h.dor.2.1 k e (h.r.lt k e2).1) (by have := (h.zd k e).1; have := h.lt; omega) (by have := (h.zd k e).1; omega)⟩
  have hZd : ∀ k, Zd k → W.heap.size + 2 ≤ k ∧ k < (w5.setCell ⟨W.heap.size + 1, 2, none⟩ v').heap.size := fun k e => by have := h.zd k e; simp; omega
  have hRo : RowZ onY 34 Zo (w5.setCell ⟨W.heap.size + 1, 2, none⟩ v') vo (ofCs (cs ++ [.rule a])).ons := by
    rw [hofo]
    exact h.o.keep hs56 fun k e hk => ⟨e, hkeep k hk (fun e2 => h.dor.2.2 k e (h.r.lt k e2).1) (by have := (h.zo k e).1; have := h.lt; omega) (by have := (h.zo k e).1; omega)⟩
  have hZo : ∀ k, Zo k → W.heap.size + 2 ≤ k ∧ k < (w5.setCell ⟨W.heap.size + 1, 2, none⟩ v').heap.size := fun k e => by have := h.zo k e; simp; omega
  have hRr : RowZ ruY 27 (fun k => Zr k ∨ (w.heap.size ≤ k ∧ k < w5.heap.size)) (w5.setCell ⟨W.heap.size + 1, 2, none⟩ v') v' (ofCs (cs ++ [.rule a])).rules := by
    rw [hof]
    refine hr5.keep (by simp) fun k e hk => ⟨?_, hset k ?_⟩
    · rcases e with e | e | e
      · exact .inl e
      · exact .inr ⟨e.1, hk⟩
      · exact .inr ⟨by omega, hk⟩
    · rcases e with e | e | e
      · have := (h.zr k e).1; omega
      · omega
      · omega
  have hZr : ∀ k, (fun k => Zr k ∨ (w.heap.size ≤ k ∧ k < w5.heap.size)) k → W.heap.size + 2 ≤ k ∧ k < (w5.setCell ⟨W.heap.size + 1, 2, none⟩ v').heap.size := fun k e => by
    rcases e with e | e
    · have := h.zr k e; simp; omega
    · simp; omega
  have hDdo : ∀ k, Zd k → ¬ Zo k := h.dor.1
  have hDdr : ∀ k, Zd k → ¬ (fun k => Zr k ∨ (w.heap.size ≤ k ∧ k < w5.heap.size)) k := fun k e e2 => by
    rcases e2 with e2 | e2
    · exact h.dor.2.1 k e e2
    · have := (h.zd k e).2; omega
  have hDor : ∀ k, Zo k → ¬ (fun k => Zr k ∨ (w.heap.size ≤ k ∧ k < w5.heap.size)) k := fun k e e2 => by
    rcases e2 with e2 | e2
    · exact h.dor.2.2 k e e2
    · have := (h.zo k e).2; omega
  refine ⟨hbox, (hkeep _ (by omega) (fun e => by have := hown _ e; omega) (by omega) (by omega)).trans h.kt, hRd, hRo, hRr, hZd, hZo, hZr, ⟨hDdo, hDdr, hDor⟩, ((hrd.alloc _).turned htg fun k e => by have := hown k e; omega).set (by omega) _ _, (((h.only.on ht).alloc _).call htg fun k e => .inr (by have := hown k e; omega)).set (by omega) _ _, hs4.trans h.suf, h.eq.trans (contP_next hne hc), by simp; omega, by simp; omega, hlt⟩
set_option maxRecDepth 100000 in
set_option maxHeartbeats 8000000 in
theorem pprogram_any {W : World} {n b e : Nat} {L : List Wd} (h : Rp n W b L e) : Calls Tryz.prog 46 #[rdp b] W (PEnd progR prT n b e L W) := by
  have HR := Lib.hid h
  have hnW := h.below_
  have hlt := h.lt
  have F1 := wf1
  have mixed : Tryz.prog.follows .mixedOrders = true := by kernel_rfl
  have HJ0 : Hid (PgJ n b e W L [] (.slice none 0 0) (.slice none 0 0) (.slice none 0 0) (fun _ => False) (fun _ => False) (fun _ => False) L ((W.alloc zPr).alloc zPr)) := Lib.hid
    ⟨(two_new W zPr zPr).2, (two_new W zPr zPr).1, RowZ.nil _ _ _ _, RowZ.nil _ _ _ _, RowZ.nil _ _ _ _, fun _ e => e.elim, fun _ e => e.elim, fun _ e => e.elim, ⟨fun _ e => e.elim, fun _ e => e.elim, fun _ e => e.elim⟩, (h.alloc zPr).alloc zPr, ((Only.refl b W).alloc zPr).alloc zPr, List.suffix_refl _, contP_nil _, by simp, by simp, hlt⟩
  clear h
  go_enter Tryz.func46, Tryz.ntmps46
  go_wp2_with fail
  go_loopw [4] (fun _ wr => ∃ cs vd vo vr Zd Zo Zr L1, Hid (PgJ n b e W L cs vd vo vr Zd Zo Zr L1 wr)) (fun _ wr => leftW wr b)
  case atStart => exact ⟨_, _, _, _, _, _, _, _, HJ0⟩
  case round =>
    obtain ⟨cs, vd, vo, vr, Zd, Zo, Zr, L1, HJ⟩ := hrel
    obtain ⟨vw, hvw, pw, cw, rfl, -⟩ := HJ.out.rd.row
    have cl0 : wr.cell? ⟨b, 0, none⟩ = some (.slice pw L1.length cw) := cell_of_row wr b 0 _ _ (0, 0) hvw
    clear hvw
    cases L1 with
    | nil =>
      have hl0 : ((([] : List Wd).length : Nat) : Int) = 0 := rfl
      obtain ⟨⟨b0, b1, b2⟩, -⟩ := cells3 HJ.out.box
      obtain ⟨⟨q0, q1, q2⟩, k0, k1, k2⟩ := cells3 HJ.out.kt
      obtain ⟨p1, c1, rfl⟩ := HJ.out.d.slice
      obtain ⟨p2, c2, rfl⟩ := HJ.out.o.slice
      obtain ⟨p3, c3, rfl⟩ := HJ.out.r.slice
      go_wp2_with fail
      refine bodyPost_ret (results_cell_row (fn := Tryz.f46) (by rfl) _ _ _ _ _ _ _ (by rfl) (rowS3_set HJ.out.kt) Tryz.underlying49 (by rfl) (by kernel_rfl)) (by rfl) ?_
      refine ⟨Only.turned (((HJ.out.only.set (Nat.le_refl _) _ _).set (Nat.le_refl _) _ _).set (Nat.le_refl _) _ _), .inl ⟨cs, [], _, HJ.out.eq.trans (contP_end cs), HJ.out.suf, rfl, ⟨_, _, _, rfl, ?_, ?_, ?_⟩, ((HJ.out.rd.set hnW _ _).set hnW _ _).set hnW _ _⟩⟩
      · exact HJ.out.d.in_.keep (by simp) fun k e hk => ⟨by have := (HJ.out.zd k e).1; omega, set3_off (by have := (HJ.out.zd k e).1; omega)⟩
      · exact HJ.out.o.in_.keep (by simp) fun k e hk => ⟨by have := (HJ.out.zo k e).1; omega, set3_off (by have := (HJ.out.zo k e).1; omega)⟩
      · exact HJ.out.r.in_.keep (by simp) fun k e hk => ⟨by have := (HJ.out.zr k e).1; omega, set3_off (by have := (HJ.out.zr k e).1; omega)⟩
    | cons x L2 =>
      have hl0 : (0 : Int) < (((x :: L2).length : Nat) : Int) := by rw [List.length_cons]; omega
      go_wp2_with fail
      refine (pnext_any HJ.out.rd).mono ?_
      rintro y w1 ⟨rfl, hb⟩
      have HJ1 : Hid (PgJ n b e W L cs vd vo vr Zd Zo Zr (x :: L2) w1) := Lib.hid (by
        have hj := HJ.out
        have hk : ∀ k, k < wr.heap.size → w1.heap[k]? = wr.heap[k]? := hb.block
        have hs := hb.size
        have hz := hj.szk
        exact ⟨(hk _ (by omega)).trans hj.box, (hk _ (by omega)).trans hj.kt, hj.d.keep hs fun k e h => ⟨e, hk k h⟩, hj.o.keep hs fun k e h => ⟨e, hk k h⟩, hj.r.keep hs fun k e h => ⟨e, hk k h⟩, fun k e => ⟨(hj.zd k e).1, Nat.lt_of_lt_of_le (hj.zd k e).2 hs⟩, fun k e => ⟨(hj.zo k e).1, Nat.lt_of_lt_of_le (hj.zo k e).2 hs⟩, fun k e => ⟨(hj.zr k e).1, Nat.lt_of_lt_of_le (hj.zr k e).2 hs⟩, hj.dor, hj.rd.below hb, hj.only.below hb, hj.suf, hj.eq, hj.len, by omega, hj.lt⟩)
      have hlW : leftW wr b = (x :: L2).length := HJ.out.rd.left
      clear hb cl0 HJ
      have HJ := HJ1
      clear HJ1
      obtain ⟨T, hTx⟩ : ∃ T, T = x.text := ⟨_, rfl⟩
      unfold wordV headW
      simp only
      rw [← hTx]
      cases h1 : (T == [98, 97, 115, 101])
      · cases h2 : (T == [118, 105, 101, 119])
        · cases h3 : (T == [111, 110])
          · have HT : Hid (txt (x :: L2) ≠ wBase ∧ txt (x :: L2) ≠ wView ∧ txt (x :: L2) ≠ wOn) := Lib.hid (by show x.text ≠ _ ∧ x.text ≠ _ ∧ x.text ≠ _; rw [← hTx]; exact ⟨by show T ≠ [98, 97, 115, 101]; simpa using h1, by show T ≠ [118, 105, 101, 119]; simpa using h2, by show T ≠ [111, 110]; simpa using h3⟩)
            clear hTx
            go_wp2_with fail
            have HS : Hid (w1.drew.cell? ⟨W.heap.size + 1, 2, none⟩ = some vr) := Lib.hid (cell_of_row w1 _ 2 _ _ (0, 0) HJ.out.box)
            refine wp_region_held_drew (S := fun _ => True) (by kernel_rfl) trivial (fun _ => ?_)
            refine take1 0 16 (v := ?_) rfl rfl (by kernel_rfl) (by kernel_rfl) (by kernel_rfl) (fun _ _ _ h => h) (by kernel_rfl) ?_ trivial (by first | (simp only [put_norm]; exact rfl) | exact rfl) ?_
            rotate_left
            · rintro X0 -; go_simp; try (with_reducible rfl)
            refine take1 2 18 (v := ?_) rfl rfl (by kernel_rfl) (by kernel_rfl) (by kernel_rfl) (fun _ _ _ h => h) (by kernel_rfl) ?_ trivial (by first | (simp only [put_norm]; exact rfl) | exact rfl) ?_
            rotate_left
            · rintro X0 -; go_simp; try (with_reducible rfl)
            refine wpAnyH_ready (rs := [1, 3]) (by kernel_rfl) (by simp) ?_
            refine AllReadyH.cons rfl (fun K hK => ?_) ?_
            · have cS := HS.out
              go_simp
              refine hK.out _ _ trivial (fun _ => ?_)
              clear hK K cS
              refine wpAnyH_ready (rs := [3]) (by kernel_rfl) (by simp) ?_
              refine AllReadyH.cons rfl (fun K hK => ?_) AllReadyH.nil
              go_simp
              refine (prule_any HJ.out.rd.drew).mono ?_
              rintro y w3 ⟨ht, ⟨a, L4, v1, hp, hs, rfl, hv, hr⟩ | ⟨L4, hp, hs, rfl⟩⟩
              rotate_left
              · exact ⟨rfl, Only.turned (HJ.out.only.drew.on ht), .inr ⟨L4, HJ.out.eq.trans (contP_bad keys_ne ((clause_rule HJ.out.rd.tidy HT.out.1 HT.out.2.1 HT.out.2.2).trans (bind_bad hp))), hs.trans HJ.out.suf, rfl⟩⟩
              obtain ⟨u, u2, rfl, hu, hu2⟩ := hv
              have HE : Hid (Turned (fun k => k = b) w1 w3 ∧ Rp n w3 b L4 e ∧ clauseR (keys (x :: L2)) = .ok (.rule a) (keys L4) ∧ L4 <:+ x :: L2) := Lib.hid ⟨⟨ht.os, ht.tape, ht.output, ht.size, ht.block⟩, hr, (clause_rule HJ.out.rd.tidy HT.out.1 HT.out.2.1 HT.out.2.2).trans ((bind_ok hp).trans rfl), hs⟩
              have hown : ∀ k, vr.ownBlock = some k → k < w1.heap.size := fun k e => (HJ.out.r.lt k e).2
              have HX3 : Hid (ruY.is (fun k => w1.heap.size ≤ k ∧ k < w3.heap.size) (w3.alloc (.cells #[.string ⟨a.head.pred.toArray⟩, u, u2] 27)) [.string ⟨a.head.pred.toArray⟩, u, u2] a) := Lib.hid ⟨u, u2, rfl, hu.keep (by simp) fun k e hk => ⟨⟨e, hk⟩, Below.heap_alloc _ _ _ hk⟩, hu2.keep (by simp) fun k e hk => ⟨⟨e, hk⟩, Below.heap_alloc _ _ _ hk⟩⟩
              have hb3 : ∀ k, W.heap.size + 1 = k → w3.heap[k]? = w1.heap[k]? := fun k e => HE.out.1.block k (by have := HJ.out.szk; omega) (by have := HJ.out.lt; omega)
              have HS3 : Hid (w3.cell? ⟨W.heap.size + 1, 2, none⟩ = some vr) := Lib.hid (cell_of_row w3 _ 2 _ _ (0, 0) ((hb3 _ rfl).trans HJ.out.box))
              have HS4 : Hid ((w3.alloc (.cells #[.string ⟨a.head.pred.toArray⟩, u, u2] 27)).cell? ⟨W.heap.size + 1, 2, none⟩ = some vr) := Lib.hid ((World.cell?_alloc_some _ _ _ (by rw [HS3.out]; rfl)).trans HS3.out)
              have HOw : Hid (RowZ ruY 27 Zr (w3.alloc (.cells #[.string ⟨a.head.pred.toArray⟩, u, u2] 27)) vr (ofCs cs).rules) := Lib.hid (HJ.out.r.keep (by have := HE.out.1.size; simp; omega) fun k e hk => ⟨e, (Below.heap_alloc _ _ _ (Nat.lt_of_lt_of_le hk HE.out.1.size)).trans (HE.out.1.block k hk (by have := (HJ.out.zr k e).1; have := HJ.out.lt; omega))⟩)
              have hlenA : (ofCs cs).rules.length ≤ 1000000 := by have := HJ.out.len; have := HR.out.len; have := ofCs_len cs; omega
              have HCl : Hid (∀ j u', ([.string ⟨a.head.pred.toArray⟩, u, u2] : List Value)[j]? = some u' → (w3.alloc (.cells #[.string ⟨a.head.pred.toArray⟩, u, u2] 27)).cell? ⟨w3.heap.size, 0 + j, none⟩ = some u') := Lib.hid (lit_rowcells w3 [.string ⟨a.head.pred.toArray⟩, u, u2] _)
              clear ht hp hs hr hb3
              go_wp2_with fail
              refine hK.out _ _ trivial (fun _ => ?_)
              clear hK K
              refine wpAnyH_ready (rs := [4]) (by kernel_rfl) (by simp) ?_
              refine AllReadyH.cons rfl (fun K hK => ?_) AllReadyH.nil
              go_simp
              refine hK.out _ _ trivial (fun _ => ?_)
              clear hK K
              refine wpAnyH_ready (rs := [5]) (by kernel_rfl) (by simp) ?_
              refine AllReadyH.cons rfl (fun K hK => ?_) AllReadyH.nil
              refine step_appZ ruY rfl (.tmp 17) (.tmp 20) 47 27 rfl Zr (fun k => w1.heap.size ≤ k ∧ k < w3.heap.size) (.agg #[.string ⟨#[]⟩, .slice none 0 0, .slice none 0 0]) 64 Tryz.underlying47 Tryz.infoRu rfl (by decide) (by decide) vr _ a [.string ⟨a.head.pred.toArray⟩, u, u2] w3.heap.size 1 rfl rfl HOw.out HX3.out (fun k e e2 => by have := hown k e2; omega) HCl.out hlenA ?_
              intro v2 w5 ho hg
              have HN := Lib.hid (HJ.out.step_r hnW HE.out.1 HE.out.2.1 keys_ne HE.out.2.2.1 HE.out.2.2.2 ho hg)
              obtain ⟨pv, lv, cv, rfl⟩ : ∃ p l c, v2 = .slice p l c := (by obtain ⟨p, c, e⟩ := ho.slice; exact ⟨p, _, c, e⟩)
              have HB5 : Hid (w5.heap[W.heap.size + 1]? = some (.cells #[vd, vo, vr] 49 (0, 0))) := Lib.hid (((Turned.of_grown hg).block _ (by have := HJ.out.szk; have := HE.out.1.size; simp; omega) (fun e => by have := (HJ.out.zr _ (HJ.out.r.lt _ e).1).1; omega)).trans ((Below.heap_alloc _ _ _ (by have := HJ.out.szk; have := HE.out.1.size; omega)).trans ((HE.out.1.block _ (by have := HJ.out.szk; omega) (by have := HJ.out.lt; omega)).trans HJ.out.box)))
              clear ho hg
              refine hK.out _ _ trivial (fun _ => ?_)
              clear hK K
              refine take1 6 22 (v := ?_) rfl rfl (by kernel_rfl) (by kernel_rfl) (by kernel_rfl) (fun _ _ _ h => h) (by kernel_rfl) ?_ trivial (by first | (simp only [put_norm]; exact rfl) | exact rfl) ?_
              rotate_left
              · rintro X0 -; go_simp; try (with_reducible rfl)
              obtain ⟨⟨b0, b1, b2⟩, k0, k1, k2⟩ := cells3 HB5.out
              refine wpAnyH_ready (rs := [7]) (by kernel_rfl) (by simp) ?_
              refine AllReadyH.cons rfl (fun K hK => ?_) AllReadyH.nil
              go_simp
              refine hK.out _ _ trivial (fun _ => ?_)
              clear hK K b0 b1 b2 k0 k1 k2
              refine wpAnyH_done (by kernel_rfl) ?_ _
              go_wp2_with fail
              go_roundw
              case rel => exact ⟨_, _, _, _, _, _, _, _, HN⟩
              case measure =>
                rw [HN.out.rd.left, hlW]
                have := fit_clause.eats _ _ _ HE.out.2.2.1
                rw [keys_len, keys_len] at this
                exact this
            refine AllReadyH.cons rfl (fun K hK => ?_) AllReadyH.nil
            go_simp
            refine (prule_any HJ.out.rd.drew).mono ?_
            rintro y w3 ⟨ht, ⟨a, L4, v1, hp, hs, rfl, hv, hr⟩ | ⟨L4, hp, hs, rfl⟩⟩
            rotate_left
            · exact ⟨rfl, Only.turned (HJ.out.only.drew.on ht), .inr ⟨L4, HJ.out.eq.trans (contP_bad keys_ne ((clause_rule HJ.out.rd.tidy HT.out.1 HT.out.2.1 HT.out.2.2).trans (bind_bad hp))), hs.trans HJ.out.suf, rfl⟩⟩
            obtain ⟨u, u2, rfl, hu, hu2⟩ := hv
            have HE : Hid (Turned (fun k => k = b) w1 w3 ∧ Rp n w3 b L4 e ∧ clauseR (keys (x :: L2)) = .ok (.rule a) (keys L4) ∧ L4 <:+ x :: L2) := Lib.hid ⟨⟨ht.os, ht.tape, ht.output, ht.size, ht.block⟩, hr, (clause_rule HJ.out.rd.tidy HT.out.1 HT.out.2.1 HT.out.2.2).trans ((bind_ok hp).trans rfl), hs⟩
            have hown : ∀ k, vr.ownBlock = some k → k < w1.heap.size := fun k e => (HJ.out.r.lt k e).2
            have HX3 : Hid (ruY.is (fun k => w1.heap.size ≤ k ∧ k < w3.heap.size) (w3.alloc (.cells #[.string ⟨a.head.pred.toArray⟩, u, u2] 27)) [.string ⟨a.head.pred.toArray⟩, u, u2] a) := Lib.hid ⟨u, u2, rfl, hu.keep (by simp) fun k e hk => ⟨⟨e, hk⟩, Below.heap_alloc _ _ _ hk⟩, hu2.keep (by simp) fun k e hk => ⟨⟨e, hk⟩, Below.heap_alloc _ _ _ hk⟩⟩
            have hb3 : ∀ k, W.heap.size + 1 = k → w3.heap[k]? = w1.heap[k]? := fun k e => HE.out.1.block k (by have := HJ.out.szk; omega) (by have := HJ.out.lt; omega)
            have HS3 : Hid (w3.cell? ⟨W.heap.size + 1, 2, none⟩ = some vr) := Lib.hid (cell_of_row w3 _ 2 _ _ (0, 0) ((hb3 _ rfl).trans HJ.out.box))
            have HS4 : Hid ((w3.alloc (.cells #[.string ⟨a.head.pred.toArray⟩, u, u2] 27)).cell? ⟨W.heap.size + 1, 2, none⟩ = some vr) := Lib.hid ((World.cell?_alloc_some _ _ _ (by rw [HS3.out]; rfl)).trans HS3.out)
            have HOw : Hid (RowZ ruY 27 Zr (w3.alloc (.cells #[.string ⟨a.head.pred.toArray⟩, u, u2] 27)) vr (ofCs cs).rules) := Lib.hid (HJ.out.r.keep (by have := HE.out.1.size; simp; omega) fun k e hk => ⟨e, (Below.heap_alloc _ _ _ (Nat.lt_of_lt_of_le hk HE.out.1.size)).trans (HE.out.1.block k hk (by have := (HJ.out.zr k e).1; have := HJ.out.lt; omega))⟩)
            have hlenA : (ofCs cs).rules.length ≤ 1000000 := by have := HJ.out.len; have := HR.out.len; have := ofCs_len cs; omega
            have HCl : Hid (∀ j u', ([.string ⟨a.head.pred.toArray⟩, u, u2] : List Value)[j]? = some u' → (w3.alloc (.cells #[.string ⟨a.head.pred.toArray⟩, u, u2] 27)).cell? ⟨w3.heap.size, 0 + j, none⟩ = some u') := Lib.hid (lit_rowcells w3 [.string ⟨a.head.pred.toArray⟩, u, u2] _)
            clear ht hp hs hr hb3
            go_wp2_with fail
            refine hK.out _ _ trivial (fun _ => ?_)
            clear hK K
            refine wpAnyH_ready (rs := [1, 4]) (by kernel_rfl) (by simp) ?_
            refine AllReadyH.cons rfl (fun K hK => ?_) ?_
            · have cS := HS3.out
              go_simp
              refine hK.out _ _ trivial (fun _ => ?_)
              clear hK K cS
              refine wpAnyH_ready (rs := [4]) (by kernel_rfl) (by simp) ?_
              refine AllReadyH.cons rfl (fun K hK => ?_) AllReadyH.nil
              go_simp
              refine hK.out _ _ trivial (fun _ => ?_)
              clear hK K
              refine wpAnyH_ready (rs := [5]) (by kernel_rfl) (by simp) ?_
              refine AllReadyH.cons rfl (fun K hK => ?_) AllReadyH.nil
              refine step_appZ ruY rfl (.tmp 17) (.tmp 20) 47 27 rfl Zr (fun k => w1.heap.size ≤ k ∧ k < w3.heap.size) (.agg #[.string ⟨#[]⟩, .slice none 0 0, .slice none 0 0]) 64 Tryz.underlying47 Tryz.infoRu rfl (by decide) (by decide) vr _ a [.string ⟨a.head.pred.toArray⟩, u, u2] w3.heap.size 1 rfl rfl HOw.out HX3.out (fun k e e2 => by have := hown k e2; omega) HCl.out hlenA ?_
              intro v2 w5 ho hg
              have HN := Lib.hid (HJ.out.step_r hnW HE.out.1 HE.out.2.1 keys_ne HE.out.2.2.1 HE.out.2.2.2 ho hg)
              obtain ⟨pv, lv, cv, rfl⟩ : ∃ p l c, v2 = .slice p l c := (by obtain ⟨p, c, e⟩ := ho.slice; exact ⟨p, _, c, e⟩)
              have HB5 : Hid (w5.heap[W.heap.size + 1]? = some (.cells #[vd, vo, vr] 49 (0, 0))) := Lib.hid (((Turned.of_grown hg).block _ (by have := HJ.out.szk; have := HE.out.1.size; simp; omega) (fun e => by have := (HJ.out.zr _ (HJ.out.r.lt _ e).1).1; omega)).trans ((Below.heap_alloc _ _ _ (by have := HJ.out.szk; have := HE.out.1.size; omega)).trans ((HE.out.1.block _ (by have := HJ.out.szk; omega) (by have := HJ.out.lt; omega)).trans HJ.out.box)))
              clear ho hg
              refine hK.out _ _ trivial (fun _ => ?_)
              clear hK K
              refine take1 6 22 (v := ?_) rfl rfl (by kernel_rfl) (by kernel_rfl) (by kernel_rfl) (fun _ _ _ h => h) (by kernel_rfl) ?_ trivial (by first | (simp only [put_norm]; exact rfl) | exact rfl) ?_
              rotate_left
              · rintro X0 -; go_simp; try (with_reducible rfl)
              obtain ⟨⟨b0, b1, b2⟩, k0, k1, k2⟩ := cells3 HB5.out
              refine wpAnyH_ready (rs := [7]) (by kernel_rfl) (by simp) ?_
              refine AllReadyH.cons rfl (fun K hK => ?_) AllReadyH.nil
              go_simp
              refine hK.out _ _ trivial (fun _ => ?_)
              clear hK K b0 b1 b2 k0 k1 k2
              refine wpAnyH_done (by kernel_rfl) ?_ _
              go_wp2_with fail
              go_roundw
              case rel => exact ⟨_, _, _, _, _, _, _, _, HN⟩
              case measure =>
                rw [HN.out.rd.left, hlW]
                have := fit_clause.eats _ _ _ HE.out.2.2.1
                rw [keys_len, keys_len] at this
                exact this
            refine AllReadyH.cons rfl (fun K hK => ?_) AllReadyH.nil
            go_simp
            refine hK.out _ _ trivial (fun _ => ?_)
            clear hK K
            refine wpAnyH_ready (rs := [1]) (by kernel_rfl) (by simp) ?_
            refine AllReadyH.cons rfl (fun K hK => ?_) AllReadyH.nil
            have cS := HS4.out
            go_simp
            refine hK.out _ _ trivial (fun _ => ?_)
            clear hK K cS
            refine wpAnyH_ready (rs := [5]) (by kernel_rfl) (by simp) ?_
            refine AllReadyH.cons rfl (fun K hK => ?_) AllReadyH.nil
            refine step_appZ ruY rfl (.tmp 17) (.tmp 20) 47 27 rfl Zr (fun k => w1.heap.size ≤ k ∧ k < w3.heap.size) (.agg #[.string ⟨#[]⟩, .slice none 0 0, .slice none 0 0]) 64 Tryz.underlying47 Tryz.infoRu rfl (by decide) (by decide) vr _ a [.string ⟨a.head.pred.toArray⟩, u, u2] w3.heap.size 1 rfl rfl HOw.out HX3.out (fun k e e2 => by have := hown k e2; omega) HCl.out hlenA ?_
            intro v2 w5 ho hg
            have HN := Lib.hid (HJ.out.step_r hnW HE.out.1 HE.out.2.1 keys_ne HE.out.2.2.1 HE.out.2.2.2 ho hg)
            obtain ⟨pv, lv, cv, rfl⟩ : ∃ p l c, v2 = .slice p l c := (by obtain ⟨p, c, e⟩ := ho.slice; exact ⟨p, _, c, e⟩)
            have HB5 : Hid (w5.heap[W.heap.size + 1]? = some (.cells #[vd, vo, vr] 49 (0, 0))) := Lib.hid (((Turned.of_grown hg).block _ (by have := HJ.out.szk; have := HE.out.1.size; simp; omega) (fun e => by have := (HJ.out.zr _ (HJ.out.r.lt _ e).1).1; omega)).trans ((Below.heap_alloc _ _ _ (by have := HJ.out.szk; have := HE.out.1.size; omega)).trans ((HE.out.1.block _ (by have := HJ.out.szk; omega) (by have := HJ.out.lt; omega)).trans HJ.out.box)))
            clear ho hg
            refine hK.out _ _ trivial (fun _ => ?_)
            clear hK K
            refine take1 6 22 (v := ?_) rfl rfl (by kernel_rfl) (by kernel_rfl) (by kernel_rfl) (fun _ _ _ h => h) (by kernel_rfl) ?_ trivial (by first | (simp only [put_norm]; exact rfl) | exact rfl) ?_
            rotate_left
            · rintro X0 -; go_simp; try (with_reducible rfl)
            obtain ⟨⟨b0, b1, b2⟩, k0, k1, k2⟩ := cells3 HB5.out
            refine wpAnyH_ready (rs := [7]) (by kernel_rfl) (by simp) ?_
            refine AllReadyH.cons rfl (fun K hK => ?_) AllReadyH.nil
            go_simp
            refine hK.out _ _ trivial (fun _ => ?_)
            clear hK K b0 b1 b2 k0 k1 k2
            refine wpAnyH_done (by kernel_rfl) ?_ _
            go_wp2_with fail
            go_roundw
            case rel => exact ⟨_, _, _, _, _, _, _, _, HN⟩
            case measure =>
              rw [HN.out.rd.left, hlW]
              have := fit_clause.eats _ _ _ HE.out.2.2.1
              rw [keys_len, keys_len] at this
              exact this
          · have HT : Hid (x.text = wOn) := Lib.hid (by rw [← hTx]; show T = [111, 110]; simpa using h3)
            clear hTx
            go_wp2_with fail
            have HS : Hid (w1.drew.cell? ⟨W.heap.size + 1, 1, none⟩ = some vo) := Lib.hid (cell_of_row w1 _ 1 _ _ (0, 0) HJ.out.box)
            refine wp_region_held_drew (S := fun _ => True) (by kernel_rfl) trivial (fun _ => ?_)
            refine take1 0 35 (v := ?_) rfl rfl (by kernel_rfl) (by kernel_rfl) (by kernel_rfl) (fun _ _ _ h => h) (by kernel_rfl) ?_ trivial (by first | (simp only [put_norm]; exact rfl) | exact rfl) ?_
            rotate_left
            · rintro X0 -; go_simp; try (with_reducible rfl)
            refine take1 2 37 (v := ?_) rfl rfl (by kernel_rfl) (by kernel_rfl) (by kernel_rfl) (fun _ _ _ h => h) (by kernel_rfl) ?_ trivial (by first | (simp only [put_norm]; exact rfl) | exact rfl) ?_
            rotate_left
            · rintro X0 -; go_simp; try (with_reducible rfl)
            refine wpAnyH_ready (rs := [1, 3]) (by kernel_rfl) (by simp) ?_
            refine AllReadyH.cons rfl (fun K hK => ?_) ?_
            · have cS := HS.out
              go_simp
              refine hK.out _ _ trivial (fun _ => ?_)
              clear hK K cS
              refine wpAnyH_ready (rs := [3]) (by kernel_rfl) (by simp) ?_
              refine AllReadyH.cons rfl (fun K hK => ?_) AllReadyH.nil
              go_simp
              refine (pon_any HJ.out.rd.drew HT.out).mono ?_
              rintro y w3 ⟨ht, ⟨a, L4, v1, hp, hs, rfl, hv, hr⟩ | ⟨L4, hp, hs, rfl⟩⟩
              rotate_left
              · exact ⟨rfl, Only.turned (HJ.out.only.drew.on ht), .inr ⟨L4, HJ.out.eq.trans (contP_bad keys_ne ((clause_on HJ.out.rd.tidy HT.out).trans (bind_bad hp))), hs.trans HJ.out.suf, rfl⟩⟩
              obtain ⟨u, u2, rfl, hu, hu2⟩ := hv
              have HE : Hid (Turned (fun k => k = b) w1 w3 ∧ Rp n w3 b L4 e ∧ clauseR (keys (x :: L2)) = .ok (.on a) (keys L4) ∧ L4 <:+ x :: L2) := Lib.hid ⟨⟨ht.os, ht.tape, ht.output, ht.size, ht.block⟩, hr, (clause_on HJ.out.rd.tidy HT.out).trans ((bind_ok hp).trans rfl), hs⟩
              have hown : ∀ k, vo.ownBlock = some k → k < w1.heap.size := fun k e => (HJ.out.o.lt k e).2
              have HX3 : Hid (onY.is (fun k => w1.heap.size ≤ k ∧ k < w3.heap.size) (w3.alloc (.cells #[.string ⟨a.event.toArray⟩, u, u2] 34)) [.string ⟨a.event.toArray⟩, u, u2] a) := Lib.hid ⟨u, u2, rfl, hu.keep (by simp) fun k e hk => ⟨⟨e, hk⟩, Below.heap_alloc _ _ _ hk⟩, hu2.keep (by simp) fun k e hk => ⟨⟨e, hk⟩, Below.heap_alloc _ _ _ hk⟩⟩
              have hb3 : ∀ k, W.heap.size + 1 = k → w3.heap[k]? = w1.heap[k]? := fun k e => HE.out.1.block k (by have := HJ.out.szk; omega) (by have := HJ.out.lt; omega)
              have HS3 : Hid (w3.cell? ⟨W.heap.size + 1, 1, none⟩ = some vo) := Lib.hid (cell_of_row w3 _ 1 _ _ (0, 0) ((hb3 _ rfl).trans HJ.out.box))
              have HS4 : Hid ((w3.alloc (.cells #[.string ⟨a.event.toArray⟩, u, u2] 34)).cell? ⟨W.heap.size + 1, 1, none⟩ = some vo) := Lib.hid ((World.cell?_alloc_some _ _ _ (by rw [HS3.out]; rfl)).trans HS3.out)
              have HOw : Hid (RowZ onY 34 Zo (w3.alloc (.cells #[.string ⟨a.event.toArray⟩, u, u2] 34)) vo (ofCs cs).ons) := Lib.hid (HJ.out.o.keep (by have := HE.out.1.size; simp; omega) fun k e hk => ⟨e, (Below.heap_alloc _ _ _ (Nat.lt_of_lt_of_le hk HE.out.1.size)).trans (HE.out.1.block k hk (by have := (HJ.out.zo k e).1; have := HJ.out.lt; omega))⟩)
              have hlenA : (ofCs cs).ons.length ≤ 1000000 := by have := HJ.out.len; have := HR.out.len; have := ofCs_len cs; omega
              have HCl : Hid (∀ j u', ([.string ⟨a.event.toArray⟩, u, u2] : List Value)[j]? = some u' → (w3.alloc (.cells #[.string ⟨a.event.toArray⟩, u, u2] 34)).cell? ⟨w3.heap.size, 0 + j, none⟩ = some u') := Lib.hid (lit_rowcells w3 [.string ⟨a.event.toArray⟩, u, u2] _)
              clear ht hp hs hr hb3
              go_wp2_with fail
              refine hK.out _ _ trivial (fun _ => ?_)
              clear hK K
              refine wpAnyH_ready (rs := [4]) (by kernel_rfl) (by simp) ?_
              refine AllReadyH.cons rfl (fun K hK => ?_) AllReadyH.nil
              go_simp
              refine hK.out _ _ trivial (fun _ => ?_)
              clear hK K
              refine wpAnyH_ready (rs := [5]) (by kernel_rfl) (by simp) ?_
              refine AllReadyH.cons rfl (fun K hK => ?_) AllReadyH.nil
              refine step_appZ onY rfl (.tmp 36) (.tmp 39) 46 34 rfl Zo (fun k => w1.heap.size ≤ k ∧ k < w3.heap.size) (.agg #[.string ⟨#[]⟩, .slice none 0 0, .slice none 0 0]) 64 Tryz.underlying46 Tryz.infoOn rfl (by decide) (by decide) vo _ a [.string ⟨a.event.toArray⟩, u, u2] w3.heap.size 1 rfl rfl HOw.out HX3.out (fun k e e2 => by have := hown k e2; omega) HCl.out hlenA ?_
              intro v2 w5 ho hg
              have HN := Lib.hid (HJ.out.step_o hnW HE.out.1 HE.out.2.1 keys_ne HE.out.2.2.1 HE.out.2.2.2 ho hg)
              obtain ⟨pv, lv, cv, rfl⟩ : ∃ p l c, v2 = .slice p l c := (by obtain ⟨p, c, e⟩ := ho.slice; exact ⟨p, _, c, e⟩)
              have HB5 : Hid (w5.heap[W.heap.size + 1]? = some (.cells #[vd, vo, vr] 49 (0, 0))) := Lib.hid (((Turned.of_grown hg).block _ (by have := HJ.out.szk; have := HE.out.1.size; simp; omega) (fun e => by have := (HJ.out.zo _ (HJ.out.o.lt _ e).1).1; omega)).trans ((Below.heap_alloc _ _ _ (by have := HJ.out.szk; have := HE.out.1.size; omega)).trans ((HE.out.1.block _ (by have := HJ.out.szk; omega) (by have := HJ.out.lt; omega)).trans HJ.out.box)))
              clear ho hg
              refine hK.out _ _ trivial (fun _ => ?_)
              clear hK K
              refine take1 6 41 (v := ?_) rfl rfl (by kernel_rfl) (by kernel_rfl) (by kernel_rfl) (fun _ _ _ h => h) (by kernel_rfl) ?_ trivial (by first | (simp only [put_norm]; exact rfl) | exact rfl) ?_
              rotate_left
              · rintro X0 -; go_simp; try (with_reducible rfl)
              obtain ⟨⟨b0, b1, b2⟩, k0, k1, k2⟩ := cells3 HB5.out
              refine wpAnyH_ready (rs := [7]) (by kernel_rfl) (by simp) ?_
              refine AllReadyH.cons rfl (fun K hK => ?_) AllReadyH.nil
              go_simp
              refine hK.out _ _ trivial (fun _ => ?_)
              clear hK K b0 b1 b2 k0 k1 k2
              refine wpAnyH_done (by kernel_rfl) ?_ _
              go_wp2_with fail
              go_roundw
              case rel => exact ⟨_, _, _, _, _, _, _, _, HN⟩
              case measure =>
                rw [HN.out.rd.left, hlW]
                have := fit_clause.eats _ _ _ HE.out.2.2.1
                rw [keys_len, keys_len] at this
                exact this
            refine AllReadyH.cons rfl (fun K hK => ?_) AllReadyH.nil
            go_simp
            refine (pon_any HJ.out.rd.drew HT.out).mono ?_
            rintro y w3 ⟨ht, ⟨a, L4, v1, hp, hs, rfl, hv, hr⟩ | ⟨L4, hp, hs, rfl⟩⟩
            rotate_left
            · exact ⟨rfl, Only.turned (HJ.out.only.drew.on ht), .inr ⟨L4, HJ.out.eq.trans (contP_bad keys_ne ((clause_on HJ.out.rd.tidy HT.out).trans (bind_bad hp))), hs.trans HJ.out.suf, rfl⟩⟩
            obtain ⟨u, u2, rfl, hu, hu2⟩ := hv
            have HE : Hid (Turned (fun k => k = b) w1 w3 ∧ Rp n w3 b L4 e ∧ clauseR (keys (x :: L2)) = .ok (.on a) (keys L4) ∧ L4 <:+ x :: L2) := Lib.hid ⟨⟨ht.os, ht.tape, ht.output, ht.size, ht.block⟩, hr, (clause_on HJ.out.rd.tidy HT.out).trans ((bind_ok hp).trans rfl), hs⟩
            have hown : ∀ k, vo.ownBlock = some k → k < w1.heap.size := fun k e => (HJ.out.o.lt k e).2
            have HX3 : Hid (onY.is (fun k => w1.heap.size ≤ k ∧ k < w3.heap.size) (w3.alloc (.cells #[.string ⟨a.event.toArray⟩, u, u2] 34)) [.string ⟨a.event.toArray⟩, u, u2] a) := Lib.hid ⟨u, u2, rfl, hu.keep (by simp) fun k e hk => ⟨⟨e, hk⟩, Below.heap_alloc _ _ _ hk⟩, hu2.keep (by simp) fun k e hk => ⟨⟨e, hk⟩, Below.heap_alloc _ _ _ hk⟩⟩
            have hb3 : ∀ k, W.heap.size + 1 = k → w3.heap[k]? = w1.heap[k]? := fun k e => HE.out.1.block k (by have := HJ.out.szk; omega) (by have := HJ.out.lt; omega)
            have HS3 : Hid (w3.cell? ⟨W.heap.size + 1, 1, none⟩ = some vo) := Lib.hid (cell_of_row w3 _ 1 _ _ (0, 0) ((hb3 _ rfl).trans HJ.out.box))
            have HS4 : Hid ((w3.alloc (.cells #[.string ⟨a.event.toArray⟩, u, u2] 34)).cell? ⟨W.heap.size + 1, 1, none⟩ = some vo) := Lib.hid ((World.cell?_alloc_some _ _ _ (by rw [HS3.out]; rfl)).trans HS3.out)
            have HOw : Hid (RowZ onY 34 Zo (w3.alloc (.cells #[.string ⟨a.event.toArray⟩, u, u2] 34)) vo (ofCs cs).ons) := Lib.hid (HJ.out.o.keep (by have := HE.out.1.size; simp; omega) fun k e hk => ⟨e, (Below.heap_alloc _ _ _ (Nat.lt_of_lt_of_le hk HE.out.1.size)).trans (HE.out.1.block k hk (by have := (HJ.out.zo k e).1; have := HJ.out.lt; omega))⟩)
            have hlenA : (ofCs cs).ons.length ≤ 1000000 := by have := HJ.out.len; have := HR.out.len; have := ofCs_len cs; omega
            have HCl : Hid (∀ j u', ([.string ⟨a.event.toArray⟩, u, u2] : List Value)[j]? = some u' → (w3.alloc (.cells #[.string ⟨a.event.toArray⟩, u, u2] 34)).cell? ⟨w3.heap.size, 0 + j, none⟩ = some u') := Lib.hid (lit_rowcells w3 [.string ⟨a.event.toArray⟩, u, u2] _)
            clear ht hp hs hr hb3
            go_wp2_with fail
            refine hK.out _ _ trivial (fun _ => ?_)
            clear hK K
            refine wpAnyH_ready (rs := [1, 4]) (by kernel_rfl) (by simp) ?_
            refine AllReadyH.cons rfl (fun K hK => ?_) ?_
            · have cS := HS3.out
              go_simp
              refine hK.out _ _ trivial (fun _ => ?_)
              clear hK K cS
              refine wpAnyH_ready (rs := [4]) (by kernel_rfl) (by simp) ?_
              refine AllReadyH.cons rfl (fun K hK => ?_) AllReadyH.nil
              go_simp
              refine hK.out _ _ trivial (fun _ => ?_)
              clear hK K
              refine wpAnyH_ready (rs := [5]) (by kernel_rfl) (by simp) ?_
              refine AllReadyH.cons rfl (fun K hK => ?_) AllReadyH.nil
              refine step_appZ onY rfl (.tmp 36) (.tmp 39) 46 34 rfl Zo (fun k => w1.heap.size ≤ k ∧ k < w3.heap.size) (.agg #[.string ⟨#[]⟩, .slice none 0 0, .slice none 0 0]) 64 Tryz.underlying46 Tryz.infoOn rfl (by decide) (by decide) vo _ a [.string ⟨a.event.toArray⟩, u, u2] w3.heap.size 1 rfl rfl HOw.out HX3.out (fun k e e2 => by have := hown k e2; omega) HCl.out hlenA ?_
              intro v2 w5 ho hg
              have HN := Lib.hid (HJ.out.step_o hnW HE.out.1 HE.out.2.1 keys_ne HE.out.2.2.1 HE.out.2.2.2 ho hg)
              obtain ⟨pv, lv, cv, rfl⟩ : ∃ p l c, v2 = .slice p l c := (by obtain ⟨p, c, e⟩ := ho.slice; exact ⟨p, _, c, e⟩)
              have HB5 : Hid (w5.heap[W.heap.size + 1]? = some (.cells #[vd, vo, vr] 49 (0, 0))) := Lib.hid (((Turned.of_grown hg).block _ (by have := HJ.out.szk; have := HE.out.1.size; simp; omega) (fun e => by have := (HJ.out.zo _ (HJ.out.o.lt _ e).1).1; omega)).trans ((Below.heap_alloc _ _ _ (by have := HJ.out.szk; have := HE.out.1.size; omega)).trans ((HE.out.1.block _ (by have := HJ.out.szk; omega) (by have := HJ.out.lt; omega)).trans HJ.out.box)))
              clear ho hg
              refine hK.out _ _ trivial (fun _ => ?_)
              clear hK K
              refine take1 6 41 (v := ?_) rfl rfl (by kernel_rfl) (by kernel_rfl) (by kernel_rfl) (fun _ _ _ h => h) (by kernel_rfl) ?_ trivial (by first | (simp only [put_norm]; exact rfl) | exact rfl) ?_
              rotate_left
              · rintro X0 -; go_simp; try (with_reducible rfl)
              obtain ⟨⟨b0, b1, b2⟩, k0, k1, k2⟩ := cells3 HB5.out
              refine wpAnyH_ready (rs := [7]) (by kernel_rfl) (by simp) ?_
              refine AllReadyH.cons rfl (fun K hK => ?_) AllReadyH.nil
              go_simp
              refine hK.out _ _ trivial (fun _ => ?_)
              clear hK K b0 b1 b2 k0 k1 k2
              refine wpAnyH_done (by kernel_rfl) ?_ _
              go_wp2_with fail
              go_roundw
              case rel => exact ⟨_, _, _, _, _, _, _, _, HN⟩
              case measure =>
                rw [HN.out.rd.left, hlW]
                have := fit_clause.eats _ _ _ HE.out.2.2.1
                rw [keys_len, keys_len] at this
                exact this
            refine AllReadyH.cons rfl (fun K hK => ?_) AllReadyH.nil
            go_simp
            refine hK.out _ _ trivial (fun _ => ?_)
            clear hK K
            refine wpAnyH_ready (rs := [1]) (by kernel_rfl) (by simp) ?_
            refine AllReadyH.cons rfl (fun K hK => ?_) AllReadyH.nil
            have cS := HS4.out
            go_simp
            refine hK.out _ _ trivial (fun _ => ?_)
            clear hK K cS
            refine wpAnyH_ready (rs := [5]) (by kernel_rfl) (by simp) ?_
            refine AllReadyH.cons rfl (fun K hK => ?_) AllReadyH.nil
            refine step_appZ onY rfl (.tmp 36) (.tmp 39) 46 34 rfl Zo (fun k => w1.heap.size ≤ k ∧ k < w3.heap.size) (.agg #[.string ⟨#[]⟩, .slice none 0 0, .slice none 0 0]) 64 Tryz.underlying46 Tryz.infoOn rfl (by decide) (by decide) vo _ a [.string ⟨a.event.toArray⟩, u, u2] w3.heap.size 1 rfl rfl HOw.out HX3.out (fun k e e2 => by have := hown k e2; omega) HCl.out hlenA ?_
            intro v2 w5 ho hg
            have HN := Lib.hid (HJ.out.step_o hnW HE.out.1 HE.out.2.1 keys_ne HE.out.2.2.1 HE.out.2.2.2 ho hg)
            obtain ⟨pv, lv, cv, rfl⟩ : ∃ p l c, v2 = .slice p l c := (by obtain ⟨p, c, e⟩ := ho.slice; exact ⟨p, _, c, e⟩)
            have HB5 : Hid (w5.heap[W.heap.size + 1]? = some (.cells #[vd, vo, vr] 49 (0, 0))) := Lib.hid (((Turned.of_grown hg).block _ (by have := HJ.out.szk; have := HE.out.1.size; simp; omega) (fun e => by have := (HJ.out.zo _ (HJ.out.o.lt _ e).1).1; omega)).trans ((Below.heap_alloc _ _ _ (by have := HJ.out.szk; have := HE.out.1.size; omega)).trans ((HE.out.1.block _ (by have := HJ.out.szk; omega) (by have := HJ.out.lt; omega)).trans HJ.out.box)))
            clear ho hg
            refine hK.out _ _ trivial (fun _ => ?_)
            clear hK K
            refine take1 6 41 (v := ?_) rfl rfl (by kernel_rfl) (by kernel_rfl) (by kernel_rfl) (fun _ _ _ h => h) (by kernel_rfl) ?_ trivial (by first | (simp only [put_norm]; exact rfl) | exact rfl) ?_
            rotate_left
            · rintro X0 -; go_simp; try (with_reducible rfl)
            obtain ⟨⟨b0, b1, b2⟩, k0, k1, k2⟩ := cells3 HB5.out
            refine wpAnyH_ready (rs := [7]) (by kernel_rfl) (by simp) ?_
            refine AllReadyH.cons rfl (fun K hK => ?_) AllReadyH.nil
            go_simp
            refine hK.out _ _ trivial (fun _ => ?_)
            clear hK K b0 b1 b2 k0 k1 k2
            refine wpAnyH_done (by kernel_rfl) ?_ _
            go_wp2_with fail
            go_roundw
            case rel => exact ⟨_, _, _, _, _, _, _, _, HN⟩
            case measure =>
              rw [HN.out.rd.left, hlW]
              have := fit_clause.eats _ _ _ HE.out.2.2.1
              rw [keys_len, keys_len] at this
              exact this
        · have HT : Hid (x.text = wBase ∨ x.text = wView) := Lib.hid (.inr (by rw [← hTx]; show T = [118, 105, 101, 119]; simpa using h2))
          clear hTx
          go_wp2_with fail
          have HS : Hid (w1.drew.cell? ⟨W.heap.size + 1, 0, none⟩ = some vd) := Lib.hid (cell_of_row w1 _ 0 _ _ (0, 0) HJ.out.box)
          refine wp_region_held_drew (S := fun _ => True) (by kernel_rfl) trivial (fun _ => ?_)
          refine take1 0 26 (v := ?_) rfl rfl (by kernel_rfl) (by kernel_rfl) (by kernel_rfl) (fun _ _ _ h => h) (by kernel_rfl) ?_ trivial (by first | (simp only [put_norm]; exact rfl) | exact rfl) ?_
          rotate_left
          · rintro X0 -; go_simp; try (with_reducible rfl)
          refine take1 2 28 (v := ?_) rfl rfl (by kernel_rfl) (by kernel_rfl) (by kernel_rfl) (fun _ _ _ h => h) (by kernel_rfl) ?_ trivial (by first | (simp only [put_norm]; exact rfl) | exact rfl) ?_
          rotate_left
          · rintro X0 -; go_simp; try (with_reducible rfl)
          refine wpAnyH_ready (rs := [1, 3]) (by kernel_rfl) (by simp) ?_
          refine AllReadyH.cons rfl (fun K hK => ?_) ?_
          · have cS := HS.out
            go_simp
            refine hK.out _ _ trivial (fun _ => ?_)
            clear hK K cS
            refine wpAnyH_ready (rs := [3]) (by kernel_rfl) (by simp) ?_
            refine AllReadyH.cons rfl (fun K hK => ?_) AllReadyH.nil
            go_simp
            refine (pdecl_any HJ.out.rd.drew HT.out).mono ?_
            rintro y w3 ⟨ht, ⟨a, L4, v1, hp, hs, rfl, hv, hr⟩ | ⟨L4, hp, hs, rfl⟩⟩
            rotate_left
            · exact ⟨rfl, Only.turned (HJ.out.only.drew.on ht), .inr ⟨L4, HJ.out.eq.trans (contP_bad keys_ne ((clause_decl HJ.out.rd.tidy HT.out).trans (bind_bad hp))), hs.trans HJ.out.suf, rfl⟩⟩
            obtain ⟨u, rfl, hu⟩ := hv
            have HE : Hid (Turned (fun k => k = b) w1 w3 ∧ Rp n w3 b L4 e ∧ clauseR (keys (x :: L2)) = .ok (.decl a) (keys L4) ∧ L4 <:+ x :: L2) := Lib.hid ⟨⟨ht.os, ht.tape, ht.output, ht.size, ht.block⟩, hr, (clause_decl HJ.out.rd.tidy HT.out).trans ((bind_ok hp).trans rfl), hs⟩
            have hown : ∀ k, vd.ownBlock = some k → k < w1.heap.size := fun k e => (HJ.out.d.lt k e).2
            have HX3 : Hid (deY.is (fun k => w1.heap.size ≤ k ∧ k < w3.heap.size) (w3.alloc (.cells #[.string ⟨a.name.toArray⟩, .bool a.base, u] 30)) [.string ⟨a.name.toArray⟩, .bool a.base, u] a) := Lib.hid ⟨u, rfl, hu.keep (by simp) fun k e hk => ⟨⟨e, hk⟩, Below.heap_alloc _ _ _ hk⟩⟩
            have hb3 : ∀ k, W.heap.size + 1 = k → w3.heap[k]? = w1.heap[k]? := fun k e => HE.out.1.block k (by have := HJ.out.szk; omega) (by have := HJ.out.lt; omega)
            have HS3 : Hid (w3.cell? ⟨W.heap.size + 1, 0, none⟩ = some vd) := Lib.hid (cell_of_row w3 _ 0 _ _ (0, 0) ((hb3 _ rfl).trans HJ.out.box))
            have HS4 : Hid ((w3.alloc (.cells #[.string ⟨a.name.toArray⟩, .bool a.base, u] 30)).cell? ⟨W.heap.size + 1, 0, none⟩ = some vd) := Lib.hid ((World.cell?_alloc_some _ _ _ (by rw [HS3.out]; rfl)).trans HS3.out)
            have HOw : Hid (RowZ deY 30 Zd (w3.alloc (.cells #[.string ⟨a.name.toArray⟩, .bool a.base, u] 30)) vd (ofCs cs).decls) := Lib.hid (HJ.out.d.keep (by have := HE.out.1.size; simp; omega) fun k e hk => ⟨e, (Below.heap_alloc _ _ _ (Nat.lt_of_lt_of_le hk HE.out.1.size)).trans (HE.out.1.block k hk (by have := (HJ.out.zd k e).1; have := HJ.out.lt; omega))⟩)
            have hlenA : (ofCs cs).decls.length ≤ 1000000 := by have := HJ.out.len; have := HR.out.len; have := ofCs_len cs; omega
            have HCl : Hid (∀ j u', ([.string ⟨a.name.toArray⟩, .bool a.base, u] : List Value)[j]? = some u' → (w3.alloc (.cells #[.string ⟨a.name.toArray⟩, .bool a.base, u] 30)).cell? ⟨w3.heap.size, 0 + j, none⟩ = some u') := Lib.hid (lit_rowcells w3 [.string ⟨a.name.toArray⟩, .bool a.base, u] _)
            clear ht hp hs hr hb3
            go_wp2_with fail
            refine hK.out _ _ trivial (fun _ => ?_)
            clear hK K
            refine wpAnyH_ready (rs := [4]) (by kernel_rfl) (by simp) ?_
            refine AllReadyH.cons rfl (fun K hK => ?_) AllReadyH.nil
            go_simp
            refine hK.out _ _ trivial (fun _ => ?_)
            clear hK K
            refine wpAnyH_ready (rs := [5]) (by kernel_rfl) (by simp) ?_
            refine AllReadyH.cons rfl (fun K hK => ?_) AllReadyH.nil
            refine step_appZ deY rfl (.tmp 27) (.tmp 30) 45 30 rfl Zd (fun k => w1.heap.size ≤ k ∧ k < w3.heap.size) (.agg #[.string ⟨#[]⟩, .bool false, .slice none 0 0]) 48 Tryz.underlying45 Tryz.infoDe rfl (by decide) (by decide) vd _ a [.string ⟨a.name.toArray⟩, .bool a.base, u] w3.heap.size 1 rfl rfl HOw.out HX3.out (fun k e e2 => by have := hown k e2; omega) HCl.out hlenA ?_
            intro v2 w5 ho hg
            have HN := Lib.hid (HJ.out.step_d hnW HE.out.1 HE.out.2.1 keys_ne HE.out.2.2.1 HE.out.2.2.2 ho hg)
            obtain ⟨pv, lv, cv, rfl⟩ : ∃ p l c, v2 = .slice p l c := (by obtain ⟨p, c, e⟩ := ho.slice; exact ⟨p, _, c, e⟩)
            have HB5 : Hid (w5.heap[W.heap.size + 1]? = some (.cells #[vd, vo, vr] 49 (0, 0))) := Lib.hid (((Turned.of_grown hg).block _ (by have := HJ.out.szk; have := HE.out.1.size; simp; omega) (fun e => by have := (HJ.out.zd _ (HJ.out.d.lt _ e).1).1; omega)).trans ((Below.heap_alloc _ _ _ (by have := HJ.out.szk; have := HE.out.1.size; omega)).trans ((HE.out.1.block _ (by have := HJ.out.szk; omega) (by have := HJ.out.lt; omega)).trans HJ.out.box)))
            clear ho hg
            refine hK.out _ _ trivial (fun _ => ?_)
            clear hK K
            refine take1 6 32 (v := ?_) rfl rfl (by kernel_rfl) (by kernel_rfl) (by kernel_rfl) (fun _ _ _ h => h) (by kernel_rfl) ?_ trivial (by first | (simp only [put_norm]; exact rfl) | exact rfl) ?_
            rotate_left
            · rintro X0 -; go_simp; try (with_reducible rfl)
            obtain ⟨⟨b0, b1, b2⟩, k0, k1, k2⟩ := cells3 HB5.out
            refine wpAnyH_ready (rs := [7]) (by kernel_rfl) (by simp) ?_
            refine AllReadyH.cons rfl (fun K hK => ?_) AllReadyH.nil
            go_simp
            refine hK.out _ _ trivial (fun _ => ?_)
            clear hK K b0 b1 b2 k0 k1 k2
            refine wpAnyH_done (by kernel_rfl) ?_ _
            go_wp2_with fail
            go_roundw
            case rel => exact ⟨_, _, _, _, _, _, _, _, HN⟩
            case measure =>
              rw [HN.out.rd.left, hlW]
              have := fit_clause.eats _ _ _ HE.out.2.2.1
              rw [keys_len, keys_len] at this
              exact this
          refine AllReadyH.cons rfl (fun K hK => ?_) AllReadyH.nil
          go_simp
          refine (pdecl_any HJ.out.rd.drew HT.out).mono ?_
          rintro y w3 ⟨ht, ⟨a, L4, v1, hp, hs, rfl, hv, hr⟩ | ⟨L4, hp, hs, rfl⟩⟩
          rotate_left
          · exact ⟨rfl, Only.turned (HJ.out.only.drew.on ht), .inr ⟨L4, HJ.out.eq.trans (contP_bad keys_ne ((clause_decl HJ.out.rd.tidy HT.out).trans (bind_bad hp))), hs.trans HJ.out.suf, rfl⟩⟩
          obtain ⟨u, rfl, hu⟩ := hv
          have HE : Hid (Turned (fun k => k = b) w1 w3 ∧ Rp n w3 b L4 e ∧ clauseR (keys (x :: L2)) = .ok (.decl a) (keys L4) ∧ L4 <:+ x :: L2) := Lib.hid ⟨⟨ht.os, ht.tape, ht.output, ht.size, ht.block⟩, hr, (clause_decl HJ.out.rd.tidy HT.out).trans ((bind_ok hp).trans rfl), hs⟩
          have hown : ∀ k, vd.ownBlock = some k → k < w1.heap.size := fun k e => (HJ.out.d.lt k e).2
          have HX3 : Hid (deY.is (fun k => w1.heap.size ≤ k ∧ k < w3.heap.size) (w3.alloc (.cells #[.string ⟨a.name.toArray⟩, .bool a.base, u] 30)) [.string ⟨a.name.toArray⟩, .bool a.base, u] a) := Lib.hid ⟨u, rfl, hu.keep (by simp) fun k e hk => ⟨⟨e, hk⟩, Below.heap_alloc _ _ _ hk⟩⟩
          have hb3 : ∀ k, W.heap.size + 1 = k → w3.heap[k]? = w1.heap[k]? := fun k e => HE.out.1.block k (by have := HJ.out.szk; omega) (by have := HJ.out.lt; omega)
          have HS3 : Hid (w3.cell? ⟨W.heap.size + 1, 0, none⟩ = some vd) := Lib.hid (cell_of_row w3 _ 0 _ _ (0, 0) ((hb3 _ rfl).trans HJ.out.box))
          have HS4 : Hid ((w3.alloc (.cells #[.string ⟨a.name.toArray⟩, .bool a.base, u] 30)).cell? ⟨W.heap.size + 1, 0, none⟩ = some vd) := Lib.hid ((World.cell?_alloc_some _ _ _ (by rw [HS3.out]; rfl)).trans HS3.out)
          have HOw : Hid (RowZ deY 30 Zd (w3.alloc (.cells #[.string ⟨a.name.toArray⟩, .bool a.base, u] 30)) vd (ofCs cs).decls) := Lib.hid (HJ.out.d.keep (by have := HE.out.1.size; simp; omega) fun k e hk => ⟨e, (Below.heap_alloc _ _ _ (Nat.lt_of_lt_of_le hk HE.out.1.size)).trans (HE.out.1.block k hk (by have := (HJ.out.zd k e).1; have := HJ.out.lt; omega))⟩)
          have hlenA : (ofCs cs).decls.length ≤ 1000000 := by have := HJ.out.len; have := HR.out.len; have := ofCs_len cs; omega
          have HCl : Hid (∀ j u', ([.string ⟨a.name.toArray⟩, .bool a.base, u] : List Value)[j]? = some u' → (w3.alloc (.cells #[.string ⟨a.name.toArray⟩, .bool a.base, u] 30)).cell? ⟨w3.heap.size, 0 + j, none⟩ = some u') := Lib.hid (lit_rowcells w3 [.string ⟨a.name.toArray⟩, .bool a.base, u] _)
          clear ht hp hs hr hb3
          go_wp2_with fail
          refine hK.out _ _ trivial (fun _ => ?_)
          clear hK K
          refine wpAnyH_ready (rs := [1, 4]) (by kernel_rfl) (by simp) ?_
          refine AllReadyH.cons rfl (fun K hK => ?_) ?_
          · have cS := HS3.out
            go_simp
            refine hK.out _ _ trivial (fun _ => ?_)
            clear hK K cS
            refine wpAnyH_ready (rs := [4]) (by kernel_rfl) (by simp) ?_
            refine AllReadyH.cons rfl (fun K hK => ?_) AllReadyH.nil
            go_simp
            refine hK.out _ _ trivial (fun _ => ?_)
            clear hK K
            refine wpAnyH_ready (rs := [5]) (by kernel_rfl) (by simp) ?_
            refine AllReadyH.cons rfl (fun K hK => ?_) AllReadyH.nil
            refine step_appZ deY rfl (.tmp 27) (.tmp 30) 45 30 rfl Zd (fun k => w1.heap.size ≤ k ∧ k < w3.heap.size) (.agg #[.string ⟨#[]⟩, .bool false, .slice none 0 0]) 48 Tryz.underlying45 Tryz.infoDe rfl (by decide) (by decide) vd _ a [.string ⟨a.name.toArray⟩, .bool a.base, u] w3.heap.size 1 rfl rfl HOw.out HX3.out (fun k e e2 => by have := hown k e2; omega) HCl.out hlenA ?_
            intro v2 w5 ho hg
            have HN := Lib.hid (HJ.out.step_d hnW HE.out.1 HE.out.2.1 keys_ne HE.out.2.2.1 HE.out.2.2.2 ho hg)
            obtain ⟨pv, lv, cv, rfl⟩ : ∃ p l c, v2 = .slice p l c := (by obtain ⟨p, c, e⟩ := ho.slice; exact ⟨p, _, c, e⟩)
            have HB5 : Hid (w5.heap[W.heap.size + 1]? = some (.cells #[vd, vo, vr] 49 (0, 0))) := Lib.hid (((Turned.of_grown hg).block _ (by have := HJ.out.szk; have := HE.out.1.size; simp; omega) (fun e => by have := (HJ.out.zd _ (HJ.out.d.lt _ e).1).1; omega)).trans ((Below.heap_alloc _ _ _ (by have := HJ.out.szk; have := HE.out.1.size; omega)).trans ((HE.out.1.block _ (by have := HJ.out.szk; omega) (by have := HJ.out.lt; omega)).trans HJ.out.box)))
            clear ho hg
            refine hK.out _ _ trivial (fun _ => ?_)
            clear hK K
            refine take1 6 32 (v := ?_) rfl rfl (by kernel_rfl) (by kernel_rfl) (by kernel_rfl) (fun _ _ _ h => h) (by kernel_rfl) ?_ trivial (by first | (simp only [put_norm]; exact rfl) | exact rfl) ?_
            rotate_left
            · rintro X0 -; go_simp; try (with_reducible rfl)
            obtain ⟨⟨b0, b1, b2⟩, k0, k1, k2⟩ := cells3 HB5.out
            refine wpAnyH_ready (rs := [7]) (by kernel_rfl) (by simp) ?_
            refine AllReadyH.cons rfl (fun K hK => ?_) AllReadyH.nil
            go_simp
            refine hK.out _ _ trivial (fun _ => ?_)
            clear hK K b0 b1 b2 k0 k1 k2
            refine wpAnyH_done (by kernel_rfl) ?_ _
            go_wp2_with fail
            go_roundw
            case rel => exact ⟨_, _, _, _, _, _, _, _, HN⟩
            case measure =>
              rw [HN.out.rd.left, hlW]
              have := fit_clause.eats _ _ _ HE.out.2.2.1
              rw [keys_len, keys_len] at this
              exact this
          refine AllReadyH.cons rfl (fun K hK => ?_) AllReadyH.nil
          go_simp
          refine hK.out _ _ trivial (fun _ => ?_)
          clear hK K
          refine wpAnyH_ready (rs := [1]) (by kernel_rfl) (by simp) ?_
          refine AllReadyH.cons rfl (fun K hK => ?_) AllReadyH.nil
          have cS := HS4.out
          go_simp
          refine hK.out _ _ trivial (fun _ => ?_)
          clear hK K cS
          refine wpAnyH_ready (rs := [5]) (by kernel_rfl) (by simp) ?_
          refine AllReadyH.cons rfl (fun K hK => ?_) AllReadyH.nil
          refine step_appZ deY rfl (.tmp 27) (.tmp 30) 45 30 rfl Zd (fun k => w1.heap.size ≤ k ∧ k < w3.heap.size) (.agg #[.string ⟨#[]⟩, .bool false, .slice none 0 0]) 48 Tryz.underlying45 Tryz.infoDe rfl (by decide) (by decide) vd _ a [.string ⟨a.name.toArray⟩, .bool a.base, u] w3.heap.size 1 rfl rfl HOw.out HX3.out (fun k e e2 => by have := hown k e2; omega) HCl.out hlenA ?_
          intro v2 w5 ho hg
          have HN := Lib.hid (HJ.out.step_d hnW HE.out.1 HE.out.2.1 keys_ne HE.out.2.2.1 HE.out.2.2.2 ho hg)
          obtain ⟨pv, lv, cv, rfl⟩ : ∃ p l c, v2 = .slice p l c := (by obtain ⟨p, c, e⟩ := ho.slice; exact ⟨p, _, c, e⟩)
          have HB5 : Hid (w5.heap[W.heap.size + 1]? = some (.cells #[vd, vo, vr] 49 (0, 0))) := Lib.hid (((Turned.of_grown hg).block _ (by have := HJ.out.szk; have := HE.out.1.size; simp; omega) (fun e => by have := (HJ.out.zd _ (HJ.out.d.lt _ e).1).1; omega)).trans ((Below.heap_alloc _ _ _ (by have := HJ.out.szk; have := HE.out.1.size; omega)).trans ((HE.out.1.block _ (by have := HJ.out.szk; omega) (by have := HJ.out.lt; omega)).trans HJ.out.box)))
          clear ho hg
          refine hK.out _ _ trivial (fun _ => ?_)
          clear hK K
          refine take1 6 32 (v := ?_) rfl rfl (by kernel_rfl) (by kernel_rfl) (by kernel_rfl) (fun _ _ _ h => h) (by kernel_rfl) ?_ trivial (by first | (simp only [put_norm]; exact rfl) | exact rfl) ?_
          rotate_left
          · rintro X0 -; go_simp; try (with_reducible rfl)
          obtain ⟨⟨b0, b1, b2⟩, k0, k1, k2⟩ := cells3 HB5.out
          refine wpAnyH_ready (rs := [7]) (by kernel_rfl) (by simp) ?_
          refine AllReadyH.cons rfl (fun K hK => ?_) AllReadyH.nil
          go_simp
          refine hK.out _ _ trivial (fun _ => ?_)
          clear hK K b0 b1 b2 k0 k1 k2
          refine wpAnyH_done (by kernel_rfl) ?_ _
          go_wp2_with fail
          go_roundw
          case rel => exact ⟨_, _, _, _, _, _, _, _, HN⟩
          case measure =>
            rw [HN.out.rd.left, hlW]
            have := fit_clause.eats _ _ _ HE.out.2.2.1
            rw [keys_len, keys_len] at this
            exact this
      · have HT : Hid (x.text = wBase ∨ x.text = wView) := Lib.hid (.inl (by rw [← hTx]; show T = [98, 97, 115, 101]; simpa using h1))
        clear hTx
        go_wp2_with fail
        have HS : Hid (w1.drew.cell? ⟨W.heap.size + 1, 0, none⟩ = some vd) := Lib.hid (cell_of_row w1 _ 0 _ _ (0, 0) HJ.out.box)
        refine wp_region_held_drew (S := fun _ => True) (by kernel_rfl) trivial (fun _ => ?_)
        refine take1 0 26 (v := ?_) rfl rfl (by kernel_rfl) (by kernel_rfl) (by kernel_rfl) (fun _ _ _ h => h) (by kernel_rfl) ?_ trivial (by first | (simp only [put_norm]; exact rfl) | exact rfl) ?_
        rotate_left
        · rintro X0 -; go_simp; try (with_reducible rfl)
        refine take1 2 28 (v := ?_) rfl rfl (by kernel_rfl) (by kernel_rfl) (by kernel_rfl) (fun _ _ _ h => h) (by kernel_rfl) ?_ trivial (by first | (simp only [put_norm]; exact rfl) | exact rfl) ?_
        rotate_left
        · rintro X0 -; go_simp; try (with_reducible rfl)
        refine wpAnyH_ready (rs := [1, 3]) (by kernel_rfl) (by simp) ?_
        refine AllReadyH.cons rfl (fun K hK => ?_) ?_
        · have cS := HS.out
          go_simp
          refine hK.out _ _ trivial (fun _ => ?_)
          clear hK K cS
          refine wpAnyH_ready (rs := [3]) (by kernel_rfl) (by simp) ?_
          refine AllReadyH.cons rfl (fun K hK => ?_) AllReadyH.nil
          go_simp
          refine (pdecl_any HJ.out.rd.drew HT.out).mono ?_
          rintro y w3 ⟨ht, ⟨a, L4, v1, hp, hs, rfl, hv, hr⟩ | ⟨L4, hp, hs, rfl⟩⟩
          rotate_left
          · exact ⟨rfl, Only.turned (HJ.out.only.drew.on ht), .inr ⟨L4, HJ.out.eq.trans (contP_bad keys_ne ((clause_decl HJ.out.rd.tidy HT.out).trans (bind_bad hp))), hs.trans HJ.out.suf, rfl⟩⟩
          obtain ⟨u, rfl, hu⟩ := hv
          have HE : Hid (Turned (fun k => k = b) w1 w3 ∧ Rp n w3 b L4 e ∧ clauseR (keys (x :: L2)) = .ok (.decl a) (keys L4) ∧ L4 <:+ x :: L2) := Lib.hid ⟨⟨ht.os, ht.tape, ht.output, ht.size, ht.block⟩, hr, (clause_decl HJ.out.rd.tidy HT.out).trans ((bind_ok hp).trans rfl), hs⟩
          have hown : ∀ k, vd.ownBlock = some k → k < w1.heap.size := fun k e => (HJ.out.d.lt k e).2
          have HX3 : Hid (deY.is (fun k => w1.heap.size ≤ k ∧ k < w3.heap.size) (w3.alloc (.cells #[.string ⟨a.name.toArray⟩, .bool a.base, u] 30)) [.string ⟨a.name.toArray⟩, .bool a.base, u] a) := Lib.hid ⟨u, rfl, hu.keep (by simp) fun k e hk => ⟨⟨e, hk⟩, Below.heap_alloc _ _ _ hk⟩⟩
          have hb3 : ∀ k, W.heap.size + 1 = k → w3.heap[k]? = w1.heap[k]? := fun k e => HE.out.1.block k (by have := HJ.out.szk; omega) (by have := HJ.out.lt; omega)
          have HS3 : Hid (w3.cell? ⟨W.heap.size + 1, 0, none⟩ = some vd) := Lib.hid (cell_of_row w3 _ 0 _ _ (0, 0) ((hb3 _ rfl).trans HJ.out.box))
          have HS4 : Hid ((w3.alloc (.cells #[.string ⟨a.name.toArray⟩, .bool a.base, u] 30)).cell? ⟨W.heap.size + 1, 0, none⟩ = some vd) := Lib.hid ((World.cell?_alloc_some _ _ _ (by rw [HS3.out]; rfl)).trans HS3.out)
          have HOw : Hid (RowZ deY 30 Zd (w3.alloc (.cells #[.string ⟨a.name.toArray⟩, .bool a.base, u] 30)) vd (ofCs cs).decls) := Lib.hid (HJ.out.d.keep (by have := HE.out.1.size; simp; omega) fun k e hk => ⟨e, (Below.heap_alloc _ _ _ (Nat.lt_of_lt_of_le hk HE.out.1.size)).trans (HE.out.1.block k hk (by have := (HJ.out.zd k e).1; have := HJ.out.lt; omega))⟩)
          have hlenA : (ofCs cs).decls.length ≤ 1000000 := by have := HJ.out.len; have := HR.out.len; have := ofCs_len cs; omega
          have HCl : Hid (∀ j u', ([.string ⟨a.name.toArray⟩, .bool a.base, u] : List Value)[j]? = some u' → (w3.alloc (.cells #[.string ⟨a.name.toArray⟩, .bool a.base, u] 30)).cell? ⟨w3.heap.size, 0 + j, none⟩ = some u') := Lib.hid (lit_rowcells w3 [.string ⟨a.name.toArray⟩, .bool a.base, u] _)
          clear ht hp hs hr hb3
          go_wp2_with fail
          refine hK.out _ _ trivial (fun _ => ?_)
          clear hK K
          refine wpAnyH_ready (rs := [4]) (by kernel_rfl) (by simp) ?_
          refine AllReadyH.cons rfl (fun K hK => ?_) AllReadyH.nil
          go_simp
          refine hK.out _ _ trivial (fun _ => ?_)
          clear hK K
          refine wpAnyH_ready (rs := [5]) (by kernel_rfl) (by simp) ?_
          refine AllReadyH.cons rfl (fun K hK => ?_) AllReadyH.nil
          refine step_appZ deY rfl (.tmp 27) (.tmp 30) 45 30 rfl Zd (fun k => w1.heap.size ≤ k ∧ k < w3.heap.size) (.agg #[.string ⟨#[]⟩, .bool false, .slice none 0 0]) 48 Tryz.underlying45 Tryz.infoDe rfl (by decide) (by decide) vd _ a [.string ⟨a.name.toArray⟩, .bool a.base, u] w3.heap.size 1 rfl rfl HOw.out HX3.out (fun k e e2 => by have := hown k e2; omega) HCl.out hlenA ?_
          intro v2 w5 ho hg
          have HN := Lib.hid (HJ.out.step_d hnW HE.out.1 HE.out.2.1 keys_ne HE.out.2.2.1 HE.out.2.2.2 ho hg)
          obtain ⟨pv, lv, cv, rfl⟩ : ∃ p l c, v2 = .slice p l c := (by obtain ⟨p, c, e⟩ := ho.slice; exact ⟨p, _, c, e⟩)
          have HB5 : Hid (w5.heap[W.heap.size + 1]? = some (.cells #[vd, vo, vr] 49 (0, 0))) := Lib.hid (((Turned.of_grown hg).block _ (by have := HJ.out.szk; have := HE.out.1.size; simp; omega) (fun e => by have := (HJ.out.zd _ (HJ.out.d.lt _ e).1).1; omega)).trans ((Below.heap_alloc _ _ _ (by have := HJ.out.szk; have := HE.out.1.size; omega)).trans ((HE.out.1.block _ (by have := HJ.out.szk; omega) (by have := HJ.out.lt; omega)).trans HJ.out.box)))
          clear ho hg
          refine hK.out _ _ trivial (fun _ => ?_)
          clear hK K
          refine take1 6 32 (v := ?_) rfl rfl (by kernel_rfl) (by kernel_rfl) (by kernel_rfl) (fun _ _ _ h => h) (by kernel_rfl) ?_ trivial (by first | (simp only [put_norm]; exact rfl) | exact rfl) ?_
          rotate_left
          · rintro X0 -; go_simp; try (with_reducible rfl)
          obtain ⟨⟨b0, b1, b2⟩, k0, k1, k2⟩ := cells3 HB5.out
          refine wpAnyH_ready (rs := [7]) (by kernel_rfl) (by simp) ?_
          refine AllReadyH.cons rfl (fun K hK => ?_) AllReadyH.nil
          go_simp
          refine hK.out _ _ trivial (fun _ => ?_)
          clear hK K b0 b1 b2 k0 k1 k2
          refine wpAnyH_done (by kernel_rfl) ?_ _
          go_wp2_with fail
          go_roundw
          case rel => exact ⟨_, _, _, _, _, _, _, _, HN⟩
          case measure =>
            rw [HN.out.rd.left, hlW]
            have := fit_clause.eats _ _ _ HE.out.2.2.1
            rw [keys_len, keys_len] at this
            exact this
        refine AllReadyH.cons rfl (fun K hK => ?_) AllReadyH.nil
        go_simp
        refine (pdecl_any HJ.out.rd.drew HT.out).mono ?_
        rintro y w3 ⟨ht, ⟨a, L4, v1, hp, hs, rfl, hv, hr⟩ | ⟨L4, hp, hs, rfl⟩⟩
        rotate_left
        · exact ⟨rfl, Only.turned (HJ.out.only.drew.on ht), .inr ⟨L4, HJ.out.eq.trans (contP_bad keys_ne ((clause_decl HJ.out.rd.tidy HT.out).trans (bind_bad hp))), hs.trans HJ.out.suf, rfl⟩⟩
        obtain ⟨u, rfl, hu⟩ := hv
        have HE : Hid (Turned (fun k => k = b) w1 w3 ∧ Rp n w3 b L4 e ∧ clauseR (keys (x :: L2)) = .ok (.decl a) (keys L4) ∧ L4 <:+ x :: L2) := Lib.hid ⟨⟨ht.os, ht.tape, ht.output, ht.size, ht.block⟩, hr, (clause_decl HJ.out.rd.tidy HT.out).trans ((bind_ok hp).trans rfl), hs⟩
        have hown : ∀ k, vd.ownBlock = some k → k < w1.heap.size := fun k e => (HJ.out.d.lt k e).2
        have HX3 : Hid (deY.is (fun k => w1.heap.size ≤ k ∧ k < w3.heap.size) (w3.alloc (.cells #[.string ⟨a.name.toArray⟩, .bool a.base, u] 30)) [.string ⟨a.name.toArray⟩, .bool a.base, u] a) := Lib.hid ⟨u, rfl, hu.keep (by simp) fun k e hk => ⟨⟨e, hk⟩, Below.heap_alloc _ _ _ hk⟩⟩
        have hb3 : ∀ k, W.heap.size + 1 = k → w3.heap[k]? = w1.heap[k]? := fun k e => HE.out.1.block k (by have := HJ.out.szk; omega) (by have := HJ.out.lt; omega)
        have HS3 : Hid (w3.cell? ⟨W.heap.size + 1, 0, none⟩ = some vd) := Lib.hid (cell_of_row w3 _ 0 _ _ (0, 0) ((hb3 _ rfl).trans HJ.out.box))
        have HS4 : Hid ((w3.alloc (.cells #[.string ⟨a.name.toArray⟩, .bool a.base, u] 30)).cell? ⟨W.heap.size + 1, 0, none⟩ = some vd) := Lib.hid ((World.cell?_alloc_some _ _ _ (by rw [HS3.out]; rfl)).trans HS3.out)
        have HOw : Hid (RowZ deY 30 Zd (w3.alloc (.cells #[.string ⟨a.name.toArray⟩, .bool a.base, u] 30)) vd (ofCs cs).decls) := Lib.hid (HJ.out.d.keep (by have := HE.out.1.size; simp; omega) fun k e hk => ⟨e, (Below.heap_alloc _ _ _ (Nat.lt_of_lt_of_le hk HE.out.1.size)).trans (HE.out.1.block k hk (by have := (HJ.out.zd k e).1; have := HJ.out.lt; omega))⟩)
        have hlenA : (ofCs cs).decls.length ≤ 1000000 := by have := HJ.out.len; have := HR.out.len; have := ofCs_len cs; omega
        have HCl : Hid (∀ j u', ([.string ⟨a.name.toArray⟩, .bool a.base, u] : List Value)[j]? = some u' → (w3.alloc (.cells #[.string ⟨a.name.toArray⟩, .bool a.base, u] 30)).cell? ⟨w3.heap.size, 0 + j, none⟩ = some u') := Lib.hid (lit_rowcells w3 [.string ⟨a.name.toArray⟩, .bool a.base, u] _)
        clear ht hp hs hr hb3
        go_wp2_with fail
        refine hK.out _ _ trivial (fun _ => ?_)
        clear hK K
        refine wpAnyH_ready (rs := [1, 4]) (by kernel_rfl) (by simp) ?_
        refine AllReadyH.cons rfl (fun K hK => ?_) ?_
        · have cS := HS3.out
          go_simp
          refine hK.out _ _ trivial (fun _ => ?_)
          clear hK K cS
          refine wpAnyH_ready (rs := [4]) (by kernel_rfl) (by simp) ?_
          refine AllReadyH.cons rfl (fun K hK => ?_) AllReadyH.nil
          go_simp
          refine hK.out _ _ trivial (fun _ => ?_)
          clear hK K
          refine wpAnyH_ready (rs := [5]) (by kernel_rfl) (by simp) ?_
          refine AllReadyH.cons rfl (fun K hK => ?_) AllReadyH.nil
          refine step_appZ deY rfl (.tmp 27) (.tmp 30) 45 30 rfl Zd (fun k => w1.heap.size ≤ k ∧ k < w3.heap.size) (.agg #[.string ⟨#[]⟩, .bool false, .slice none 0 0]) 48 Tryz.underlying45 Tryz.infoDe rfl (by decide) (by decide) vd _ a [.string ⟨a.name.toArray⟩, .bool a.base, u] w3.heap.size 1 rfl rfl HOw.out HX3.out (fun k e e2 => by have := hown k e2; omega) HCl.out hlenA ?_
          intro v2 w5 ho hg
          have HN := Lib.hid (HJ.out.step_d hnW HE.out.1 HE.out.2.1 keys_ne HE.out.2.2.1 HE.out.2.2.2 ho hg)
          obtain ⟨pv, lv, cv, rfl⟩ : ∃ p l c, v2 = .slice p l c := (by obtain ⟨p, c, e⟩ := ho.slice; exact ⟨p, _, c, e⟩)
          have HB5 : Hid (w5.heap[W.heap.size + 1]? = some (.cells #[vd, vo, vr] 49 (0, 0))) := Lib.hid (((Turned.of_grown hg).block _ (by have := HJ.out.szk; have := HE.out.1.size; simp; omega) (fun e => by have := (HJ.out.zd _ (HJ.out.d.lt _ e).1).1; omega)).trans ((Below.heap_alloc _ _ _ (by have := HJ.out.szk; have := HE.out.1.size; omega)).trans ((HE.out.1.block _ (by have := HJ.out.szk; omega) (by have := HJ.out.lt; omega)).trans HJ.out.box)))
          clear ho hg
          refine hK.out _ _ trivial (fun _ => ?_)
          clear hK K
          refine take1 6 32 (v := ?_) rfl rfl (by kernel_rfl) (by kernel_rfl) (by kernel_rfl) (fun _ _ _ h => h) (by kernel_rfl) ?_ trivial (by first | (simp only [put_norm]; exact rfl) | exact rfl) ?_
          rotate_left
          · rintro X0 -; go_simp; try (with_reducible rfl)
          obtain ⟨⟨b0, b1, b2⟩, k0, k1, k2⟩ := cells3 HB5.out
          refine wpAnyH_ready (rs := [7]) (by kernel_rfl) (by simp) ?_
          refine AllReadyH.cons rfl (fun K hK => ?_) AllReadyH.nil
          go_simp
          refine hK.out _ _ trivial (fun _ => ?_)
          clear hK K b0 b1 b2 k0 k1 k2
          refine wpAnyH_done (by kernel_rfl) ?_ _
          go_wp2_with fail
          go_roundw
          case rel => exact ⟨_, _, _, _, _, _, _, _, HN⟩
          case measure =>
            rw [HN.out.rd.left, hlW]
            have := fit_clause.eats _ _ _ HE.out.2.2.1
            rw [keys_len, keys_len] at this
            exact this
        refine AllReadyH.cons rfl (fun K hK => ?_) AllReadyH.nil
        go_simp
        refine hK.out _ _ trivial (fun _ => ?_)
        clear hK K
        refine wpAnyH_ready (rs := [1]) (by kernel_rfl) (by simp) ?_
        refine AllReadyH.cons rfl (fun K hK => ?_) AllReadyH.nil
        have cS := HS4.out
        go_simp
        refine hK.out _ _ trivial (fun _ => ?_)
        clear hK K cS
        refine wpAnyH_ready (rs := [5]) (by kernel_rfl) (by simp) ?_
        refine AllReadyH.cons rfl (fun K hK => ?_) AllReadyH.nil
        refine step_appZ deY rfl (.tmp 27) (.tmp 30) 45 30 rfl Zd (fun k => w1.heap.size ≤ k ∧ k < w3.heap.size) (.agg #[.string ⟨#[]⟩, .bool false, .slice none 0 0]) 48 Tryz.underlying45 Tryz.infoDe rfl (by decide) (by decide) vd _ a [.string ⟨a.name.toArray⟩, .bool a.base, u] w3.heap.size 1 rfl rfl HOw.out HX3.out (fun k e e2 => by have := hown k e2; omega) HCl.out hlenA ?_
        intro v2 w5 ho hg
        have HN := Lib.hid (HJ.out.step_d hnW HE.out.1 HE.out.2.1 keys_ne HE.out.2.2.1 HE.out.2.2.2 ho hg)
        obtain ⟨pv, lv, cv, rfl⟩ : ∃ p l c, v2 = .slice p l c := (by obtain ⟨p, c, e⟩ := ho.slice; exact ⟨p, _, c, e⟩)
        have HB5 : Hid (w5.heap[W.heap.size + 1]? = some (.cells #[vd, vo, vr] 49 (0, 0))) := Lib.hid (((Turned.of_grown hg).block _ (by have := HJ.out.szk; have := HE.out.1.size; simp; omega) (fun e => by have := (HJ.out.zd _ (HJ.out.d.lt _ e).1).1; omega)).trans ((Below.heap_alloc _ _ _ (by have := HJ.out.szk; have := HE.out.1.size; omega)).trans ((HE.out.1.block _ (by have := HJ.out.szk; omega) (by have := HJ.out.lt; omega)).trans HJ.out.box)))
        clear ho hg
        refine hK.out _ _ trivial (fun _ => ?_)
        clear hK K
        refine take1 6 32 (v := ?_) rfl rfl (by kernel_rfl) (by kernel_rfl) (by kernel_rfl) (fun _ _ _ h => h) (by kernel_rfl) ?_ trivial (by first | (simp only [put_norm]; exact rfl) | exact rfl) ?_
        rotate_left
        · rintro X0 -; go_simp; try (with_reducible rfl)
        obtain ⟨⟨b0, b1, b2⟩, k0, k1, k2⟩ := cells3 HB5.out
        refine wpAnyH_ready (rs := [7]) (by kernel_rfl) (by simp) ?_
        refine AllReadyH.cons rfl (fun K hK => ?_) AllReadyH.nil
        go_simp
        refine hK.out _ _ trivial (fun _ => ?_)
        clear hK K b0 b1 b2 k0 k1 k2
        refine wpAnyH_done (by kernel_rfl) ?_ _
        go_wp2_with fail
        go_roundw
        case rel => exact ⟨_, _, _, _, _, _, _, _, HN⟩
        case measure =>
          rw [HN.out.rd.left, hlW]
          have := fit_clause.eats _ _ _ HE.out.2.2.1
          rw [keys_len, keys_len] at this
          exact this
end
section
open Go Go.RowKit Go.Shelf

set_option maxRecDepth 100000 in
set_option maxHeartbeats 2000000 in
theorem words_all (s : ByteArray) (w : World) (G : Glob w) :
    Calls Tryz.prog 80 #[.string s] w fun e w' => (∃ v, e = .returned (.tuple #[v, .int .i64 ((wordsL s.data.toList).2.1 : Int), .int .i64 (wordsL s.data.toList).2.2]) ∧ OwnW w.heap.size w' v (wordsL s.data.toList).1) ∧ Below w.heap.size w w' := by
  by_cases hsh : s.size ≤ 1000000
  · exact words_any s w hsh G
  · have hl' : (65536 : Int) < (s.size : Int) := by omega
    have HE := Lib.hid (show wordsL s.data.toList = ([], 0, 2) by unfold wordsL; rw [if_pos (by rw [← Lib.size_eq]; omega)])
    rw [HE.out]
    clear G
    go_enter Tryz.func80, Tryz.ntmps80
    go_wp2_with fail
    refine bodyPost_ret (v := .tuple #[.slice none 0 0, .int .i64 0, .int .i64 2]) (by simp [results, Tryz.results80, go_sem]) rfl ⟨⟨_, rfl, OwnW.nil _ _⟩, ?_⟩
    exact ((Below.refl _ _).alloc (Nat.le_refl _) _).alloc (by simp) _ |>.alloc (by simp; omega) _
/-- How a text is answered: what it says, or where it doesn't, or that it is too long. -/
def SayEnd {α : Type} (p : Rd α) (T : (Nat → Prop) → World → Value → α → Prop) (z : Value) (s : ByteArray) (w : World) (x : Ending) (w' : World) : Prop :=
  Below w.heap.size w w' ∧
  ((s.size ≤ 65536 ∧ ∃ a v, sayOf valL p s.data.toList = .ok a ∧ x = .returned (.tuple #[v, .int .i64 0, .int .i64 0]) ∧ T (fun k => w.heap.size ≤ k) w' v a) ∨
   (s.size ≤ 65536 ∧ ∃ n : Nat, sayOf valL p s.data.toList = .bad n ∧ x = .returned (.tuple #[z, .int .i64 n, .int .i64 130])) ∨
   (s.size ≤ 65536 ∧ ∃ n : Nat, sayOf valL p s.data.toList = .lex n ∧ x = .returned (.tuple #[z, .int .i64 n, .int .i64 120])) ∨
   (65536 < s.size ∧ x = .returned (.tuple #[z, .int .i64 0, .int .i64 2])))
theorem say_end_lex {α : Type} {p : Rd α} {s : List UInt8} {n : Nat} (h : (lexS valL s 0).2 = some n) : sayOf valL p s = .lex n := sayOf_lex h
/-- The ways of the words of a text. -/
theorem words_ways (s : ByteArray) : (65536 < s.size ∧ wordsL s.data.toList = ([], 0, 2)) ∨ (s.size ≤ 65536 ∧ ∃ n, (lexS valL s.data.toList 0).2 = some n ∧ wordsL s.data.toList = ([], n, 120)) ∨ (s.size ≤ 65536 ∧ (lexS valL s.data.toList 0).2 = none ∧ wordsL s.data.toList = ((lexS valL s.data.toList 0).1, 0, 0)) := by
  unfold wordsL
  rw [← Lib.size_eq]
  by_cases h : 65536 < s.size
  · exact .inl ⟨h, by rw [if_pos h]⟩
  · right
    rw [if_neg h]
    cases e : (lexS valL s.data.toList 0).2 with
    | none => exact .inr ⟨by omega, rfl, rfl⟩
    | some n => exact .inl ⟨by omega, n, rfl, rfl⟩
theorem say_ok {α : Type} {p : Rd α} {s : List UInt8} {L L' : List Wd} {a : α} {e : Nat} (hn : (lexS valL s 0).2 = none) (hL : L = (lexS valL s 0).1) (h : p (keys L) = .ok a (keys L')) (hs : L' <:+ L) (he : e = s.length) : (L' = [] ∧ sayOf valL p s = .ok a) ∨ (L' ≠ [] ∧ sayOf valL p s = .bad (hereW e L')) := by
  subst hL
  cases L' with
  | nil => exact .inl ⟨rfl, sayOf_ok hn h⟩
  | cons w L' =>
    refine .inr ⟨by simp, ?_⟩
    rw [sayOf_more hn (t := w.key) (r := keys L') h, ← he]
    congr 1
    exact placeOf_suf e hs
theorem say_bad {α : Type} {p : Rd α} {s : List UInt8} {L L' : List Wd} {e : Nat} (hn : (lexS valL s 0).2 = none) (hL : L = (lexS valL s 0).1) (h : p (keys L) = .bad (keys L')) (hs : L' <:+ L) (he : e = s.length) : sayOf valL p s = .bad (hereW e L') := by
  subst hL
  rw [sayOf_bad hn h, ← he]
  congr 1
  exact placeOf_suf e hs
theorem three_at (W : World) (a b c : Obj) : (((W.alloc a).alloc b).alloc c).heap[W.heap.size]? = some a ∧ (((W.alloc a).alloc b).alloc c).heap[W.heap.size + 1]? = some b ∧ (((W.alloc a).alloc b).alloc c).heap[W.heap.size + 2]? = some c := by
  have h := two_new W a b
  refine ⟨(Below.heap_alloc _ _ _ (by simp; omega)).trans h.1, (Below.heap_alloc _ _ _ (by simp)).trans h.2, ?_⟩
  have := heap_alloc_new ((W.alloc a).alloc b) c
  rw [show ((W.alloc a).alloc b).heap.size = W.heap.size + 2 by simp] at this
  exact this
theorem name_c {P : Program} {f : Nat} {args : Array Value} {w : World} {Q : Ending → World → Prop} (h : ∀ X, X = w → Calls P f args X Q) : Calls P f args w Q := h w rfl
theorem finP_at {X : World} {B : Nat} {t t5 t6 : TypeId} {cs : Array Value} {a0 c0 : Value} (R4 : X.heap[B]? = some (.cells cs t (0, 0))) (R5 : X.heap[B + 1]? = some (.cells #[a0] t5 (0, 0))) (R6 : X.heap[B + 2]? = some (.cells #[c0] t6 (0, 0))) (m : Nat) :
    ((X.setCell ⟨B + 1, 0, none⟩ (.int .i64 m)).setCell ⟨B + 1 + 1, 0, none⟩ (.int .i64 130)).heap[B]? = some (.cells cs t (0, 0)) ∧ ((X.setCell ⟨B + 1, 0, none⟩ (.int .i64 m)).setCell ⟨B + 1 + 1, 0, none⟩ (.int .i64 130)).heap[B + 1]? = some (.cells #[.int .i64 m] t5 (0, 0)) ∧ ((X.setCell ⟨B + 1, 0, none⟩ (.int .i64 m)).setCell ⟨B + 1 + 1, 0, none⟩ (.int .i64 130)).heap[B + 1 + 1]? = some (.cells #[.int .i64 130] t6 (0, 0)) := by
  have R6a : X.heap[B + 1 + 1]? = some (.cells #[c0] t6 (0, 0)) := R6
  have g5 := heap_setCell_same X (B + 1) 0 _ _ (.int .i64 m) R5
  have g4 := (heap_setCell_other X ⟨B + 1, 0, none⟩ B (.int .i64 m) (by show B ≠ B + 1; omega)).trans R4
  have g6 := (heap_setCell_other X ⟨B + 1, 0, none⟩ (B + 1 + 1) (.int .i64 m) (by show B + 1 + 1 ≠ B + 1; omega)).trans R6a
  generalize X.setCell ⟨B + 1, 0, none⟩ (.int .i64 m) = Z at g4 g5 g6 ⊢
  exact ⟨(heap_setCell_other Z ⟨B + 1 + 1, 0, none⟩ B _ (by show B ≠ B + 1 + 1; omega)).trans g4, (heap_setCell_other Z ⟨B + 1 + 1, 0, none⟩ (B + 1) _ (by show B + 1 ≠ B + 1 + 1; omega)).trans g5, heap_setCell_same Z (B + 1 + 1) 0 _ _ _ g6⟩
theorem fin2_at {X : World} {B : Nat} {t t5 t6 : TypeId} {x0 x1 a0 c0 : Value} (R4 : X.heap[B]? = some (.cells #[x0, x1] t (0, 0))) (R5 : X.heap[B + 1]? = some (.cells #[a0] t5 (0, 0))) (R6 : X.heap[B + 2]? = some (.cells #[c0] t6 (0, 0))) (y0 y1 a c : Value) :
    ((((X.setCell ⟨B, 0, none⟩ y0).setCell ⟨B, 1, none⟩ y1).setCell ⟨B + 1, 0, none⟩ a).setCell ⟨B + 1 + 1, 0, none⟩ c).drew.heap[B]? = some (.cells #[y0, y1] t (0, 0)) ∧ ((((X.setCell ⟨B, 0, none⟩ y0).setCell ⟨B, 1, none⟩ y1).setCell ⟨B + 1, 0, none⟩ a).setCell ⟨B + 1 + 1, 0, none⟩ c).drew.heap[B + 1]? = some (.cells #[a] t5 (0, 0)) ∧ ((((X.setCell ⟨B, 0, none⟩ y0).setCell ⟨B, 1, none⟩ y1).setCell ⟨B + 1, 0, none⟩ a).setCell ⟨B + 1 + 1, 0, none⟩ c).drew.heap[B + 1 + 1]? = some (.cells #[c] t6 (0, 0)) := by
  have ho : ∀ k, k ≠ B → ((X.setCell ⟨B, 0, none⟩ y0).setCell ⟨B, 1, none⟩ y1).heap[k]? = X.heap[k]? := fun k h => (heap_setCell_other _ ⟨B, 1, none⟩ k _ h).trans (heap_setCell_other _ ⟨B, 0, none⟩ k _ h)
  have R6a : X.heap[B + 1 + 1]? = some (.cells #[c0] t6 (0, 0)) := R6
  have h5 := (ho (B + 1) (by omega)).trans R5
  have h6 := (ho (B + 1 + 1) (by omega)).trans R6a
  have h4 := row2_set (u' := y0) (v' := y1) R4
  generalize ((X.setCell ⟨B, 0, none⟩ y0).setCell ⟨B, 1, none⟩ y1) = Y at h4 h5 h6 ⊢
  have g5 := heap_setCell_same Y (B + 1) 0 _ _ a h5
  have g4 := (heap_setCell_other Y ⟨B + 1, 0, none⟩ B a (by show B ≠ B + 1; omega)).trans h4
  have g6 := (heap_setCell_other Y ⟨B + 1, 0, none⟩ (B + 1 + 1) a (by show B + 1 + 1 ≠ B + 1; omega)).trans h6
  generalize Y.setCell ⟨B + 1, 0, none⟩ a = Z at g4 g5 g6 ⊢
  exact ⟨(heap_setCell_other Z ⟨B + 1 + 1, 0, none⟩ B c (by show B ≠ B + 1 + 1; omega)).trans g4, (heap_setCell_other Z ⟨B + 1 + 1, 0, none⟩ (B + 1) c (by show B + 1 ≠ B + 1 + 1; omega)).trans g5, heap_setCell_same Z (B + 1 + 1) 0 _ _ c g6⟩
theorem fin2_below {w X : World} {B : Nat} (h : Below B w X) (y0 y1 a c : Value) : Below B w ((((X.setCell ⟨B, 0, none⟩ y0).setCell ⟨B, 1, none⟩ y1).setCell ⟨B + 1, 0, none⟩ a).setCell ⟨B + 1 + 1, 0, none⟩ c) := by
  refine Below.setCell (Below.setCell ?_ (by show B ≤ B + 1; omega) _) (by show B ≤ B + 1 + 1; omega) _
  iterate 2 refine Below.setCell ?_ (by exact Nat.le_refl _) _
  exact h
theorem fin3_at {X : World} {B : Nat} {t t5 t6 : TypeId} {x0 x1 x2 a0 c0 : Value} (R4 : X.heap[B]? = some (.cells #[x0, x1, x2] t (0, 0))) (R5 : X.heap[B + 1]? = some (.cells #[a0] t5 (0, 0))) (R6 : X.heap[B + 2]? = some (.cells #[c0] t6 (0, 0))) (y0 y1 y2 a c : Value) :
    (((((X.setCell ⟨B, 0, none⟩ y0).setCell ⟨B, 1, none⟩ y1).setCell ⟨B, 2, none⟩ y2).setCell ⟨B + 1, 0, none⟩ a).setCell ⟨B + 1 + 1, 0, none⟩ c).drew.heap[B]? = some (.cells #[y0, y1, y2] t (0, 0)) ∧ (((((X.setCell ⟨B, 0, none⟩ y0).setCell ⟨B, 1, none⟩ y1).setCell ⟨B, 2, none⟩ y2).setCell ⟨B + 1, 0, none⟩ a).setCell ⟨B + 1 + 1, 0, none⟩ c).drew.heap[B + 1]? = some (.cells #[a] t5 (0, 0)) ∧ (((((X.setCell ⟨B, 0, none⟩ y0).setCell ⟨B, 1, none⟩ y1).setCell ⟨B, 2, none⟩ y2).setCell ⟨B + 1, 0, none⟩ a).setCell ⟨B + 1 + 1, 0, none⟩ c).drew.heap[B + 1 + 1]? = some (.cells #[c] t6 (0, 0)) := by
  have ho : ∀ k, k ≠ B → (((X.setCell ⟨B, 0, none⟩ y0).setCell ⟨B, 1, none⟩ y1).setCell ⟨B, 2, none⟩ y2).heap[k]? = X.heap[k]? := fun k h => set3_off h
  have R6a : X.heap[B + 1 + 1]? = some (.cells #[c0] t6 (0, 0)) := R6
  have h5 := (ho (B + 1) (by omega)).trans R5
  have h6 := (ho (B + 1 + 1) (by omega)).trans R6a
  have h4 := rowS3_set (y0 := y0) (y1 := y1) (y2 := y2) R4
  generalize (((X.setCell ⟨B, 0, none⟩ y0).setCell ⟨B, 1, none⟩ y1).setCell ⟨B, 2, none⟩ y2) = Y at h4 h5 h6 ⊢
  have g5 := heap_setCell_same Y (B + 1) 0 _ _ a h5
  have g4 := (heap_setCell_other Y ⟨B + 1, 0, none⟩ B a (by show B ≠ B + 1; omega)).trans h4
  have g6 := (heap_setCell_other Y ⟨B + 1, 0, none⟩ (B + 1 + 1) a (by show B + 1 + 1 ≠ B + 1; omega)).trans h6
  generalize Y.setCell ⟨B + 1, 0, none⟩ a = Z at g4 g5 g6 ⊢
  exact ⟨(heap_setCell_other Z ⟨B + 1 + 1, 0, none⟩ B c (by show B ≠ B + 1 + 1; omega)).trans g4, (heap_setCell_other Z ⟨B + 1 + 1, 0, none⟩ (B + 1) c (by show B + 1 ≠ B + 1 + 1; omega)).trans g5, heap_setCell_same Z (B + 1 + 1) 0 _ _ c g6⟩
theorem fin3_below {w X : World} {B : Nat} (h : Below B w X) (y0 y1 y2 a c : Value) : Below B w (((((X.setCell ⟨B, 0, none⟩ y0).setCell ⟨B, 1, none⟩ y1).setCell ⟨B, 2, none⟩ y2).setCell ⟨B + 1, 0, none⟩ a).setCell ⟨B + 1 + 1, 0, none⟩ c) := by
  refine Below.setCell (Below.setCell ?_ (by show B ≤ B + 1; omega) _) (by show B ≤ B + 1 + 1; omega) _
  iterate 3 refine Below.setCell ?_ (by exact Nat.le_refl _) _
  exact h
end
end Go.Proofs.YtlbofeidiclhgaaGreatDoor
