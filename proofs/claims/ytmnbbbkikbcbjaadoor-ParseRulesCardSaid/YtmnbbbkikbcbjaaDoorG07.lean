/-
  The program's reader: list of parts (Li).
  The program's reader: list of parts (Ac).
  The program's reader: rule.
-/
import Derived.Test.YtmnbbbkikbcbjaaDoorG06
namespace Go.Proofs.YtmnbbbkikbcbjaaDoor
section
open Go Go.RowKit Go.Shelf

set_option maxRecDepth 100000 in
set_option maxHeartbeats 2000000 in
theorem plistLi_any {W : World} {n b e : Nat} {L : List Wd} (h : Rp n W b L e) : Calls Tryd.prog 21 #[rdp b, .func (.func 22) #[rdp b] #[]] W (PEnd (sepL (isM [44]) literalR) (rowT liY) n b e L W) := by
  have HR := Lib.hid h
  have HEat := Lib.hid (fit_literal.eats)
  have hnW := h.below_
  have hbn := h.at_
  clear h
  go_enter Tryd.func21, Tryd.ntmps21
  go_wp2_with fail
  refine (pliteral_any HR.out).mono ?_
  rintro y w1 ⟨ht, ⟨a, L1, v, hp, hs, rfl, hv, hr⟩ | ⟨L1, hp, hs, rfl⟩⟩
  rotate_left
  · have HE := Lib.hid (And.intro ht (And.intro hp hs))
    clear ht hp hs
    go_wp2_with fail
    exact ⟨rfl, HE.out.1, .inr ⟨L1, sep_bad HEat.out HE.out.2.1, HE.out.2.2, rfl⟩⟩
  obtain ⟨u, rfl, hu⟩ := hv
  have hu := Lib.hid hu
  have HJ0 : Hid (LsJ (isM [44]) literalR liY 55 n b e L W (.slice (some ⟨w1.heap.size, 0, none⟩) 1 1) [a] L1 (w1.alloc (.cells #[.int .i64 a.kind, .string ⟨a.atom.pred.toArray⟩, u, .int .i64 a.op, .int .i64 a.a.kind, .string ⟨a.a.name.toArray⟩, .int .i64 a.a.val.1, .int .i64 a.a.val.2.1, .string a.a.val.2.2, .int .i64 a.b.kind, .string ⟨a.b.name.toArray⟩, .int .i64 a.b.val.1, .int .i64 a.b.val.2.1, .string a.b.val.2.2] 55))) := Lib.hid
    ⟨RowOwn.lit (us := [.int .i64 a.kind, .string ⟨a.atom.pred.toArray⟩, u, .int .i64 a.op, .int .i64 a.a.kind, .string ⟨a.a.name.toArray⟩, .int .i64 a.a.val.1, .int .i64 a.a.val.2.1, .string a.a.val.2.2, .int .i64 a.b.kind, .string ⟨a.b.name.toArray⟩, .int .i64 a.b.val.1, .int .i64 a.b.val.2.1, .string a.b.val.2.2]) ht.size ⟨u, rfl, hu.out⟩, hr.alloc _, ((Only.refl b W).on ht).alloc _, hs, sep_first HEat.out hp, by have := eats_len HEat.out hp; simp; omega⟩
  clear ht hp hs hr
  go_wp2_with fail
  go_loopw [5] (fun v wr => ∃ zs L2, Hid (LsJ (isM [44]) literalR liY 55 n b e L W v zs L2 wr)) (fun _ wr => leftW wr b)
  case atStart => exact ⟨_, _, HJ0⟩
  case round =>
    obtain ⟨zs, L2, HJ⟩ := hrel
    go_wp2_with fail
    refine (pmay_any [44] (by decide) HJ.out.rd).mono ?_
    rintro y w2 ⟨ht, ⟨x, L3, rfl, hx, rfl, hr⟩ | ⟨hx, rfl, hr⟩⟩
    · have HE := Lib.hid (And.intro ht (And.intro hr hx))
      clear ht hr hx
      go_wp2_with fail
      refine (pliteral_any HE.out.2.1).mono ?_
      rintro y w3 ⟨ht, ⟨a, L4, v1, hp, hs, rfl, hv, hr⟩ | ⟨L4, hp, hs, rfl⟩⟩
      rotate_left
      · have HE4 := Lib.hid (And.intro ht (And.intro hp hs))
        clear ht hp hs
        go_wp2_with fail
        have hq : nxt (isM [44]) (keys (x :: L3)) = true := by rw [nxt_mark HJ.out.rd.tidy rfl]; simp [txt, HE.out.2.2]
        exact ⟨rfl, Only.turned ((HJ.out.only.on HE.out.1).on HE4.out.1), .inr ⟨L4, HJ.out.eq.trans (cont_bad HEat.out hq HE4.out.2.1), HE4.out.2.2.trans ((List.suffix_cons x L3).trans HJ.out.suf), rfl⟩⟩
      obtain ⟨u, rfl, hu⟩ := hv
      have hu := Lib.hid hu
      have HW := Lib.hid (And.intro ht (And.intro hp (And.intro hs hr)))
      clear ht hp hs hr
      have hlenA : zs.length ≤ 1000000 := by have := HJ.out.len; have := HR.out.len; simp at *; omega
      have hsz3 : W.heap.size ≤ w3.heap.size := Nat.le_trans HJ.out.only.size (Nat.le_trans HE.out.1.size HW.out.1.size)
      have HOw : Hid (RowOwn liY 55 W.heap.size (w3.alloc (.cells #[.int .i64 a.kind, .string ⟨a.atom.pred.toArray⟩, u, .int .i64 a.op, .int .i64 a.a.kind, .string ⟨a.a.name.toArray⟩, .int .i64 a.a.val.1, .int .i64 a.a.val.2.1, .string a.a.val.2.2, .int .i64 a.b.kind, .string ⟨a.b.name.toArray⟩, .int .i64 a.b.val.1, .int .i64 a.b.val.2.1, .string a.b.val.2.2] 55)) u5 zs) := Lib.hid (((HJ.out.own.turned HE.out.1 (fun k hB _ e => by omega)).turned HW.out.1 (fun k hB _ e => by omega)).keep (by simp) fun k _ hk => Below.heap_alloc _ _ _ hk)
      have HIs : Hid (liY.is (fun k => W.heap.size ≤ k ∧ u5.ownBlock ≠ some k) (w3.alloc (.cells #[.int .i64 a.kind, .string ⟨a.atom.pred.toArray⟩, u, .int .i64 a.op, .int .i64 a.a.kind, .string ⟨a.a.name.toArray⟩, .int .i64 a.a.val.1, .int .i64 a.a.val.2.1, .string a.a.val.2.2, .int .i64 a.b.kind, .string ⟨a.b.name.toArray⟩, .int .i64 a.b.val.1, .int .i64 a.b.val.2.1, .string a.b.val.2.2] 55)) [.int .i64 a.kind, .string ⟨a.atom.pred.toArray⟩, u, .int .i64 a.op, .int .i64 a.a.kind, .string ⟨a.a.name.toArray⟩, .int .i64 a.a.val.1, .int .i64 a.a.val.2.1, .string a.a.val.2.2, .int .i64 a.b.kind, .string ⟨a.b.name.toArray⟩, .int .i64 a.b.val.1, .int .i64 a.b.val.2.1, .string a.b.val.2.2] a) := Lib.hid ⟨u, rfl, hu.out.keep (by simp) fun k e hk => ⟨⟨by have := HJ.out.only.size; have := HE.out.1.size; omega, fun e2 => by have := (HJ.out.own.lt k e2).2; have := HE.out.1.size; omega⟩, Below.heap_alloc _ _ _ hk⟩⟩
      have hsz3' : W.heap.size ≤ (w3.alloc (.cells #[.int .i64 a.kind, .string ⟨a.atom.pred.toArray⟩, u, .int .i64 a.op, .int .i64 a.a.kind, .string ⟨a.a.name.toArray⟩, .int .i64 a.a.val.1, .int .i64 a.a.val.2.1, .string a.a.val.2.2, .int .i64 a.b.kind, .string ⟨a.b.name.toArray⟩, .int .i64 a.b.val.1, .int .i64 a.b.val.2.1, .string a.b.val.2.2] 55)).heap.size := by simp; omega
      have HCl : Hid (∀ j u', ([.int .i64 a.kind, .string ⟨a.atom.pred.toArray⟩, u, .int .i64 a.op, .int .i64 a.a.kind, .string ⟨a.a.name.toArray⟩, .int .i64 a.a.val.1, .int .i64 a.a.val.2.1, .string a.a.val.2.2, .int .i64 a.b.kind, .string ⟨a.b.name.toArray⟩, .int .i64 a.b.val.1, .int .i64 a.b.val.2.1, .string a.b.val.2.2] : List Value)[j]? = some u' → (w3.alloc (.cells #[.int .i64 a.kind, .string ⟨a.atom.pred.toArray⟩, u, .int .i64 a.op, .int .i64 a.a.kind, .string ⟨a.a.name.toArray⟩, .int .i64 a.a.val.1, .int .i64 a.a.val.2.1, .string a.a.val.2.2, .int .i64 a.b.kind, .string ⟨a.b.name.toArray⟩, .int .i64 a.b.val.1, .int .i64 a.b.val.2.1, .string a.b.val.2.2] 55)).cell? ⟨w3.heap.size, 0 + j, none⟩ = some u') := Lib.hid (lit_rowcells w3 [.int .i64 a.kind, .string ⟨a.atom.pred.toArray⟩, u, .int .i64 a.op, .int .i64 a.a.kind, .string ⟨a.a.name.toArray⟩, .int .i64 a.a.val.1, .int .i64 a.a.val.2.1, .string a.a.val.2.2, .int .i64 a.b.kind, .string ⟨a.b.name.toArray⟩, .int .i64 a.b.val.1, .int .i64 a.b.val.2.1, .string a.b.val.2.2] _)
      go_wp2_with (at_builtin; refine wpList_appY liY rfl (.tmp 13) (.tmp 16) 26 55 rfl W.heap.size (.agg #[.int .i64 0, .string ⟨#[]⟩, .slice none 0 0, .int .i64 0, .int .i64 0, .string ⟨#[]⟩, .int .i64 0, .int .i64 0, .string ⟨#[]⟩, .int .i64 0, .string ⟨#[]⟩, .int .i64 0, .int .i64 0, .string ⟨#[]⟩]) 168 Tryd.underlying26 Tryd.infoLi rfl (by decide) (by decide) u5 zs a [.int .i64 a.kind, .string ⟨a.atom.pred.toArray⟩, u, .int .i64 a.op, .int .i64 a.a.kind, .string ⟨a.a.name.toArray⟩, .int .i64 a.a.val.1, .int .i64 a.a.val.2.1, .string a.a.val.2.2, .int .i64 a.b.kind, .string ⟨a.b.name.toArray⟩, .int .i64 a.b.val.1, .int .i64 a.b.val.2.1, .string a.b.val.2.2] w3.heap.size 1 rfl rfl HOw.out HIs.out HCl.out hlenA hsz3' ?_; intro v2 w4 ho hg hv2; have HN := Lib.hid (And.intro ho hg); clear ho hg hv2)
      go_roundw
      case rel =>
        obtain ⟨ho, hg⟩ := HN.out
        obtain ⟨ht, hp, hs, hr⟩ := HW.out
        have hq : nxt (isM [44]) (keys (x :: L3)) = true := by rw [nxt_mark HJ.out.rd.tidy rfl]; simp [txt, HE.out.2.2]
        have htg := Turned.of_grown hg
        have hlo : ∀ k, u5.ownBlock = some k → W.heap.size ≤ k := fun k e => (HJ.out.own.lt k e).1
        refine ⟨zs ++ [a], L4, Lib.hid ⟨ho, (hr.alloc _).turned htg fun k e => by have := hlo k e; omega, (((HJ.out.only.on HE.out.1).on ht).alloc _).call htg fun k e => .inr (hlo k e), hs.trans ((List.suffix_cons x L3).trans HJ.out.suf), HJ.out.eq.trans (cont_next HEat.out hq hp), ?_⟩⟩
        have h1 := eats_len HEat.out hp
        have h2 := HJ.out.len
        simp at h2 ⊢
        omega
      case measure =>
        obtain ⟨ho, hg⟩ := HN.out
        obtain ⟨ht, hp, hs, hr⟩ := HW.out
        have htg := Turned.of_grown hg
        have hlo : ∀ k, u5.ownBlock = some k → W.heap.size ≤ k := fun k e => (HJ.out.own.lt k e).1
        have h3 := ((hr.alloc (.cells #[.int .i64 a.kind, .string ⟨a.atom.pred.toArray⟩, u, .int .i64 a.op, .int .i64 a.a.kind, .string ⟨a.a.name.toArray⟩, .int .i64 a.a.val.1, .int .i64 a.a.val.2.1, .string a.a.val.2.2, .int .i64 a.b.kind, .string ⟨a.b.name.toArray⟩, .int .i64 a.b.val.1, .int .i64 a.b.val.2.1, .string a.b.val.2.2] 55)).turned htg fun k e => by have := hlo k e; omega).left
        rw [h3, HJ.out.rd.left]
        have h1 := eats_len HEat.out hp
        simp
        omega
    · have HE := Lib.hid (And.intro ht (And.intro hr hx))
      clear ht hr hx
      go_wp2_with fail
      go_ret
      have hq : nxt (isM [44]) (keys L2) = false := by rw [nxt_mark HJ.out.rd.tidy rfl]; simpa using HE.out.2.2
      exact ⟨Only.turned (HJ.out.only.on HE.out.1), .inl ⟨zs, L2, u5, HJ.out.eq.trans (cont_end hq), HJ.out.suf, rfl, (HJ.out.own.turned HE.out.1 (fun k hB _ e => by omega)).in_, HE.out.2.1⟩⟩
end
section
open Go Go.RowKit Go.Shelf

set_option maxRecDepth 100000 in
set_option maxHeartbeats 2000000 in
theorem plistAc_any {W : World} {n b e : Nat} {L : List Wd} (h : Rp n W b L e) : Calls Tryd.prog 43 #[rdp b, .func (.func 44) #[rdp b] #[]] W (PEnd (sepL (isM [44]) actR) (rowT acY) n b e L W) := by
  have HR := Lib.hid h
  have HEat := Lib.hid (fit_act.eats)
  have hnW := h.below_
  have hbn := h.at_
  clear h
  go_enter Tryd.func43, Tryd.ntmps43
  go_wp2_with fail
  refine (pact_any HR.out).mono ?_
  rintro y w1 ⟨ht, ⟨a, L1, v, hp, hs, rfl, hv, hr⟩ | ⟨L1, hp, hs, rfl⟩⟩
  rotate_left
  · have HE := Lib.hid (And.intro ht (And.intro hp hs))
    clear ht hp hs
    go_wp2_with fail
    exact ⟨rfl, HE.out.1, .inr ⟨L1, sep_bad HEat.out HE.out.2.1, HE.out.2.2, rfl⟩⟩
  obtain ⟨u, rfl, hu⟩ := hv
  have hu := Lib.hid hu
  have HJ0 : Hid (LsJ (isM [44]) actR acY 92 n b e L W (.slice (some ⟨w1.heap.size, 0, none⟩) 1 1) [a] L1 (w1.alloc (.cells #[.bool a.plus, .string ⟨a.atom.pred.toArray⟩, u] 92))) := Lib.hid
    ⟨RowOwn.lit (us := [.bool a.plus, .string ⟨a.atom.pred.toArray⟩, u]) ht.size ⟨u, rfl, hu.out⟩, hr.alloc _, ((Only.refl b W).on ht).alloc _, hs, sep_first HEat.out hp, by have := eats_len HEat.out hp; simp; omega⟩
  clear ht hp hs hr
  go_wp2_with fail
  go_loopw [5] (fun v wr => ∃ zs L2, Hid (LsJ (isM [44]) actR acY 92 n b e L W v zs L2 wr)) (fun _ wr => leftW wr b)
  case atStart => exact ⟨_, _, HJ0⟩
  case round =>
    obtain ⟨zs, L2, HJ⟩ := hrel
    go_wp2_with fail
    refine (pmay_any [44] (by decide) HJ.out.rd).mono ?_
    rintro y w2 ⟨ht, ⟨x, L3, rfl, hx, rfl, hr⟩ | ⟨hx, rfl, hr⟩⟩
    · have HE := Lib.hid (And.intro ht (And.intro hr hx))
      clear ht hr hx
      go_wp2_with fail
      refine (pact_any HE.out.2.1).mono ?_
      rintro y w3 ⟨ht, ⟨a, L4, v1, hp, hs, rfl, hv, hr⟩ | ⟨L4, hp, hs, rfl⟩⟩
      rotate_left
      · have HE4 := Lib.hid (And.intro ht (And.intro hp hs))
        clear ht hp hs
        go_wp2_with fail
        have hq : nxt (isM [44]) (keys (x :: L3)) = true := by rw [nxt_mark HJ.out.rd.tidy rfl]; simp [txt, HE.out.2.2]
        exact ⟨rfl, Only.turned ((HJ.out.only.on HE.out.1).on HE4.out.1), .inr ⟨L4, HJ.out.eq.trans (cont_bad HEat.out hq HE4.out.2.1), HE4.out.2.2.trans ((List.suffix_cons x L3).trans HJ.out.suf), rfl⟩⟩
      obtain ⟨u, rfl, hu⟩ := hv
      have hu := Lib.hid hu
      have HW := Lib.hid (And.intro ht (And.intro hp (And.intro hs hr)))
      clear ht hp hs hr
      have hlenA : zs.length ≤ 1000000 := by have := HJ.out.len; have := HR.out.len; simp at *; omega
      have hsz3 : W.heap.size ≤ w3.heap.size := Nat.le_trans HJ.out.only.size (Nat.le_trans HE.out.1.size HW.out.1.size)
      have HOw : Hid (RowOwn acY 92 W.heap.size (w3.alloc (.cells #[.bool a.plus, .string ⟨a.atom.pred.toArray⟩, u] 92)) u5 zs) := Lib.hid (((HJ.out.own.turned HE.out.1 (fun k hB _ e => by omega)).turned HW.out.1 (fun k hB _ e => by omega)).keep (by simp) fun k _ hk => Below.heap_alloc _ _ _ hk)
      have HIs : Hid (acY.is (fun k => W.heap.size ≤ k ∧ u5.ownBlock ≠ some k) (w3.alloc (.cells #[.bool a.plus, .string ⟨a.atom.pred.toArray⟩, u] 92)) [.bool a.plus, .string ⟨a.atom.pred.toArray⟩, u] a) := Lib.hid ⟨u, rfl, hu.out.keep (by simp) fun k e hk => ⟨⟨by have := HJ.out.only.size; have := HE.out.1.size; omega, fun e2 => by have := (HJ.out.own.lt k e2).2; have := HE.out.1.size; omega⟩, Below.heap_alloc _ _ _ hk⟩⟩
      have hsz3' : W.heap.size ≤ (w3.alloc (.cells #[.bool a.plus, .string ⟨a.atom.pred.toArray⟩, u] 92)).heap.size := by simp; omega
      have HCl : Hid (∀ j u', ([.bool a.plus, .string ⟨a.atom.pred.toArray⟩, u] : List Value)[j]? = some u' → (w3.alloc (.cells #[.bool a.plus, .string ⟨a.atom.pred.toArray⟩, u] 92)).cell? ⟨w3.heap.size, 0 + j, none⟩ = some u') := Lib.hid (lit_rowcells w3 [.bool a.plus, .string ⟨a.atom.pred.toArray⟩, u] _)
      go_wp2_with (at_builtin; refine wpList_appY acY rfl (.tmp 13) (.tmp 16) 65 92 rfl W.heap.size (.agg #[.bool false, .string ⟨#[]⟩, .slice none 0 0]) 48 Tryd.underlying65 Tryd.infoAc rfl (by decide) (by decide) u5 zs a [.bool a.plus, .string ⟨a.atom.pred.toArray⟩, u] w3.heap.size 1 rfl rfl HOw.out HIs.out HCl.out hlenA hsz3' ?_; intro v2 w4 ho hg hv2; have HN := Lib.hid (And.intro ho hg); clear ho hg hv2)
      go_roundw
      case rel =>
        obtain ⟨ho, hg⟩ := HN.out
        obtain ⟨ht, hp, hs, hr⟩ := HW.out
        have hq : nxt (isM [44]) (keys (x :: L3)) = true := by rw [nxt_mark HJ.out.rd.tidy rfl]; simp [txt, HE.out.2.2]
        have htg := Turned.of_grown hg
        have hlo : ∀ k, u5.ownBlock = some k → W.heap.size ≤ k := fun k e => (HJ.out.own.lt k e).1
        refine ⟨zs ++ [a], L4, Lib.hid ⟨ho, (hr.alloc _).turned htg fun k e => by have := hlo k e; omega, (((HJ.out.only.on HE.out.1).on ht).alloc _).call htg fun k e => .inr (hlo k e), hs.trans ((List.suffix_cons x L3).trans HJ.out.suf), HJ.out.eq.trans (cont_next HEat.out hq hp), ?_⟩⟩
        have h1 := eats_len HEat.out hp
        have h2 := HJ.out.len
        simp at h2 ⊢
        omega
      case measure =>
        obtain ⟨ho, hg⟩ := HN.out
        obtain ⟨ht, hp, hs, hr⟩ := HW.out
        have htg := Turned.of_grown hg
        have hlo : ∀ k, u5.ownBlock = some k → W.heap.size ≤ k := fun k e => (HJ.out.own.lt k e).1
        have h3 := ((hr.alloc (.cells #[.bool a.plus, .string ⟨a.atom.pred.toArray⟩, u] 92)).turned htg fun k e => by have := hlo k e; omega).left
        rw [h3, HJ.out.rd.left]
        have h1 := eats_len HEat.out hp
        simp
        omega
    · have HE := Lib.hid (And.intro ht (And.intro hr hx))
      clear ht hr hx
      go_wp2_with fail
      go_ret
      have hq : nxt (isM [44]) (keys L2) = false := by rw [nxt_mark HJ.out.rd.tidy rfl]; simpa using HE.out.2.2
      exact ⟨Only.turned (HJ.out.only.on HE.out.1), .inl ⟨zs, L2, u5, HJ.out.eq.trans (cont_end hq), HJ.out.suf, rfl, (HJ.out.own.turned HE.out.1 (fun k hB _ e => by omega)).in_, HE.out.2.1⟩⟩
end
section
open Go Go.RowKit Go.Shelf

abbrev zRu : Obj := .cells #[.string ⟨#[]⟩, .slice none 0 0, .slice none 0 0] 28
def ruT (S : Nat → Prop) (w : World) (v : Value) (r : RuL) : Prop := ∃ u x, v = .agg #[.string ⟨r.head.pred.toArray⟩, u, x] ∧ RowIn tmY S w u r.head.args ∧ RowIn liY S w x r.body
/-- A box of three cells and the result's box under it. -/
def Bx3 (N b ba kt : Nat) (ko : Obj) (t : TypeId) (x y z : Value) (W : World) : Prop :=
  (N ≤ ba ∧ ba < W.heap.size ∧ b < N ∧ kt ≠ ba ∧ N ≤ kt ∧ kt < W.heap.size) ∧ W.heap[ba]? = some (.cells #[x, y, z] t (0, 0)) ∧ W.heap[kt]? = some ko
theorem Bx3.on {N b ba kt : Nat} {ko : Obj} {t : TypeId} {x y z : Value} {W W' : World} (h : Bx3 N b ba kt ko t x y z W) (ht : Turned (fun k => k = b) W W') : Bx3 N b ba kt ko t x y z W' := by
  obtain ⟨⟨h1, h2, h3, h4, h5, h6⟩, h7, h8⟩ := h
  exact ⟨⟨h1, Nat.lt_of_lt_of_le h2 ht.size, h3, h4, h5, Nat.lt_of_lt_of_le h6 ht.size⟩, (ht.block ba h2 (by omega)).trans h7, (ht.block kt h6 (by omega)).trans h8⟩
set_option maxRecDepth 100000 in
set_option maxHeartbeats 2000000 in
theorem prule_any {W : World} {n b e : Nat} {L : List Wd} (h : Rp n W b L e) : Calls Tryd.prog 10 #[rdp b] W (PEnd ruleR ruT n b e L W) := by
  have HR := Lib.hid h
  have hnW := h.below_
  have hlt := h.lt
  clear h
  go_enter Tryd.func10, Tryd.ntmps10
  go_wp2_with fail
  refine (patom_any (HR.out.alloc zRu)).mono ?_
  rintro y w1 ⟨ht, ⟨a, L1, v, hp, hs, rfl, ⟨u, rfl, hu⟩, hr⟩ | ⟨L1, hp, hs, rfl⟩⟩
  rotate_left
  · have HE := Lib.hid (And.intro ht (And.intro hp hs))
    clear ht hp hs
    go_wp2_with fail
    obtain ⟨ht, hp, hs⟩ := HE.out
    exact ⟨rfl, Only.turned (((Only.refl b W).alloc zRu).on ht), .inr ⟨L1, bind_bad hp, hs, rfl⟩⟩
  have HE := Lib.hid (And.intro ht (And.intro hp (And.intro hs (And.intro hu hr))))
  obtain ⟨pu, cu, rfl, -⟩ := id hu
  have hsz : W.heap.size < w1.heap.size := by have := ht.size; simp at this; omega
  have HB : Hid (Bx3 W.heap.size b w1.heap.size W.heap.size zRu 28 (.string ⟨a.pred.toArray⟩) (.slice pu a.args.length cu) (.slice none 0 0) (w1.alloc (.cells #[.string ⟨a.pred.toArray⟩, .slice pu a.args.length cu, .slice none 0 0] 28))) := Lib.hid
    ⟨⟨by omega, by simp, hlt, by omega, Nat.le_refl _, by simp; omega⟩, heap_alloc_new _ _, (Below.heap_alloc _ _ _ hsz).trans ((ht.block _ (by simp) (by omega)).trans (heap_alloc_new W zRu))⟩
  have HO : Hid (Only W.heap.size b W (w1.alloc (.cells #[.string ⟨a.pred.toArray⟩, .slice pu a.args.length cu, .slice none 0 0] 28))) := Lib.hid ((((Only.refl b W).alloc zRu).on ht).alloc _)
  have HR1 := Lib.hid (hr.alloc (.cells #[.string ⟨a.pred.toArray⟩, .slice pu a.args.length cu, .slice none 0 0] 28))
  have HU : Hid (RowIn tmY (fun k => W.heap.size ≤ k ∧ k ≠ W.heap.size ∧ k ≠ w1.heap.size) (w1.alloc (.cells #[.string ⟨a.pred.toArray⟩, .slice pu a.args.length cu, .slice none 0 0] 28)) (.slice pu a.args.length cu) a.args) := Lib.hid (hu.keep (by simp) fun k e hk => ⟨by simp at e; omega, Below.heap_alloc _ _ _ hk⟩)
  have HP := Lib.hid (And.intro hp hs)
  obtain ⟨c1, hc1⟩ : ∃ c, c = w1.heap.size := ⟨_, rfl⟩
  clear ht hp hs hu hr HE
  go_wp2_with fail
  refine (pmay_any [58, 45] (by decide) HR1.out).mono ?_
  rintro y w2 ⟨ht, ⟨x, L2, rfl, hx, rfl, hr⟩ | ⟨hx, rfl, hr⟩⟩
  · have HE2 := Lib.hid (And.intro ht (And.intro hr hx))
    have HB2 := Lib.hid (HB.out.on ht)
    obtain ⟨⟨a0, a1, a2⟩, g0, g1, g2⟩ := cells3 HB2.out.2.1
    clear ht hr hx
    go_wp2_with fail
    refine (plistLi_any HE2.out.2.1).mono ?_
    rintro y w3 ⟨ht, ⟨zs, L3, v, hp, hs, rfl, hv, hr⟩ | ⟨L3, hp, hs, rfl⟩⟩
    rotate_left
    · have HE3 := Lib.hid (And.intro ht (And.intro hp hs))
      clear ht hp hs
      go_wp2_with fail
      obtain ⟨ht, hp, hs⟩ := HE3.out
      refine ⟨rfl, Only.turned ((HO.out.on HE2.out.1).on ht), .inr ⟨L3, (bind_ok HP.out.1).trans (bind_bad (bind_bad ?_)), hs.trans ((List.suffix_cons x L2).trans HP.out.2), rfl⟩⟩
      unfold moreR altR
      rw [if_pos (by rw [nxt_mark HR1.out.tidy rfl]; simpa [txt] using HE2.out.2.2)]
      exact (bind_ok (tok1_yes (by rw [tidy_mark (HR1.out.tidy x List.mem_cons_self) rfl]; simpa using HE2.out.2.2))).trans hp
    have HB3 := Lib.hid (HB2.out.on ht)
    obtain ⟨pv, cv, rfl, -⟩ := id hv
    obtain ⟨⟨b0, b1, b2⟩, k0, k1, k2⟩ := cells3 HB3.out.2.1
    have HE3 := Lib.hid (And.intro ht (And.intro hp (And.intro hs (And.intro hv hr))))
    clear ht hp hs hv hr a0 a1 a2 g0 g1 g2
    go_wp2_with fail
    -- TAIL
    have HRX : Hid (Rp n (w3.setCell ⟨w1.heap.size, 2, none⟩ (.slice pv zs.length cv)) b L3 e) := Lib.hid (HE3.out.2.2.2.2.set (by omega) _ _)
    have HOX : Hid (Only W.heap.size b W (w3.setCell ⟨w1.heap.size, 2, none⟩ (.slice pv zs.length cv))) := Lib.hid (((HO.out.on HE2.out.1).on HE3.out.1).set (by omega) _ _)
    have HBX : Hid (Bx3 W.heap.size b w1.heap.size W.heap.size zRu 28 (.string ⟨a.pred.toArray⟩) (.slice pu a.args.length cu) (.slice pv zs.length cv) (w3.setCell ⟨w1.heap.size, 2, none⟩ (.slice pv zs.length cv))) := Lib.hid (by
      obtain ⟨⟨h1, h2, h3, h4, h5, h6⟩, h7, h8⟩ := HB3.out
      exact ⟨⟨h1, by simpa using h2, h3, h4, h5, by simpa using h6⟩, heap_setCell_same w3 _ 2 _ _ _ h7, (heap_setCell_other w3 ⟨w1.heap.size, 2, none⟩ _ _ h4).trans h8⟩)
    have HUX : Hid (RowIn tmY (fun k => W.heap.size ≤ k ∧ k ≠ W.heap.size ∧ k ≠ w1.heap.size) (w3.setCell ⟨w1.heap.size, 2, none⟩ (.slice pv zs.length cv)) (.slice pu a.args.length cu) a.args) := Lib.hid ((((HU.out.turned HE2.out.1 fun k e e2 => by omega).turned HE3.out.1 fun k e e2 => by omega)).keep (by simp) fun k e hk => ⟨e, heap_setCell_other w3 ⟨w1.heap.size, 2, none⟩ k _ e.2.2⟩)
    have HVX : Hid (RowIn liY (fun k => W.heap.size ≤ k ∧ k ≠ W.heap.size ∧ k ≠ w1.heap.size) (w3.setCell ⟨w1.heap.size, 2, none⟩ (.slice pv zs.length cv)) (.slice pv zs.length cv) zs) := Lib.hid (by
      have h2 := HB2.out.1.2.1
      exact RowIn.keep HE3.out.2.2.2.1 (by simp) fun k e hk => ⟨by omega, heap_setCell_other w3 ⟨w1.heap.size, 2, none⟩ k _ (by show k ≠ w1.heap.size; omega)⟩)
    have HM : Hid (moreR [58, 45] literalR (keys (x :: L2)) = .ok zs (keys L3) ∧ L3 <:+ x :: L2) := Lib.hid (by
      refine ⟨?_, HE3.out.2.2.1.trans (List.suffix_cons x L2)⟩
      unfold moreR altR
      rw [if_pos (by rw [nxt_mark HR1.out.tidy rfl]; simpa [txt] using HE2.out.2.2)]
      exact (bind_ok (tok1_yes (by rw [tidy_mark (HR1.out.tidy x List.mem_cons_self) rfl]; simpa using HE2.out.2.2))).trans HE3.out.2.1)
    refine (pmust_any [46] (by decide) HRX.out).mono ?_
    rintro y w4 ⟨ht, ⟨x4, L4, hL, hx, rfl, hr⟩ | ⟨hx, rfl⟩⟩
    · subst hL
      have HB4 := Lib.hid (HBX.out.on ht)
      have HF := Lib.hid (And.intro ht (And.intro hr hx))
      obtain ⟨⟨d0, d1, d2⟩, m0, m1, m2⟩ := cells3 HB4.out.2.1
      obtain ⟨⟨p0, p1, p2⟩, o0, o1, o2⟩ := cells3 HB4.out.2.2
      clear ht hr hx
      go_wp2_with fail
      refine bodyPost_ret (results_cell_row (fn := Tryd.f10) (by rfl) _ _ _ _ _ _ _ (by rfl) (rowS3_set HB4.out.2.2) Tryd.underlying28 (by rfl) (by kernel_rfl)) (by rfl) ?_
      obtain ⟨ht, hr, hx⟩ := HF.out
      refine ⟨Only.turned ((((HOX.out.on ht).set (Nat.le_refl _) _ _).set (Nat.le_refl _) _ _).set (Nat.le_refl _) _ _), .inl ⟨⟨a, zs⟩, L4, _, (bind_ok HP.out.1).trans ((bind_ok ((bind_ok HM.out.1).trans ((bind_ok (mark_yes (HRX.out.tidy x4 List.mem_cons_self) rfl hx)).trans rfl))).trans rfl), (List.suffix_cons x4 L4).trans (HM.out.2.trans HP.out.2), rfl, ⟨_, _, rfl, ?_, ?_⟩, ((hr.set hnW _ _).set hnW _ _).set hnW _ _⟩⟩
      · exact (HUX.out.turned ht fun k e e2 => by omega).keep (by simp) fun k e hk => ⟨e.1, set3_off e.2.1⟩
      · exact (HVX.out.turned ht fun k e e2 => by omega).keep (by simp) fun k e hk => ⟨e.1, set3_off e.2.1⟩
    · have HF := Lib.hid (And.intro ht hx)
      clear ht hx
      go_wp2_with fail
      obtain ⟨ht, hx⟩ := HF.out
      exact ⟨rfl, Only.turned (HOX.out.on ht), .inr ⟨L3, (bind_ok HP.out.1).trans (bind_bad ((bind_ok HM.out.1).trans (bind_bad (mark_no HRX.out.tidy rfl hx)))), HM.out.2.trans HP.out.2, rfl⟩⟩
  · have HE2 := Lib.hid (And.intro ht (And.intro hr hx))
    have HB2 := Lib.hid (HB.out.on ht)
    have HRX := Lib.hid hr
    have HOX := Lib.hid (HO.out.on ht)
    have HBX := Lib.hid (HB.out.on ht)
    have HUX := Lib.hid (HU.out.turned ht fun k e e2 => by omega)
    obtain ⟨zs, hzs⟩ : ∃ zs : List LiL, zs = [] := ⟨_, rfl⟩
    have HVX : Hid (RowIn liY (fun k => W.heap.size ≤ k ∧ k ≠ W.heap.size ∧ k ≠ w1.heap.size) w2 (.slice none 0 0) zs) := Lib.hid (by rw [hzs]; exact RowIn.nil _ _ _)
    obtain ⟨L3, hL3⟩ : ∃ L3, L3 = L1 := ⟨_, rfl⟩
    have HM : Hid (moreR [58, 45] literalR (keys L1) = .ok zs (keys L3) ∧ L3 <:+ L1) := Lib.hid (by
      rw [hL3, hzs]
      refine ⟨?_, List.suffix_refl _⟩
      unfold moreR altR
      rw [if_neg (by rw [nxt_mark HR1.out.tidy rfl]; simpa using hx)]
      rfl)
    rw [← hL3] at HRX
    clear ht hr hx hzs hL3
    go_wp2_with fail
    refine (pmust_any [46] (by decide) HRX.out).mono ?_
    rintro y w4 ⟨ht, ⟨x4, L4, hL, hx, rfl, hr⟩ | ⟨hx, rfl⟩⟩
    · subst hL
      have HB4 := Lib.hid (HBX.out.on ht)
      have HF := Lib.hid (And.intro ht (And.intro hr hx))
      obtain ⟨⟨d0, d1, d2⟩, m0, m1, m2⟩ := cells3 HB4.out.2.1
      obtain ⟨⟨p0, p1, p2⟩, o0, o1, o2⟩ := cells3 HB4.out.2.2
      clear ht hr hx
      go_wp2_with fail
      refine bodyPost_ret (results_cell_row (fn := Tryd.f10) (by rfl) _ _ _ _ _ _ _ (by rfl) (rowS3_set HB4.out.2.2) Tryd.underlying28 (by rfl) (by kernel_rfl)) (by rfl) ?_
      obtain ⟨ht, hr, hx⟩ := HF.out
      refine ⟨Only.turned ((((HOX.out.on ht).set (Nat.le_refl _) _ _).set (Nat.le_refl _) _ _).set (Nat.le_refl _) _ _), .inl ⟨⟨a, zs⟩, L4, _, (bind_ok HP.out.1).trans ((bind_ok ((bind_ok HM.out.1).trans ((bind_ok (mark_yes (HRX.out.tidy x4 List.mem_cons_self) rfl hx)).trans rfl))).trans rfl), (List.suffix_cons x4 L4).trans (HM.out.2.trans HP.out.2), rfl, ⟨_, _, rfl, ?_, ?_⟩, ((hr.set hnW _ _).set hnW _ _).set hnW _ _⟩⟩
      · exact (HUX.out.turned ht fun k e e2 => by omega).keep (by simp) fun k e hk => ⟨e.1, set3_off e.2.1⟩
      · exact (HVX.out.turned ht fun k e e2 => by omega).keep (by simp) fun k e hk => ⟨e.1, set3_off e.2.1⟩
    · have HF := Lib.hid (And.intro ht hx)
      clear ht hx
      go_wp2_with fail
      obtain ⟨ht, hx⟩ := HF.out
      exact ⟨rfl, Only.turned (HOX.out.on ht), .inr ⟨L3, (bind_ok HP.out.1).trans (bind_bad ((bind_ok HM.out.1).trans (bind_bad (mark_no HRX.out.tidy rfl hx)))), HM.out.2.trans HP.out.2, rfl⟩⟩
end
end Go.Proofs.YtmnbbbkikbcbjaaDoor
