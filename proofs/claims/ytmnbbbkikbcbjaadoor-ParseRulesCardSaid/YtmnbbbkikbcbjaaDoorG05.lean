/-
  The program's reader: list of parts (Tm).
  The program's reader: enclosed; atom.
  The program's reader: the closure that reads the row in brackets (At).
  The program's reader: list of parts (Ty).
  The program's reader: the closure that reads the row in brackets (De).
  The program's reader: list of parts (Pa).
  The program's reader: the closure that reads the row in brackets (On).
  The program's reader: atom, act, literal.
-/
import Derived.Test.YtmnbbbkikbcbjaaDoorG04
namespace Go.Proofs.YtmnbbbkikbcbjaaDoor
section
open Go Go.RowKit Go.Shelf

set_option maxRecDepth 100000 in
set_option maxHeartbeats 2000000 in
theorem plistTm_any {W : World} {n b e : Nat} {L : List Wd} (h : Rp n W b L e) : Calls Tryd.prog 33 #[rdp b, .func (.func 34) #[rdp b] #[]] W (PEnd (sepL (isM [44]) termR) (rowT tmY) n b e L W) := by
  have HR := Lib.hid h
  have HEat := Lib.hid (fit_term.eats)
  have hnW := h.below_
  have hbn := h.at_
  clear h
  go_enter Tryd.func33, Tryd.ntmps33
  go_wp2_with fail
  refine (pterm_any HR.out).mono ?_
  rintro y w1 ⟨ht, ⟨a, L1, v, hp, hs, rfl, hv, hr⟩ | ⟨L1, hp, hs, rfl⟩⟩
  rotate_left
  · have HE := Lib.hid (And.intro ht (And.intro hp hs))
    clear ht hp hs
    go_wp2_with fail
    exact ⟨rfl, HE.out.1, .inr ⟨L1, sep_bad HEat.out HE.out.2.1, HE.out.2.2, rfl⟩⟩
  obtain rfl : v = .agg #[.int .i64 a.kind, .string ⟨a.name.toArray⟩, .int .i64 a.val.1, .int .i64 a.val.2.1, .string a.val.2.2] := hv
  have HJ0 : Hid (LsJ (isM [44]) termR tmY 53 n b e L W (.slice (some ⟨w1.heap.size, 0, none⟩) 1 1) [a] L1 (w1.alloc (.cells #[.int .i64 a.kind, .string ⟨a.name.toArray⟩, .int .i64 a.val.1, .int .i64 a.val.2.1, .string a.val.2.2] 53))) := Lib.hid
    ⟨RowOwn.lit (us := [.int .i64 a.kind, .string ⟨a.name.toArray⟩, .int .i64 a.val.1, .int .i64 a.val.2.1, .string a.val.2.2]) ht.size rfl, hr.alloc _, ((Only.refl b W).on ht).alloc _, hs, sep_first HEat.out hp, by have := eats_len HEat.out hp; simp; omega⟩
  clear ht hp hs hr
  go_wp2_with fail
  go_loopw [5] (fun v wr => ∃ zs L2, Hid (LsJ (isM [44]) termR tmY 53 n b e L W v zs L2 wr)) (fun _ wr => leftW wr b)
  case atStart => exact ⟨_, _, HJ0⟩
  case round =>
    obtain ⟨zs, L2, HJ⟩ := hrel
    go_wp2_with fail
    refine (pmay_any [44] (by decide) HJ.out.rd).mono ?_
    rintro y w2 ⟨ht, ⟨x, L3, rfl, hx, rfl, hr⟩ | ⟨hx, rfl, hr⟩⟩
    · have HE := Lib.hid (And.intro ht (And.intro hr hx))
      clear ht hr hx
      go_wp2_with fail
      refine (pterm_any HE.out.2.1).mono ?_
      rintro y w3 ⟨ht, ⟨a, L4, v1, hp, hs, rfl, hv, hr⟩ | ⟨L4, hp, hs, rfl⟩⟩
      rotate_left
      · have HE4 := Lib.hid (And.intro ht (And.intro hp hs))
        clear ht hp hs
        go_wp2_with fail
        have hq : nxt (isM [44]) (keys (x :: L3)) = true := by rw [nxt_mark HJ.out.rd.tidy rfl]; simp [txt, HE.out.2.2]
        exact ⟨rfl, Only.turned ((HJ.out.only.on HE.out.1).on HE4.out.1), .inr ⟨L4, HJ.out.eq.trans (cont_bad HEat.out hq HE4.out.2.1), HE4.out.2.2.trans ((List.suffix_cons x L3).trans HJ.out.suf), rfl⟩⟩
      obtain rfl : v1 = .agg #[.int .i64 a.kind, .string ⟨a.name.toArray⟩, .int .i64 a.val.1, .int .i64 a.val.2.1, .string a.val.2.2] := hv
      have HW := Lib.hid (And.intro ht (And.intro hp (And.intro hs hr)))
      clear ht hp hs hr
      have hlenA : zs.length ≤ 1000000 := by have := HJ.out.len; have := HR.out.len; simp at *; omega
      have hsz3 : W.heap.size ≤ w3.heap.size := Nat.le_trans HJ.out.only.size (Nat.le_trans HE.out.1.size HW.out.1.size)
      have HOw : Hid (RowOwn tmY 53 W.heap.size (w3.alloc (.cells #[.int .i64 a.kind, .string ⟨a.name.toArray⟩, .int .i64 a.val.1, .int .i64 a.val.2.1, .string a.val.2.2] 53)) u5 zs) := Lib.hid (((HJ.out.own.turned HE.out.1 (fun k hB _ e => by omega)).turned HW.out.1 (fun k hB _ e => by omega)).keep (by simp) fun k _ hk => Below.heap_alloc _ _ _ hk)
      have HIs : Hid (tmY.is (fun k => W.heap.size ≤ k ∧ u5.ownBlock ≠ some k) (w3.alloc (.cells #[.int .i64 a.kind, .string ⟨a.name.toArray⟩, .int .i64 a.val.1, .int .i64 a.val.2.1, .string a.val.2.2] 53)) [.int .i64 a.kind, .string ⟨a.name.toArray⟩, .int .i64 a.val.1, .int .i64 a.val.2.1, .string a.val.2.2] a) := Lib.hid rfl
      have hsz3' : W.heap.size ≤ (w3.alloc (.cells #[.int .i64 a.kind, .string ⟨a.name.toArray⟩, .int .i64 a.val.1, .int .i64 a.val.2.1, .string a.val.2.2] 53)).heap.size := by simp; omega
      have HCl : Hid (∀ j u', ([.int .i64 a.kind, .string ⟨a.name.toArray⟩, .int .i64 a.val.1, .int .i64 a.val.2.1, .string a.val.2.2] : List Value)[j]? = some u' → (w3.alloc (.cells #[.int .i64 a.kind, .string ⟨a.name.toArray⟩, .int .i64 a.val.1, .int .i64 a.val.2.1, .string a.val.2.2] 53)).cell? ⟨w3.heap.size, 0 + j, none⟩ = some u') := Lib.hid (lit_rowcells w3 [.int .i64 a.kind, .string ⟨a.name.toArray⟩, .int .i64 a.val.1, .int .i64 a.val.2.1, .string a.val.2.2] _)
      go_wp2_with (at_builtin; refine wpList_appY tmY rfl (.tmp 13) (.tmp 16) 23 53 rfl W.heap.size (.agg #[.int .i64 0, .string ⟨#[]⟩, .int .i64 0, .int .i64 0, .string ⟨#[]⟩]) 56 Tryd.underlying23 Tryd.infoTm rfl (by decide) (by decide) u5 zs a [.int .i64 a.kind, .string ⟨a.name.toArray⟩, .int .i64 a.val.1, .int .i64 a.val.2.1, .string a.val.2.2] w3.heap.size 1 rfl rfl HOw.out HIs.out HCl.out hlenA hsz3' ?_; intro v2 w4 ho hg hv2; have HN := Lib.hid (And.intro ho hg); clear ho hg hv2)
      go_roundw
      case rel =>
        obtain ⟨ho, hg⟩ := HN.out
        obtain ⟨ht, hp, hs, hr⟩ := HW.out
        have hq : nxt (isM [44]) (keys (x :: L3)) = true := by rw [nxt_mark HJ.out.rd.tidy rfl]; simp [txt, HE.out.2.2]
        have htg := Turned.of_grown hg
        have hlo : ∀ k, u5.ownBlock = some k → W.heap.size ≤ k := fun k e => (HJ.out.own.lt k e).1
        refine ⟨zs ++ [a], L4, Lib.hid ⟨ho, (hr.alloc _).turned htg fun k e => by have := hlo k e; omega, (((HJ.out.only.on HE.out.1).on ht).alloc _).call htg fun k e => .inr (hlo k e), hs.trans ((List.suffix_cons x L3).trans HJ.out.suf), HJ.out.eq.trans (cont_next HEat.out hq hp), ?_⟩⟩
        have h1 := eats_len HEat.out hp
        have h2 := HJ.out.len
        simp at h2 ⊢
        omega
      case measure =>
        obtain ⟨ho, hg⟩ := HN.out
        obtain ⟨ht, hp, hs, hr⟩ := HW.out
        have htg := Turned.of_grown hg
        have hlo : ∀ k, u5.ownBlock = some k → W.heap.size ≤ k := fun k e => (HJ.out.own.lt k e).1
        have h3 := ((hr.alloc (.cells #[.int .i64 a.kind, .string ⟨a.name.toArray⟩, .int .i64 a.val.1, .int .i64 a.val.2.1, .string a.val.2.2] 53)).turned htg fun k e => by have := hlo k e; omega).left
        rw [h3, HJ.out.rd.left]
        have h1 := eats_len HEat.out hp
        simp
        omega
    · have HE := Lib.hid (And.intro ht (And.intro hr hx))
      clear ht hr hx
      go_wp2_with fail
      go_ret
      have hq : nxt (isM [44]) (keys L2) = false := by rw [nxt_mark HJ.out.rd.tidy rfl]; simpa using HE.out.2.2
      exact ⟨Only.turned (HJ.out.only.on HE.out.1), .inl ⟨zs, L2, u5, HJ.out.eq.trans (cont_end hq), HJ.out.suf, rfl, (HJ.out.own.turned HE.out.1 (fun k hB _ e => by omega)).in_, HE.out.2.1⟩⟩
end
section
open Go Go.RowKit Go.Shelf

theorem mark_yes {m : List UInt8} {x : Wd} {L : List Wd} (h : TidyW x) (hm : okM m = true) (e : x.text = m) : markR m (keys (x :: L)) = .ok () (keys L) :=
  (bind_ok (tok1_yes (by rw [tidy_mark h hm]; simpa using e))).trans rfl
theorem mark_no {m : List UInt8} {L : List Wd} (h : ∀ w ∈ L, TidyW w) (hm : okM m = true) (e : txt L ≠ m) : markR m (keys L) = .bad (keys L) :=
  bind_bad (tok1_no (by rw [nxt_mark h hm]; simpa using e))
/-- How what stands in brackets may end: what it read lies where G says. -/
def InEnd {α : Type} (p : Rd α) (n b e N : Nat) (G : World → α → Prop) (w0 : World) (L : List Wd) (x : Ending) (w' : World) : Prop :=
  Only N b w0 w' ∧ ((∃ a L', p (keys L) = .ok a (keys L') ∧ L' <:+ L ∧ x = .returned (.tuple #[]) ∧ G w' a ∧ Rp n w' b L' e) ∨ ∃ L', p (keys L) = .bad (keys L') ∧ L' <:+ L ∧ x = .panicked (misP (hereW e L')))
/-- A row in brackets that may be empty. -/
def encR {α : Type} (p : Rd (List α)) : Rd (List α) := bindR (markR [40]) fun _ => bindR (altR (isM [41]) (pureR []) p) fun zs => bindR (markR [41]) fun _ => pureR zs
theorem txt_head {x : Wd} {L : List Wd} : txt (x :: L) = x.text := rfl
set_option maxRecDepth 100000 in
set_option maxHeartbeats 2000000 in
theorem penclosed_any {α : Type} (p : Rd (List α)) {n b e N : Nat} {G : World → List α → Prop} {w0 w : World} {L : List Wd} (k : Nat) (caps : Array Value) (eg : ∀ args w, (callFunc k args).run Tryd.prog w = .ok (.enter k args) w)
    (h : Rp n w b L e) (hO : Only N b w0 w) (hG0 : G w []) (hG : ∀ W W' a, G W a → Turned (fun k => k = b) W W' → G W' a)
    (hin : ∀ W L1, Only N b w0 W → G W [] → Rp n W b L1 e → Calls Tryd.prog k caps W (InEnd p n b e N G w0 L1)) :
    Calls Tryd.prog 31 #[rdp b, .func (.func k) #[] caps] w (InEnd (encR p) n b e N G w0 L) := by
  have HR := Lib.hid h
  have HO := Lib.hid hO
  have HG0 := Lib.hid hG0
  have HG := Lib.hid hG
  have HI := Lib.hid hin
  clear h hO hG0 hG hin
  go_enter Tryd.func31, Tryd.ntmps31
  go_wp2_with fail
  refine (pmust_any [40] (by decide) HR.out).mono ?_
  rintro y w1 ⟨ht, ⟨x, L1, rfl, hx, rfl, hr⟩ | ⟨hx, rfl⟩⟩
  rotate_left
  · have HE := Lib.hid ht
    have HX := Lib.hid hx
    clear ht hx
    go_wp2_with fail
    exact ⟨rfl, HO.out.on HE.out, .inr ⟨L, bind_bad (mark_no HR.out.tidy rfl HX.out), List.suffix_refl _, rfl⟩⟩
  have HE1 := Lib.hid (And.intro ht hr)
  have HM := Lib.hid (mark_yes (L := L1) (HR.out.tidy x List.mem_cons_self) (m := [40]) rfl hx)
  clear ht hx hr
  go_wp2_with fail
  refine (pmay_any [41] (by decide) HE1.out.2).mono ?_
  rintro y w2 ⟨ht, ⟨x2, L2, rfl, hx, rfl, hr⟩ | ⟨hx, rfl, hr⟩⟩
  · have HE2 := Lib.hid (And.intro ht hr)
    have HM2 := Lib.hid (mark_yes (L := L2) (HE1.out.2.tidy x2 List.mem_cons_self) (m := [41]) rfl hx)
    have HQ := Lib.hid (show nxt (isM [41]) (keys (x2 :: L2)) = true by rw [nxt_mark HE1.out.2.tidy rfl]; simpa [txt] using hx)
    clear ht hx hr
    go_wp2_with fail
    exact bodyPost_end (results_none rfl _ _ _) rfl ⟨(HO.out.on HE1.out.1).on HE2.out.1, .inl ⟨[], L2, (bind_ok HM.out).trans ((bind_ok (show altR (isM [41]) (pureR []) p (keys (x2 :: L2)) = .ok [] (keys (x2 :: L2)) by unfold altR; rw [if_pos HQ.out]; rfl)).trans ((bind_ok HM2.out).trans rfl)), (List.suffix_cons x2 L2).trans (List.suffix_cons x (x2 :: L2)), rfl, HG.out _ _ _ (HG.out _ _ _ HG0.out HE1.out.1) HE2.out.1, HE2.out.2⟩⟩
  · have HE2 := Lib.hid (And.intro ht hr)
    have HQ := Lib.hid (show nxt (isM [41]) (keys L1) = false by rw [nxt_mark HE1.out.2.tidy rfl]; simpa using hx)
    have HP := Lib.hid (show altR (isM [41]) (pureR []) p (keys L1) = p (keys L1) by unfold altR; rw [if_neg (by rw [HQ.out]; simp)])
    clear ht hx hr
    go_wp2_with fail
    refine (HI.out w2 L1 ((HO.out.on HE1.out.1).on HE2.out.1) (HG.out _ _ _ (HG.out _ _ _ HG0.out HE1.out.1) HE2.out.1) HE2.out.2).mono ?_
    rintro y w3 ⟨ho, ⟨a, L3, hp, hs, rfl, hg, hr⟩ | ⟨L3, hp, hs, rfl⟩⟩
    rotate_left
    · have HE3 := Lib.hid (And.intro ho (And.intro hp hs))
      clear ho hp hs
      go_wp2_with fail
      exact ⟨rfl, HE3.out.1, .inr ⟨L3, (bind_ok HM.out).trans (bind_bad (HP.out.trans HE3.out.2.1)), HE3.out.2.2.trans (List.suffix_cons x L1), rfl⟩⟩
    have HE3 := Lib.hid (And.intro ho (And.intro hp (And.intro hs (And.intro hg hr))))
    clear ho hp hs hg hr
    go_wp2_with fail
    refine (pmust_any [41] (by decide) HE3.out.2.2.2.2).mono ?_
    rintro y w4 ⟨ht, ⟨x4, L4, rfl, hx, rfl, hr⟩ | ⟨hx, rfl⟩⟩
    · have HE4 := Lib.hid (And.intro ht hr)
      have HM4 := Lib.hid (mark_yes (L := L4) (HE3.out.2.2.2.2.tidy x4 List.mem_cons_self) (m := [41]) rfl hx)
      clear ht hx hr
      go_wp2_with fail
      obtain ⟨ho, hp, hs, hg, hr⟩ := HE3.out
      exact bodyPost_end (results_none rfl _ _ _) rfl ⟨ho.on HE4.out.1, .inl ⟨a, L4, (bind_ok HM.out).trans ((bind_ok (HP.out.trans hp)).trans ((bind_ok HM4.out).trans rfl)), ((List.suffix_cons x4 L4).trans hs).trans (List.suffix_cons x L1), rfl, HG.out _ _ _ hg HE4.out.1, HE4.out.2⟩⟩
    · have HE4 := Lib.hid ht
      have HX := Lib.hid hx
      clear ht hx
      go_wp2_with fail
      obtain ⟨ho, hp, hs, hg, hr⟩ := HE3.out
      exact ⟨rfl, ho.on HE4.out, .inr ⟨L3, (bind_ok HM.out).trans ((bind_ok (HP.out.trans hp)).trans (bind_bad (mark_no hr.tidy rfl HX.out))), hs.trans (List.suffix_cons x L1), rfl⟩⟩
/-- An atom as a value. -/
def atT (S : Nat → Prop) (w : World) (v : Value) (a : AtL) : Prop := ∃ u, v = .agg #[.string ⟨a.pred.toArray⟩, u] ∧ RowIn tmY S w u a.args
end
section
open Go Go.RowKit Go.Shelf

def AtG (N b br ba kt : Nat) (ko : Obj) (nm : List UInt8) (W : World) (zs : List TmL) : Prop :=
  (N ≤ ba ∧ ba < W.heap.size ∧ b < N) ∧ (∃ u, W.heap[ba]? = some (.cells #[.string ⟨nm.toArray⟩, u] 25 (0, 0)) ∧ RowIn tmY (fun k => N ≤ k ∧ k ≠ ba ∧ k ≠ kt) W u zs) ∧ N ≤ br ∧ br < W.heap.size ∧ br ≠ ba ∧ W.heap[br]? = some (.cells #[rdp b] 45 (0, 0)) ∧ (kt ≠ ba ∧ kt ≠ b ∧ kt < W.heap.size ∧ W.heap[kt]? = some ko)
theorem AtG.on {N b br ba kt : Nat} {ko : Obj} {nm : List UInt8} {W W' : World} {zs : List TmL} (h : AtG N b br ba kt ko nm W zs) (ht : Turned (fun k => k = b) W W') : AtG N b br ba kt ko nm W' zs := by
  obtain ⟨⟨h1, h2, h0⟩, ⟨u, h3, h4⟩, h5, h6, h7, h8, k1, k2, k3, k4⟩ := h
  exact ⟨⟨h1, Nat.lt_of_lt_of_le h2 ht.size, h0⟩, ⟨u, (ht.block ba h2 (by omega)).trans h3, h4.turned ht fun k e e2 => by omega⟩, h5, Nat.lt_of_lt_of_le h6 ht.size, h7, (ht.block br h6 (by omega)).trans h8, k1, k2, Nat.lt_of_lt_of_le k3 ht.size, (ht.block kt k3 k2).trans k4⟩
theorem AtG.put {N b br ba kt n0 : Nat} {ko : Obj} {nm : List UInt8} {W W1 : World} {zs zs' : List _} {v : Value} (h : AtG N b br ba kt ko nm W zs) (ht : Turned (fun k => k = b) W W1) (hn : n0 = W.heap.size) (hv : RowIn tmY (fun k => n0 ≤ k) W1 v zs') : AtG N b br ba kt ko nm (W1.setCell ⟨ba, 1, none⟩ v) zs' := by
  obtain ⟨⟨h1, h2, h0⟩, ⟨u, h3, h4⟩, h5, h6, h7, h8, k1, k2, k3, k4⟩ := h.on ht
  have hlt := h.1.2.1
  have hkt := h.2.2.2.2.2.2.2.2.1
  refine ⟨⟨h1, by simpa using h2, h0⟩, ⟨v, heap_setCell_same W1 ba 1 _ _ v h3, ?_⟩, h5, by simpa using h6, h7, (heap_setCell_other W1 ⟨ba, 1, none⟩ br v (by show br ≠ ba; omega)).trans h8, k1, k2, by simpa using k3, (heap_setCell_other W1 ⟨ba, 1, none⟩ kt v k1).trans k4⟩
  exact hv.keep (by simp) fun k e hk => ⟨⟨by omega, by omega, by omega⟩, heap_setCell_other W1 ⟨ba, 1, none⟩ k v (by show k ≠ ba; omega)⟩
set_option maxRecDepth 100000 in
theorem patom1_any {n b e N br ba kt : Nat} {ko : Obj} {nm : List UInt8} {w0 W : World} {L : List Wd} {zs : List _} (hG : AtG N b br ba kt ko nm W zs) (hO : Only N b w0 W) (h : Rp n W b L e) (hn : n ≤ N) :
    Calls Tryd.prog 32 #[.pointer (some ⟨br, 0, none⟩), .pointer (some ⟨ba, 0, none⟩)] W (InEnd (sepL (isM [44]) termR) n b e N (AtG N b br ba kt ko nm) w0 L) := by
  have HG := Lib.hid hG
  have HO := Lib.hid hO
  have HR := Lib.hid h
  have hc : W.cell? ⟨br, 0, none⟩ = some (rdp b) := cell_of_row W br 0 _ _ (0, 0) hG.2.2.2.2.2.1
  clear hG hO h
  go_enter Tryd.func32, Tryd.ntmps32
  go_wp2_with fail
  refine (plistTm_any HR.out).mono ?_
  rintro y w1 ⟨ht, ⟨a, L1, v, hp, hs, rfl, hv, hr⟩ | ⟨L1, hp, hs, rfl⟩⟩
  rotate_left
  · have HE := Lib.hid (And.intro ht (And.intro hp hs))
    clear ht hp hs
    go_wp2_with fail
    exact ⟨rfl, HO.out.on HE.out.1, .inr ⟨L1, HE.out.2.1, HE.out.2.2, rfl⟩⟩
  obtain ⟨pv, cv, rfl, -⟩ := id hv
  have HE := Lib.hid (And.intro ht (And.intro hp (And.intro hs (And.intro hv hr))))
  obtain ⟨-, ⟨u, h3, -⟩, -⟩ := HG.out.on ht
  have c1 : w1.cell? ⟨ba, 1, none⟩ = some u := cell_of_row w1 ba 1 _ _ (0, 0) h3
  have f1 : w1.frozen? ⟨ba, 1, none⟩ = false := frozen_of_row w1 ba 1 _ _ h3
  clear ht hp hs hv hr h3
  go_wp2_with fail
  obtain ⟨ht, hp, hs, hv, hr⟩ := HE.out
  exact bodyPost_end (results_none rfl _ _ _) rfl ⟨(HO.out.on ht).set HG.out.1.1 _ _, .inl ⟨a, L1, hp, hs, rfl, HG.out.put ht rfl hv, hr.set (Nat.le_trans hn HG.out.1.1) _ _⟩⟩
end
section
open Go Go.RowKit Go.Shelf

set_option maxRecDepth 100000 in
set_option maxHeartbeats 2000000 in
theorem plistTy_any {W : World} {n b e : Nat} {L : List Wd} (h : Rp n W b L e) : Calls Tryd.prog 38 #[rdp b, .func (.func 39) #[rdp b] #[]] W (PEnd (sepL (isM [44]) kindR) (rowT tyY) n b e L W) := by
  have HR := Lib.hid h
  have HEat := Lib.hid (fit_kind.eats)
  have hnW := h.below_
  have hbn := h.at_
  clear h
  go_enter Tryd.func38, Tryd.ntmps38
  go_wp2_with fail
  refine (ptyped_any HR.out).mono ?_
  rintro y w1 ⟨ht, ⟨a, L1, v, hp, hs, rfl, hv, hr⟩ | ⟨L1, hp, hs, rfl⟩⟩
  rotate_left
  · have HE := Lib.hid (And.intro ht (And.intro hp hs))
    clear ht hp hs
    go_wp2_with fail
    exact ⟨rfl, HE.out.1, .inr ⟨L1, sep_bad HEat.out HE.out.2.1, HE.out.2.2, rfl⟩⟩
  obtain rfl : v = .int .i64 a := hv
  have HJ0 : Hid (LsJ (isM [44]) kindR tyY 88 n b e L W (.slice (some ⟨w1.heap.size, 0, none⟩) 1 1) [a] L1 (w1.alloc (.cells #[.int .i64 a] 88))) := Lib.hid
    ⟨RowOwn.lit (us := [.int .i64 a]) ht.size rfl, hr.alloc _, ((Only.refl b W).on ht).alloc _, hs, sep_first HEat.out hp, by have := eats_len HEat.out hp; simp; omega⟩
  clear ht hp hs hr
  go_wp2_with fail
  go_loopw [5] (fun v wr => ∃ zs L2, Hid (LsJ (isM [44]) kindR tyY 88 n b e L W v zs L2 wr)) (fun _ wr => leftW wr b)
  case atStart => exact ⟨_, _, HJ0⟩
  case round =>
    obtain ⟨zs, L2, HJ⟩ := hrel
    go_wp2_with fail
    refine (pmay_any [44] (by decide) HJ.out.rd).mono ?_
    rintro y w2 ⟨ht, ⟨x, L3, rfl, hx, rfl, hr⟩ | ⟨hx, rfl, hr⟩⟩
    · have HE := Lib.hid (And.intro ht (And.intro hr hx))
      clear ht hr hx
      go_wp2_with fail
      refine (ptyped_any HE.out.2.1).mono ?_
      rintro y w3 ⟨ht, ⟨a, L4, v1, hp, hs, rfl, hv, hr⟩ | ⟨L4, hp, hs, rfl⟩⟩
      rotate_left
      · have HE4 := Lib.hid (And.intro ht (And.intro hp hs))
        clear ht hp hs
        go_wp2_with fail
        have hq : nxt (isM [44]) (keys (x :: L3)) = true := by rw [nxt_mark HJ.out.rd.tidy rfl]; simp [txt, HE.out.2.2]
        exact ⟨rfl, Only.turned ((HJ.out.only.on HE.out.1).on HE4.out.1), .inr ⟨L4, HJ.out.eq.trans (cont_bad HEat.out hq HE4.out.2.1), HE4.out.2.2.trans ((List.suffix_cons x L3).trans HJ.out.suf), rfl⟩⟩
      obtain rfl : v1 = .int .i64 a := hv
      have HW := Lib.hid (And.intro ht (And.intro hp (And.intro hs hr)))
      clear ht hp hs hr
      have hlenA : zs.length ≤ 1000000 := by have := HJ.out.len; have := HR.out.len; simp at *; omega
      have hsz3 : W.heap.size ≤ w3.heap.size := Nat.le_trans HJ.out.only.size (Nat.le_trans HE.out.1.size HW.out.1.size)
      have HOw : Hid (RowOwn tyY 88 W.heap.size (w3.alloc (.cells #[.int .i64 a] 88)) u5 zs) := Lib.hid (((HJ.out.own.turned HE.out.1 (fun k hB _ e => by omega)).turned HW.out.1 (fun k hB _ e => by omega)).keep (by simp) fun k _ hk => Below.heap_alloc _ _ _ hk)
      have HIs : Hid (tyY.is (fun k => W.heap.size ≤ k ∧ u5.ownBlock ≠ some k) (w3.alloc (.cells #[.int .i64 a] 88)) [.int .i64 a] a) := Lib.hid rfl
      have hsz3' : W.heap.size ≤ (w3.alloc (.cells #[.int .i64 a] 88)).heap.size := by simp; omega
      have HCl : Hid (∀ j u', ([.int .i64 a] : List Value)[j]? = some u' → (w3.alloc (.cells #[.int .i64 a] 88)).cell? ⟨w3.heap.size, 0 + j, none⟩ = some u') := Lib.hid (lit_rowcells w3 [.int .i64 a] _)
      go_wp2_with (at_builtin; refine wpList_appY tyY rfl (.tmp 13) (.tmp 16) 60 88 rfl W.heap.size (.int .i64 0) 8 Tryd.underlying60 Tryd.infoTy rfl (by decide) (by decide) u5 zs a [.int .i64 a] w3.heap.size 1 rfl rfl HOw.out HIs.out HCl.out hlenA hsz3' ?_; intro v2 w4 ho hg hv2; have HN := Lib.hid (And.intro ho hg); clear ho hg hv2)
      go_roundw
      case rel =>
        obtain ⟨ho, hg⟩ := HN.out
        obtain ⟨ht, hp, hs, hr⟩ := HW.out
        have hq : nxt (isM [44]) (keys (x :: L3)) = true := by rw [nxt_mark HJ.out.rd.tidy rfl]; simp [txt, HE.out.2.2]
        have htg := Turned.of_grown hg
        have hlo : ∀ k, u5.ownBlock = some k → W.heap.size ≤ k := fun k e => (HJ.out.own.lt k e).1
        refine ⟨zs ++ [a], L4, Lib.hid ⟨ho, (hr.alloc _).turned htg fun k e => by have := hlo k e; omega, (((HJ.out.only.on HE.out.1).on ht).alloc _).call htg fun k e => .inr (hlo k e), hs.trans ((List.suffix_cons x L3).trans HJ.out.suf), HJ.out.eq.trans (cont_next HEat.out hq hp), ?_⟩⟩
        have h1 := eats_len HEat.out hp
        have h2 := HJ.out.len
        simp at h2 ⊢
        omega
      case measure =>
        obtain ⟨ho, hg⟩ := HN.out
        obtain ⟨ht, hp, hs, hr⟩ := HW.out
        have htg := Turned.of_grown hg
        have hlo : ∀ k, u5.ownBlock = some k → W.heap.size ≤ k := fun k e => (HJ.out.own.lt k e).1
        have h3 := ((hr.alloc (.cells #[.int .i64 a] 88)).turned htg fun k e => by have := hlo k e; omega).left
        rw [h3, HJ.out.rd.left]
        have h1 := eats_len HEat.out hp
        simp
        omega
    · have HE := Lib.hid (And.intro ht (And.intro hr hx))
      clear ht hr hx
      go_wp2_with fail
      go_ret
      have hq : nxt (isM [44]) (keys L2) = false := by rw [nxt_mark HJ.out.rd.tidy rfl]; simpa using HE.out.2.2
      exact ⟨Only.turned (HJ.out.only.on HE.out.1), .inl ⟨zs, L2, u5, HJ.out.eq.trans (cont_end hq), HJ.out.suf, rfl, (HJ.out.own.turned HE.out.1 (fun k hB _ e => by omega)).in_, HE.out.2.1⟩⟩
end
section
open Go Go.RowKit Go.Shelf

def DeG (N b br ba kt : Nat) (ko : Obj) (nm : List UInt8) (ba_ : Bool) (W : World) (zs : List Int) : Prop :=
  (N ≤ ba ∧ ba < W.heap.size ∧ b < N) ∧ (∃ u, W.heap[ba]? = some (.cells #[.string ⟨nm.toArray⟩, .bool ba_, u] 62 (0, 0)) ∧ RowIn tyY (fun k => N ≤ k ∧ k ≠ ba ∧ k ≠ kt) W u zs) ∧ N ≤ br ∧ br < W.heap.size ∧ br ≠ ba ∧ W.heap[br]? = some (.cells #[rdp b] 45 (0, 0)) ∧ (kt ≠ ba ∧ kt ≠ b ∧ kt < W.heap.size ∧ W.heap[kt]? = some ko)
theorem DeG.on {N b br ba kt : Nat} {ko : Obj} {nm : List UInt8} {ba_ : Bool} {W W' : World} {zs : List Int} (h : DeG N b br ba kt ko nm ba_ W zs) (ht : Turned (fun k => k = b) W W') : DeG N b br ba kt ko nm ba_ W' zs := by
  obtain ⟨⟨h1, h2, h0⟩, ⟨u, h3, h4⟩, h5, h6, h7, h8, k1, k2, k3, k4⟩ := h
  exact ⟨⟨h1, Nat.lt_of_lt_of_le h2 ht.size, h0⟩, ⟨u, (ht.block ba h2 (by omega)).trans h3, h4.turned ht fun k e e2 => by omega⟩, h5, Nat.lt_of_lt_of_le h6 ht.size, h7, (ht.block br h6 (by omega)).trans h8, k1, k2, Nat.lt_of_lt_of_le k3 ht.size, (ht.block kt k3 k2).trans k4⟩
theorem DeG.put {N b br ba kt n0 : Nat} {ko : Obj} {nm : List UInt8} {ba_ : Bool} {W W1 : World} {zs zs' : List _} {v : Value} (h : DeG N b br ba kt ko nm ba_ W zs) (ht : Turned (fun k => k = b) W W1) (hn : n0 = W.heap.size) (hv : RowIn tyY (fun k => n0 ≤ k) W1 v zs') : DeG N b br ba kt ko nm ba_ (W1.setCell ⟨ba, 2, none⟩ v) zs' := by
  obtain ⟨⟨h1, h2, h0⟩, ⟨u, h3, h4⟩, h5, h6, h7, h8, k1, k2, k3, k4⟩ := h.on ht
  have hlt := h.1.2.1
  have hkt := h.2.2.2.2.2.2.2.2.1
  refine ⟨⟨h1, by simpa using h2, h0⟩, ⟨v, heap_setCell_same W1 ba 2 _ _ v h3, ?_⟩, h5, by simpa using h6, h7, (heap_setCell_other W1 ⟨ba, 2, none⟩ br v (by show br ≠ ba; omega)).trans h8, k1, k2, by simpa using k3, (heap_setCell_other W1 ⟨ba, 2, none⟩ kt v k1).trans k4⟩
  exact hv.keep (by simp) fun k e hk => ⟨⟨by omega, by omega, by omega⟩, heap_setCell_other W1 ⟨ba, 2, none⟩ k v (by show k ≠ ba; omega)⟩
set_option maxRecDepth 100000 in
theorem pdecl1_any {n b e N br ba kt : Nat} {ko : Obj} {nm : List UInt8} {ba_ : Bool} {w0 W : World} {L : List Wd} {zs : List _} (hG : DeG N b br ba kt ko nm ba_ W zs) (hO : Only N b w0 W) (h : Rp n W b L e) (hn : n ≤ N) :
    Calls Tryd.prog 37 #[.pointer (some ⟨br, 0, none⟩), .pointer (some ⟨ba, 0, none⟩)] W (InEnd (sepL (isM [44]) kindR) n b e N (DeG N b br ba kt ko nm ba_) w0 L) := by
  have HG := Lib.hid hG
  have HO := Lib.hid hO
  have HR := Lib.hid h
  have hc : W.cell? ⟨br, 0, none⟩ = some (rdp b) := cell_of_row W br 0 _ _ (0, 0) hG.2.2.2.2.2.1
  clear hG hO h
  go_enter Tryd.func37, Tryd.ntmps37
  go_wp2_with fail
  refine (plistTy_any HR.out).mono ?_
  rintro y w1 ⟨ht, ⟨a, L1, v, hp, hs, rfl, hv, hr⟩ | ⟨L1, hp, hs, rfl⟩⟩
  rotate_left
  · have HE := Lib.hid (And.intro ht (And.intro hp hs))
    clear ht hp hs
    go_wp2_with fail
    exact ⟨rfl, HO.out.on HE.out.1, .inr ⟨L1, HE.out.2.1, HE.out.2.2, rfl⟩⟩
  obtain ⟨pv, cv, rfl, -⟩ := id hv
  have HE := Lib.hid (And.intro ht (And.intro hp (And.intro hs (And.intro hv hr))))
  obtain ⟨-, ⟨u, h3, -⟩, -⟩ := HG.out.on ht
  have c1 : w1.cell? ⟨ba, 2, none⟩ = some u := cell_of_row w1 ba 2 _ _ (0, 0) h3
  have f1 : w1.frozen? ⟨ba, 2, none⟩ = false := frozen_of_row w1 ba 2 _ _ h3
  clear ht hp hs hv hr h3
  go_wp2_with fail
  obtain ⟨ht, hp, hs, hv, hr⟩ := HE.out
  exact bodyPost_end (results_none rfl _ _ _) rfl ⟨(HO.out.on ht).set HG.out.1.1 _ _, .inl ⟨a, L1, hp, hs, rfl, HG.out.put ht rfl hv, hr.set (Nat.le_trans hn HG.out.1.1) _ _⟩⟩
end
section
open Go Go.RowKit Go.Shelf

set_option maxRecDepth 100000 in
set_option maxHeartbeats 2000000 in
theorem plistPa_any {W : World} {n b e : Nat} {L : List Wd} (h : Rp n W b L e) : Calls Tryd.prog 41 #[rdp b, .func (.func 42) #[rdp b] #[]] W (PEnd (sepL (isM [44]) paramR) (rowT paY) n b e L W) := by
  have HR := Lib.hid h
  have HEat := Lib.hid (fit_param.eats)
  have hnW := h.below_
  have hbn := h.at_
  clear h
  go_enter Tryd.func41, Tryd.ntmps41
  go_wp2_with fail
  refine (pparam_any HR.out).mono ?_
  rintro y w1 ⟨ht, ⟨a, L1, v, hp, hs, rfl, hv, hr⟩ | ⟨L1, hp, hs, rfl⟩⟩
  rotate_left
  · have HE := Lib.hid (And.intro ht (And.intro hp hs))
    clear ht hp hs
    go_wp2_with fail
    exact ⟨rfl, HE.out.1, .inr ⟨L1, sep_bad HEat.out HE.out.2.1, HE.out.2.2, rfl⟩⟩
  obtain rfl : v = .agg #[.string ⟨a.1.toArray⟩, .int .i64 a.2] := hv
  have HJ0 : Hid (LsJ (isM [44]) paramR paY 90 n b e L W (.slice (some ⟨w1.heap.size, 0, none⟩) 1 1) [a] L1 (w1.alloc (.cells #[.string ⟨a.1.toArray⟩, .int .i64 a.2] 90))) := Lib.hid
    ⟨RowOwn.lit (us := [.string ⟨a.1.toArray⟩, .int .i64 a.2]) ht.size rfl, hr.alloc _, ((Only.refl b W).on ht).alloc _, hs, sep_first HEat.out hp, by have := eats_len HEat.out hp; simp; omega⟩
  clear ht hp hs hr
  go_wp2_with fail
  go_loopw [5] (fun v wr => ∃ zs L2, Hid (LsJ (isM [44]) paramR paY 90 n b e L W v zs L2 wr)) (fun _ wr => leftW wr b)
  case atStart => exact ⟨_, _, HJ0⟩
  case round =>
    obtain ⟨zs, L2, HJ⟩ := hrel
    go_wp2_with fail
    refine (pmay_any [44] (by decide) HJ.out.rd).mono ?_
    rintro y w2 ⟨ht, ⟨x, L3, rfl, hx, rfl, hr⟩ | ⟨hx, rfl, hr⟩⟩
    · have HE := Lib.hid (And.intro ht (And.intro hr hx))
      clear ht hr hx
      go_wp2_with fail
      refine (pparam_any HE.out.2.1).mono ?_
      rintro y w3 ⟨ht, ⟨a, L4, v1, hp, hs, rfl, hv, hr⟩ | ⟨L4, hp, hs, rfl⟩⟩
      rotate_left
      · have HE4 := Lib.hid (And.intro ht (And.intro hp hs))
        clear ht hp hs
        go_wp2_with fail
        have hq : nxt (isM [44]) (keys (x :: L3)) = true := by rw [nxt_mark HJ.out.rd.tidy rfl]; simp [txt, HE.out.2.2]
        exact ⟨rfl, Only.turned ((HJ.out.only.on HE.out.1).on HE4.out.1), .inr ⟨L4, HJ.out.eq.trans (cont_bad HEat.out hq HE4.out.2.1), HE4.out.2.2.trans ((List.suffix_cons x L3).trans HJ.out.suf), rfl⟩⟩
      obtain rfl : v1 = .agg #[.string ⟨a.1.toArray⟩, .int .i64 a.2] := hv
      have HW := Lib.hid (And.intro ht (And.intro hp (And.intro hs hr)))
      clear ht hp hs hr
      have hlenA : zs.length ≤ 1000000 := by have := HJ.out.len; have := HR.out.len; simp at *; omega
      have hsz3 : W.heap.size ≤ w3.heap.size := Nat.le_trans HJ.out.only.size (Nat.le_trans HE.out.1.size HW.out.1.size)
      have HOw : Hid (RowOwn paY 90 W.heap.size (w3.alloc (.cells #[.string ⟨a.1.toArray⟩, .int .i64 a.2] 90)) u5 zs) := Lib.hid (((HJ.out.own.turned HE.out.1 (fun k hB _ e => by omega)).turned HW.out.1 (fun k hB _ e => by omega)).keep (by simp) fun k _ hk => Below.heap_alloc _ _ _ hk)
      have HIs : Hid (paY.is (fun k => W.heap.size ≤ k ∧ u5.ownBlock ≠ some k) (w3.alloc (.cells #[.string ⟨a.1.toArray⟩, .int .i64 a.2] 90)) [.string ⟨a.1.toArray⟩, .int .i64 a.2] a) := Lib.hid rfl
      have hsz3' : W.heap.size ≤ (w3.alloc (.cells #[.string ⟨a.1.toArray⟩, .int .i64 a.2] 90)).heap.size := by simp; omega
      have HCl : Hid (∀ j u', ([.string ⟨a.1.toArray⟩, .int .i64 a.2] : List Value)[j]? = some u' → (w3.alloc (.cells #[.string ⟨a.1.toArray⟩, .int .i64 a.2] 90)).cell? ⟨w3.heap.size, 0 + j, none⟩ = some u') := Lib.hid (lit_rowcells w3 [.string ⟨a.1.toArray⟩, .int .i64 a.2] _)
      go_wp2_with (at_builtin; refine wpList_appY paY rfl (.tmp 13) (.tmp 16) 64 90 rfl W.heap.size (.agg #[.string ⟨#[]⟩, .int .i64 0]) 24 Tryd.underlying64 Tryd.infoPa rfl (by decide) (by decide) u5 zs a [.string ⟨a.1.toArray⟩, .int .i64 a.2] w3.heap.size 1 rfl rfl HOw.out HIs.out HCl.out hlenA hsz3' ?_; intro v2 w4 ho hg hv2; have HN := Lib.hid (And.intro ho hg); clear ho hg hv2)
      go_roundw
      case rel =>
        obtain ⟨ho, hg⟩ := HN.out
        obtain ⟨ht, hp, hs, hr⟩ := HW.out
        have hq : nxt (isM [44]) (keys (x :: L3)) = true := by rw [nxt_mark HJ.out.rd.tidy rfl]; simp [txt, HE.out.2.2]
        have htg := Turned.of_grown hg
        have hlo : ∀ k, u5.ownBlock = some k → W.heap.size ≤ k := fun k e => (HJ.out.own.lt k e).1
        refine ⟨zs ++ [a], L4, Lib.hid ⟨ho, (hr.alloc _).turned htg fun k e => by have := hlo k e; omega, (((HJ.out.only.on HE.out.1).on ht).alloc _).call htg fun k e => .inr (hlo k e), hs.trans ((List.suffix_cons x L3).trans HJ.out.suf), HJ.out.eq.trans (cont_next HEat.out hq hp), ?_⟩⟩
        have h1 := eats_len HEat.out hp
        have h2 := HJ.out.len
        simp at h2 ⊢
        omega
      case measure =>
        obtain ⟨ho, hg⟩ := HN.out
        obtain ⟨ht, hp, hs, hr⟩ := HW.out
        have htg := Turned.of_grown hg
        have hlo : ∀ k, u5.ownBlock = some k → W.heap.size ≤ k := fun k e => (HJ.out.own.lt k e).1
        have h3 := ((hr.alloc (.cells #[.string ⟨a.1.toArray⟩, .int .i64 a.2] 90)).turned htg fun k e => by have := hlo k e; omega).left
        rw [h3, HJ.out.rd.left]
        have h1 := eats_len HEat.out hp
        simp
        omega
    · have HE := Lib.hid (And.intro ht (And.intro hr hx))
      clear ht hr hx
      go_wp2_with fail
      go_ret
      have hq : nxt (isM [44]) (keys L2) = false := by rw [nxt_mark HJ.out.rd.tidy rfl]; simpa using HE.out.2.2
      exact ⟨Only.turned (HJ.out.only.on HE.out.1), .inl ⟨zs, L2, u5, HJ.out.eq.trans (cont_end hq), HJ.out.suf, rfl, (HJ.out.own.turned HE.out.1 (fun k hB _ e => by omega)).in_, HE.out.2.1⟩⟩
end
section
open Go Go.RowKit Go.Shelf

def OnG (N b br ba kt : Nat) (ko : Obj) (nm : List UInt8) (W : World) (zs : List (List UInt8 × Int)) : Prop :=
  (N ≤ ba ∧ ba < W.heap.size ∧ b < N) ∧ (∃ u, W.heap[ba]? = some (.cells #[.string ⟨nm.toArray⟩, u, .slice none 0 0] 67 (0, 0)) ∧ RowIn paY (fun k => N ≤ k ∧ k ≠ ba ∧ k ≠ kt) W u zs) ∧ N ≤ br ∧ br < W.heap.size ∧ br ≠ ba ∧ W.heap[br]? = some (.cells #[rdp b] 45 (0, 0)) ∧ (kt ≠ ba ∧ kt ≠ b ∧ kt < W.heap.size ∧ W.heap[kt]? = some ko)
theorem OnG.on {N b br ba kt : Nat} {ko : Obj} {nm : List UInt8} {W W' : World} {zs : List (List UInt8 × Int)} (h : OnG N b br ba kt ko nm W zs) (ht : Turned (fun k => k = b) W W') : OnG N b br ba kt ko nm W' zs := by
  obtain ⟨⟨h1, h2, h0⟩, ⟨u, h3, h4⟩, h5, h6, h7, h8, k1, k2, k3, k4⟩ := h
  exact ⟨⟨h1, Nat.lt_of_lt_of_le h2 ht.size, h0⟩, ⟨u, (ht.block ba h2 (by omega)).trans h3, h4.turned ht fun k e e2 => by omega⟩, h5, Nat.lt_of_lt_of_le h6 ht.size, h7, (ht.block br h6 (by omega)).trans h8, k1, k2, Nat.lt_of_lt_of_le k3 ht.size, (ht.block kt k3 k2).trans k4⟩
theorem OnG.put {N b br ba kt n0 : Nat} {ko : Obj} {nm : List UInt8} {W W1 : World} {zs zs' : List _} {v : Value} (h : OnG N b br ba kt ko nm W zs) (ht : Turned (fun k => k = b) W W1) (hn : n0 = W.heap.size) (hv : RowIn paY (fun k => n0 ≤ k) W1 v zs') : OnG N b br ba kt ko nm (W1.setCell ⟨ba, 1, none⟩ v) zs' := by
  obtain ⟨⟨h1, h2, h0⟩, ⟨u, h3, h4⟩, h5, h6, h7, h8, k1, k2, k3, k4⟩ := h.on ht
  have hlt := h.1.2.1
  have hkt := h.2.2.2.2.2.2.2.2.1
  refine ⟨⟨h1, by simpa using h2, h0⟩, ⟨v, heap_setCell_same W1 ba 1 _ _ v h3, ?_⟩, h5, by simpa using h6, h7, (heap_setCell_other W1 ⟨ba, 1, none⟩ br v (by show br ≠ ba; omega)).trans h8, k1, k2, by simpa using k3, (heap_setCell_other W1 ⟨ba, 1, none⟩ kt v k1).trans k4⟩
  exact hv.keep (by simp) fun k e hk => ⟨⟨by omega, by omega, by omega⟩, heap_setCell_other W1 ⟨ba, 1, none⟩ k v (by show k ≠ ba; omega)⟩
set_option maxRecDepth 100000 in
theorem pon1_any {n b e N br ba kt : Nat} {ko : Obj} {nm : List UInt8} {w0 W : World} {L : List Wd} {zs : List _} (hG : OnG N b br ba kt ko nm W zs) (hO : Only N b w0 W) (h : Rp n W b L e) (hn : n ≤ N) :
    Calls Tryd.prog 40 #[.pointer (some ⟨br, 0, none⟩), .pointer (some ⟨ba, 0, none⟩)] W (InEnd (sepL (isM [44]) paramR) n b e N (OnG N b br ba kt ko nm) w0 L) := by
  have HG := Lib.hid hG
  have HO := Lib.hid hO
  have HR := Lib.hid h
  have hc : W.cell? ⟨br, 0, none⟩ = some (rdp b) := cell_of_row W br 0 _ _ (0, 0) hG.2.2.2.2.2.1
  clear hG hO h
  go_enter Tryd.func40, Tryd.ntmps40
  go_wp2_with fail
  refine (plistPa_any HR.out).mono ?_
  rintro y w1 ⟨ht, ⟨a, L1, v, hp, hs, rfl, hv, hr⟩ | ⟨L1, hp, hs, rfl⟩⟩
  rotate_left
  · have HE := Lib.hid (And.intro ht (And.intro hp hs))
    clear ht hp hs
    go_wp2_with fail
    exact ⟨rfl, HO.out.on HE.out.1, .inr ⟨L1, HE.out.2.1, HE.out.2.2, rfl⟩⟩
  obtain ⟨pv, cv, rfl, -⟩ := id hv
  have HE := Lib.hid (And.intro ht (And.intro hp (And.intro hs (And.intro hv hr))))
  obtain ⟨-, ⟨u, h3, -⟩, -⟩ := HG.out.on ht
  have c1 : w1.cell? ⟨ba, 1, none⟩ = some u := cell_of_row w1 ba 1 _ _ (0, 0) h3
  have f1 : w1.frozen? ⟨ba, 1, none⟩ = false := frozen_of_row w1 ba 1 _ _ h3
  clear ht hp hs hv hr h3
  go_wp2_with fail
  obtain ⟨ht, hp, hs, hv, hr⟩ := HE.out
  exact bodyPost_end (results_none rfl _ _ _) rfl ⟨(HO.out.on ht).set HG.out.1.1 _ _, .inl ⟨a, L1, hp, hs, rfl, HG.out.put ht rfl hv, hr.set (Nat.le_trans hn HG.out.1.1) _ _⟩⟩
end
section
open Go Go.RowKit Go.Shelf

abbrev zA : Obj := .cells #[.string ⟨#[]⟩, .slice none 0 0] 25
theorem atomR_eq : atomR = bindR nameR fun nm => bindR (encR (sepL (isM [44]) termR)) fun zs => pureR ⟨nm, zs⟩ := by
  funext l
  unfold atomR encR rowR bindR
  simp only
  cases nameR l with
  | bad r => rfl
  | ok nm r =>
    simp only [Rs.bind]
    cases markR [40] r with
    | bad r => rfl
    | ok u r =>
      cases altR (isM [41]) (pureR []) (sepL (isM [44]) termR) r with
      | bad r => rfl
      | ok zs r =>
        cases markR [41] r <;> rfl
set_option maxRecDepth 100000 in
set_option maxHeartbeats 2000000 in
theorem patom_any {W : World} {n b e : Nat} {L : List Wd} (h : Rp n W b L e) : Calls Tryd.prog 19 #[rdp b] W (PEnd atomR atT n b e L W) := by
  have HR := Lib.hid h
  have hnW := h.below_
  have hlt := h.lt
  clear h
  go_enter Tryd.func19, Tryd.ntmps19
  go_wp2_with fail
  refine (pname_any ((HR.out.alloc (.cells #[rdp b] 45)).alloc zA)).mono ?_
  rintro y w1 ⟨ht, ⟨nm, L1, v, hp, hs, rfl, hv, hr⟩ | ⟨L1, hp, hs, rfl⟩⟩
  rotate_left
  · have HE := Lib.hid (And.intro ht (And.intro hp hs))
    clear ht hp hs
    go_wp2_with fail
    exact ⟨rfl, Only.turned ((((Only.refl b W).alloc _).alloc _).on HE.out.1), .inr ⟨L1, by rw [atomR_eq]; exact bind_bad HE.out.2.1, HE.out.2.2, rfl⟩⟩
  obtain rfl : v = .string ⟨nm.toArray⟩ := hv
  have hz : W.heap.size + 2 ≤ w1.heap.size := by have := ht.size; simp at this; omega
  have hr0 : w1.heap[W.heap.size]? = some (.cells #[rdp b] 45 (0, 0)) := (ht.block _ (by simp; omega) (by omega)).trans (two_new W _ zA).1
  have hr1 : w1.heap[W.heap.size + 1]? = some zA := (ht.block _ (by simp) (by omega)).trans (two_new W (.cells #[rdp b] 45) zA).2
  have c0 : w1.cell? ⟨W.heap.size, 0, none⟩ = some (rdp b) := cell_of_row w1 _ 0 _ _ (0, 0) hr0
  have hz0 : W.heap.size < w1.heap.size := by omega
  have HO1 : Hid (Only W.heap.size b W (w1.alloc (.cells #[.string ⟨nm.toArray⟩, .slice none 0 0] 25))) := Lib.hid (((((Only.refl b W).alloc _).alloc _).on ht).alloc _)
  have HR1 := Lib.hid (hr.alloc (.cells #[.string ⟨nm.toArray⟩, .slice none 0 0] 25))
  have HP := Lib.hid (And.intro hp hs)
  have HG : Hid (AtG W.heap.size b W.heap.size w1.heap.size (W.heap.size + 1) zA nm (w1.alloc (.cells #[.string ⟨nm.toArray⟩, .slice none 0 0] 25)) []) := Lib.hid
    ⟨⟨by omega, by simp, hlt⟩, ⟨.slice none 0 0, heap_alloc_new _ _, RowIn.nil _ _ _⟩, Nat.le_refl _, by simp; omega, by omega, (Below.heap_alloc _ _ _ hz0).trans hr0, by omega, by omega, by simp; omega, (Below.heap_alloc _ _ _ (by omega)).trans hr1⟩
  clear ht hp hs hr hr0 hr1
  go_wp2_with fail
  refine (penclosed_any (sepL (isM [44]) termR) 32 #[.pointer (some ⟨W.heap.size, 0, none⟩), .pointer (some ⟨w1.heap.size, 0, none⟩)] (fun _ _ => by kernel_rfl) HR1.out HO1.out HG.out (fun _ _ _ h ht => h.on ht) (fun _ _ ho hg hr => patom1_any hg ho hr hnW)).mono ?_
  rintro y w2 ⟨ho, ⟨zs, L2, hp, hs, rfl, hg, hr⟩ | ⟨L2, hp, hs, rfl⟩⟩
  · have HE := Lib.hid (And.intro ho (And.intro hp (And.intro hs hr)))
    obtain ⟨⟨g1, g2, -⟩, ⟨u, g3, g4⟩, -, -, -, -, -, -, k3, k4⟩ := hg
    obtain ⟨⟨a0, a1⟩, -⟩ := cells2 g3
    obtain ⟨⟨q0, q1⟩, f0, f1⟩ := cells2 k4
    have HK := Lib.hid k4
    have HV := Lib.hid g4
    obtain ⟨pu, cu, rfl, -⟩ := id g4
    clear ho hp hs hr g3 g4 k4 c0
    go_wp2_with fail
    refine bodyPost_ret (results_cell_row (fn := Tryd.f19) (by rfl) _ _ _ _ _ _ _ (by rfl) (row2_set HK.out) Tryd.underlying25 (by rfl) (by kernel_rfl)) (by rfl) ?_
    obtain ⟨ho, hp, hs, hr⟩ := HE.out
    refine ⟨Only.turned ((ho.set (Nat.le_succ _) _ _).set (Nat.le_succ _) _ _), .inl ⟨⟨nm, zs⟩, L2, _, ?_, hs.trans HP.out.2, rfl, ⟨_, rfl, ?_⟩, (hr.set (by omega) _ _).set (by omega) _ _⟩⟩
    · rw [atomR_eq]
      exact (bind_ok HP.out.1).trans ((bind_ok hp).trans rfl)
    · exact HV.out.keep (by simp) fun k e hk => ⟨e.1, (heap_setCell_other _ ⟨W.heap.size + 1, 1, none⟩ k _ (by show k ≠ W.heap.size + 1; omega)).trans (heap_setCell_other _ ⟨W.heap.size + 1, 0, none⟩ k _ (by show k ≠ W.heap.size + 1; omega))⟩
  · have HE := Lib.hid (And.intro ho (And.intro hp hs))
    clear ho hp hs
    go_wp2_with fail
    exact ⟨rfl, Only.turned HE.out.1, .inr ⟨L2, by rw [atomR_eq]; exact (bind_ok HP.out.1).trans (bind_bad HE.out.2.1), HE.out.2.2.trans HP.out.2, rfl⟩⟩
end
end Go.Proofs.YtmnbbbkikbcbjaaDoor
