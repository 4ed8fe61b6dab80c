/-
  The document's print: rules.
  The document's print: declarations.
  The document's print: what an event does.
  The document's print: events.
-/
import Derived.Test.YtlbofeidiclhgaaGreatDoorJ13
namespace Go.Proofs.YtlbofeidiclhgaaGreatDoor
section
open Go Go.RowKit Go.Shelf

set_option maxRecDepth 100000 in
set_option maxHeartbeats 8000000 in
theorem rrule_any (R : RuL) (u x : Value) (S : Nat → Prop) (w : World) (h : RowIn tmY S w u R.head.args) (h2 : RowIn liY S w x R.body) (hs : SmR R) : Calls Tryz.prog 11 #[.agg #[.string ⟨R.head.pred.toArray⟩, u, x]] w (SayS 135000 (ruleP R) w) := by
  have HA : Hid (∀ W, Below w.heap.size w W → Calls Tryz.prog 30 #[.agg #[.string ⟨R.head.pred.toArray⟩, u]] W (SayS 14000 (atomP R.head) W)) := Lib.hid (fun W hb => ratom_any R.head u S W (h.in_below hb) hs.head)
  have HL : Hid (∀ (X : LiL) (u' : Value) (W : World), X ∈ R.body → RowIn tmY S W u' X.atom.args → Calls Tryz.prog 31 #[valLi X u'] W (SayS 15000 (litP X) W)) := Lib.hid (fun X u' W hm hr => rliteral_any X u' S W hr (hs.all_ X hm))
  have HI := Lib.hid h2
  obtain ⟨q, c, rfl⟩ := h.shape
  obtain ⟨p, c', rfl⟩ := h2.shape
  obtain ⟨L, hL⟩ : ∃ L, L = R.body := ⟨_, rfl⟩
  obtain ⟨n, hn⟩ : ∃ n, n = L.length := ⟨_, rfl⟩
  have hn8 : n ≤ 8 := by rw [hn, hL]; exact hs.few
  have HO : Hid (ruleP R = two (atomP R.head) (tailP [32, 58, 45, 32] litP L) fun a b => a ++ b ++ [46]) := Lib.hid (by unfold ruleP; rw [hL])
  have HNn := Lib.hid hn
  rw [← hL] at HI HL ⊢
  rw [← hn] at HI ⊢
  generalize ruleP R = o at *
  generalize atomP R.head = oh at *
  generalize (⟨R.head.pred.toArray⟩ : ByteArray) = nm at *
  generalize R.head.args.length = m at *
  clear h h2 hs hL hn R
  have HB := Lib.hid (below_box w (.cells #[.string nm, .slice q m c, .slice p n c'] 27))
  go_enter Tryz.func11, Tryz.ntmps11
  go_wp2_with fail
  refine (HA.out _ HB.out).mono ?_
  intro y w0 hy
  have HB0 := Lib.hid (HB.out.trans (hy.2.mono HB.out.size))
  have hx := (hy.2.block w.heap.size (by simp)).trans (heap_alloc_new w (.cells #[.string nm, .slice q m c, .slice p n c'] 27))
  have HX := Lib.hid hx
  rcases hy.cases_ with ⟨sh, g1, g2, rfl, -⟩ | ⟨g1, rfl, -⟩
  rotate_left
  · have HW := Lib.hid (show o = none by rw [HO.out, g1]; cases tailP [32, 58, 45, 32] litP L <;> rfl)
    clear hy g1 hx
    go_wp2_with fail
    go_ret2
    exact .no HW.out HB0.out
  have HE0 := Lib.hid (And.intro g1 g2)
  clear hy g1 g2 hx
  go_wp2_with fail
  go_loopw [6, 7] (fun v i wr => ∃ (k : Nat) (ts : List (List UInt8)), k ≤ n ∧ i = .int .i64 k ∧ Hid (RtS litP 15000 L w0 k ts v wr)) (fun _ i _ => n - (intOf i).toNat)
  case atStart => exact ⟨0, [], Nat.zero_le _, rfl, Lib.hid (RtS.zero w0)⟩
  case round =>
    obtain ⟨k, ts, hk, rfl, HJ⟩ := hrel
    have h0 : (0 : Int) ≤ (k : Int) := by omega
    have hxr := (HJ.out.below.block w.heap.size (Array.getElem?_eq_some_iff.1 HX.out).1).trans HX.out
    have d2 := cell_at hxr 2 _ rfl
    clear hxr
    by_cases hlt : k < n
    · have hlt' : (k : Int) < (n : Int) := by omega
      have hkn : k < L.length := by rw [← HNn.out]; exact hlt
      obtain ⟨b, off, c1, us, e1, hbl, hu, hc⟩ := row_at HI.out hkn
      injection e1 with e1 hq1 hq2
      subst e1
      clear hq1 hq2
      have hmem : L[k] ∈ L := List.getElem_mem hkn
      obtain ⟨X, hX⟩ : ∃ X, X = L[k] := ⟨_, rfl⟩
      rw [← hX] at hu hmem
      have HXe := Lib.hid hX
      obtain ⟨u', rfl, hu'⟩ := hu
      have HXr := Lib.hid ((hu'.in_below HB0.out).in_below HJ.out.below)
      have HCa := Lib.hid (HL.out X u' wr hmem HXr.out)
      obtain ⟨pu, cu, rfl⟩ := hu'.shape
      have hbw : ∀ o, wr.cell? ⟨b, o, none⟩ = w.cell? ⟨b, o, none⟩ := fun o => (HJ.out.below.cell (p := ⟨b, o, none⟩) (Nat.lt_of_lt_of_le hbl HB0.out.size)).trans (HB0.out.cell (p := ⟨b, o, none⟩) hbl)
      have a0 : wr.cell? ⟨b, off + k * 14, none⟩ = some (.int .i64 X.kind) := (hbw _).trans (hc 0 _ rfl)
      have a1 : wr.cell? ⟨b, off + k * 14 + 1, none⟩ = some (.string ⟨X.atom.pred.toArray⟩) := (hbw _).trans (hc 1 _ rfl)
      have a2 : wr.cell? ⟨b, off + k * 14 + 2, none⟩ = some (.slice pu X.atom.args.length cu) := (hbw _).trans (hc 2 _ rfl)
      have a3 : wr.cell? ⟨b, off + k * 14 + 3, none⟩ = some (.int .i64 X.op) := (hbw _).trans (hc 3 _ rfl)
      have a4 : wr.cell? ⟨b, off + k * 14 + 4, none⟩ = some (.int .i64 X.a.kind) := (hbw _).trans (hc 4 _ rfl)
      have a5 : wr.cell? ⟨b, off + k * 14 + 5, none⟩ = some (.string ⟨X.a.name.toArray⟩) := (hbw _).trans (hc 5 _ rfl)
      have a6 : wr.cell? ⟨b, off + k * 14 + 6, none⟩ = some (.int .i64 X.a.val.1) := (hbw _).trans (hc 6 _ rfl)
      have a7 : wr.cell? ⟨b, off + k * 14 + 7, none⟩ = some (.int .i64 X.a.val.2.1) := (hbw _).trans (hc 7 _ rfl)
      have a8 : wr.cell? ⟨b, off + k * 14 + 8, none⟩ = some (.string X.a.val.2.2) := (hbw _).trans (hc 8 _ rfl)
      have a9 : wr.cell? ⟨b, off + k * 14 + 9, none⟩ = some (.int .i64 X.b.kind) := (hbw _).trans (hc 9 _ rfl)
      have a10 : wr.cell? ⟨b, off + k * 14 + 10, none⟩ = some (.string ⟨X.b.name.toArray⟩) := (hbw _).trans (hc 10 _ rfl)
      have a11 : wr.cell? ⟨b, off + k * 14 + 11, none⟩ = some (.int .i64 X.b.val.1) := (hbw _).trans (hc 11 _ rfl)
      have a12 : wr.cell? ⟨b, off + k * 14 + 12, none⟩ = some (.int .i64 X.b.val.2.1) := (hbw _).trans (hc 12 _ rfl)
      have a13 : wr.cell? ⟨b, off + k * 14 + 13, none⟩ = some (.string X.b.val.2.2) := (hbw _).trans (hc 13 _ rfl)
      clear hX hmem hc hbw hbl hu'
      unfold valLi at HCa
      go_wp2_with fail
      refine HCa.out.mono ?_
      intro y w3 hy
      rcases hy.cases_ with ⟨r, g1, g2, rfl, g3⟩ | ⟨g1, rfl, g3⟩
      · have HE := Lib.hid (And.intro g1 g2)
        have HJ3 := Lib.hid (HJ.out.on g3)
        have HOw := Lib.hid (HJ3.out.lit r)
        have htl : ts.length ≤ 1000000 := by rw [row_len HJ.out.all_ (by omega)]; omega
        have hsz : w0.heap.size ≤ (w3.alloc (.cells #[.string r] 9)).heap.size := by have := HJ3.out.below.size; simp; omega
        clear hy g1 g2 g3 a0 a1 a2 a3 a4 a5 a6 a7 a8 a9 a10 a11 a12 a13 d2
        go_wp2_with (at_builtin; refine wpList_appY stY rfl (.tmp 38) (.tmp 40) 85 9 rfl w0.heap.size (.string ⟨#[]⟩) 16 Tryz.underlying85 Tryz.infoStg rfl (by decide) (by decide) u6 ts r.data.toList [.string r] w3.heap.size 1 rfl rfl HOw.out (st_is _ _ _ r) (lit_rowcells w3 [.string r] _) htl hsz ?_; intro v2 w4 ho hg hv2; have HNx := Lib.hid (HJ3.out.next hkn (by rw [← HXe.out]; exact HE.out.1) HE.out.2 ho hg); clear ho hg hv2)
        go_roundw
        case rel => exact ⟨k + 1, ts ++ [r.data.toList], by omega, by go_num, HNx⟩
        case measure => simp [intOf]; omega
      · have HE := Lib.hid (And.intro g1 (HB0.out.trans ((HJ.out.on g3).below.mono HB0.out.size)))
        clear hy g1 g3 a0 a1 a2 a3 a4 a5 a6 a7 a8 a9 a10 a11 a12 a13 d2
        go_wp2_with fail
        go_ret2
        refine .no ?_ HE.out.2
        have ht : tailP [32, 58, 45, 32] litP L = none := by
          unfold tailP
          rw [if_neg (by omega), row_none _ hkn (by rw [← HXe.out]; exact HE.out.1)]
          rfl
        rw [HO.out, ht, HE0.out.1]
        rfl
    · have hge : ¬ (k : Int) < (n : Int) := by omega
      obtain rfl : k = n := by omega
      have HR := Lib.hid (row_all [44, 32] HJ.out.all_ (by rw [← HNn.out]; exact Nat.le_refl _))
      have HTl := Lib.hid (row_len HJ.out.all_ (by rw [HNn.out]; exact Nat.le_refl _))
      obtain ⟨J, hJ⟩ : ∃ J : ByteArray, J = ⟨(joinS [44, 32] ts).toArray⟩ := ⟨_, rfl⟩
      have HJn : Hid (Calls Tryz.prog 32 #[u6, .string ⟨#[44, 32]⟩] wr fun e w' => e = .returned (.string J) ∧ Below wr.heap.size wr w') := Lib.hid (by
        rw [hJ]
        exact rjoin_any u6 ts _ ⟨#[44, 32]⟩ wr HJ.out.own.in_ (by have h1 := HJ.out.len (by rw [HNn.out]; exact Nat.le_refl _) [44, 32]; have h2 : k * (15000 + 2) ≤ 8 * (15000 + 2) := Nat.mul_le_mul_right _ (by omega); exact Nat.le_trans h1 (Nat.le_trans h2 (by decide))) (by rw [HTl.out]; omega))
      have HJl := Lib.hid (show J.data.toList = joinS [44, 32] ts by rw [hJ])
      have HJz := Lib.hid (show J.size ≤ 120016 by
        rw [hJ, str_len]
        have h1 := HJ.out.len (by rw [HNn.out]; exact Nat.le_refl _) [44, 32]
        have h2 : k * (15000 + 2) ≤ 8 * (15000 + 2) := Nat.mul_le_mul_right _ (by omega)
        exact Nat.le_trans h1 (Nat.le_trans h2 (by decide)))
      clear hJ
      have z1 : (⟨#[46]⟩ : ByteArray).size = 1 := rfl
      have z4 : (⟨#[32, 58, 45, 32]⟩ : ByteArray).size = 4 := rfl
      obtain ⟨p4, n4, c4, rfl, hn4⟩ : ∃ p n' c, u6 = .slice p n' c ∧ n' = ts.length := by obtain ⟨p4, c4, e⟩ := HJ.out.shape; exact ⟨_, _, _, e, rfl⟩
      by_cases hk0 : k = 0
      · have hz : n4 = 0 := by rw [hn4, HTl.out, hk0]
        subst hz
        have q1 := add_run sh ⟨#[46]⟩ (by have := HE0.out.2; omega)
        have HS : Hid ((sh ++ ⟨#[46]⟩).size ≤ 135000) := Lib.hid (by have := HE0.out.2; rw [ByteArray.size_append]; omega)
        have HXx : Hid ((sh ++ ⟨#[46]⟩).data.toList = sh.data.toList ++ [46]) := Lib.hid (by simp)
        have HTa := Lib.hid (show tailP [32, 58, 45, 32] litP L = some [] by unfold tailP; rw [if_pos (by have := HNn.out; omega)])
        clear z1 z4 hn4
        go_wp2_with fail
        go_ret2
        refine .yes ?_ HS.out (HB0.out.trans (HJ.out.below.mono HB0.out.size))
        rw [HO.out, HE0.out.1, HTa.out, HXx.out]
        simp [two]
      · have hpos : (0 : Int) < (n4 : Int) := by rw [hn4, HTl.out]; omega
        have hpos' : 0 < n4 := by omega
        have q1 := add_run sh ⟨#[32, 58, 45, 32]⟩ (by have := HE0.out.2; omega)
        have q2 := add_run (sh ++ ⟨#[32, 58, 45, 32]⟩) J (by have := HE0.out.2; have := HJz.out; rw [ByteArray.size_append]; omega)
        have q3 := add_run (sh ++ ⟨#[32, 58, 45, 32]⟩ ++ J) ⟨#[46]⟩ (by have := HE0.out.2; have := HJz.out; rw [ByteArray.size_append, ByteArray.size_append]; omega)
        have HS : Hid ((sh ++ ⟨#[32, 58, 45, 32]⟩ ++ J ++ ⟨#[46]⟩).size ≤ 135000) := Lib.hid (by have := HE0.out.2; have := HJz.out; rw [ByteArray.size_append, ByteArray.size_append, ByteArray.size_append]; omega)
        have HXx : Hid ((sh ++ ⟨#[32, 58, 45, 32]⟩ ++ J ++ ⟨#[46]⟩).data.toList = sh.data.toList ++ ([32, 58, 45, 32] ++ J.data.toList) ++ [46]) := Lib.hid (by simp)
        have HTa := Lib.hid (show tailP [32, 58, 45, 32] litP L = some ([32, 58, 45, 32] ++ J.data.toList) by unfold tailP; rw [if_neg (by have := HNn.out; omega), HR.out, HJl.out]; rfl)
        clear z1 z4 hn4
        go_wp2_with fail
        refine HJn.out.mono ?_
        rintro y w5 ⟨rfl, hb5⟩
        have HB5 := Lib.hid (HB0.out.trans ((HJ.out.on hb5).below.mono HB0.out.size))
        clear hb5
        go_wp2_with fail
        go_ret2
        refine .yes ?_ HS.out HB5.out
        rw [HO.out, HE0.out.1, HTa.out, HXx.out]
        rfl
end
section
open Go Go.RowKit Go.Shelf

theorem say_of {M : Nat} {o : Option (List UInt8)} {w w' : World} {e e' : Ending} (h : e = e') (hs : SayS M o w e' w') : SayS M o w e w' := h ▸ hs
theorem typ_ways (X : Int) : (typeP X = some [105, 110, 116] ∧ X = 1) ∨ (typeP X = some [115, 121, 109] ∧ X = 2) ∨ typeP X = none := by
  by_cases h1 : X = 1
  · subst h1
    exact .inl ⟨rfl, rfl⟩
  by_cases h2 : X = 2
  · subst h2
    exact .inr (.inl ⟨rfl, rfl⟩)
  exact .inr (.inr (by unfold typeP; rw [if_neg h1, if_neg h2]))
theorem declP_ways (R : DeL) (ld : List UInt8) (h : ld = if R.base = true then [98, 97, 115, 101, 32] else [118, 105, 101, 119, 32]) : (nameB R.name = false → declP R = none) ∧ (nameB R.name = true → declP R = (rowP typeP [44, 32] R.types).map fun b => ld ++ R.name ++ [40] ++ b ++ [41, 46]) := by
  subst h
  refine ⟨fun e => ?_, fun e => ?_⟩
  · have h0 : nameP R.name = none := by unfold nameP; rw [if_neg (by rw [e]; simp)]
    unfold declP namedP
    rw [h0]
    cases rowP typeP [44, 32] R.types <;> rfl
  · have h0 : nameP R.name = some R.name := by unfold nameP; rw [if_pos e]
    unfold declP namedP
    rw [h0]
    cases rowP typeP [44, 32] R.types with
    | none => rfl
    | some b => cases R.base <;> simp [two, wBase, wView]
set_option maxRecDepth 100000 in
set_option maxHeartbeats 8000000 in
theorem rdecl_any (R : DeL) (u : Value) (S : Nat → Prop) (w : World) (h : RowIn tyY S w u R.types) (hs : SmD R) : Calls Tryz.prog 13 #[.agg #[.string ⟨R.name.toArray⟩, .bool R.base, u]] w (SayS 400 (declP R) w) := by
  obtain ⟨nm, hnm⟩ : ∃ nm : ByteArray, nm = ⟨R.name.toArray⟩ := ⟨_, rfl⟩
  have hnl : nm.data.toList = R.name := by rw [hnm]
  have HNs := Lib.hid (show nm.size ≤ 300 by rw [hnm, str_len]; exact hs.name)
  have HN : Hid (∀ W, Calls Tryz.prog 34 #[.string nm] W (BoolE (nameB R.name = true) W)) := Lib.hid (fun W => by rw [← hnl]; exact rName_any nm W (by have := HNs.out; omega))
  have HI := Lib.hid h
  obtain ⟨p, c, rfl⟩ := h.shape
  obtain ⟨L, hL⟩ : ∃ L, L = R.types := ⟨_, rfl⟩
  obtain ⟨n, hn⟩ : ∃ n, n = L.length := ⟨_, rfl⟩
  have hn12 : n ≤ 12 := by rw [hn, hL]; exact hs.few
  obtain ⟨ld, hld⟩ : ∃ ld : List UInt8, ld = if R.base = true then [98, 97, 115, 101, 32] else [118, 105, 101, 119, 32] := ⟨_, rfl⟩
  have HO := Lib.hid (declP_ways R ld hld)
  rw [← hL, ← hnl] at HO
  have HNn := Lib.hid hn
  rw [← hnm]
  rw [← hL] at HI ⊢
  rw [← hn] at HI ⊢
  rw [← hnl] at HN
  generalize declP R = o at *
  generalize nameB nm.data.toList = nb at *
  generalize R.base = bs at *
  clear h hs hnm hnl hL hn R
  cases bs
  · have hld' : ld = [118, 105, 101, 119, 32] := by rw [hld]; rfl
    clear hld
    subst hld'
    have HB := Lib.hid (below_box w (.cells #[.string nm, .bool false, .slice p n c] 30))
    go_enter Tryz.func13, Tryz.ntmps13
    go_wp2_with fail
    refine (HN.out _).mono ?_
    rintro y w0 ⟨⟨hy, rfl⟩ | ⟨hy, rfl⟩, g3⟩
    rotate_left
    · have HY := Lib.hid hy
      have HB0 := Lib.hid (HB.out.trans (g3.mono HB.out.size))
      clear hy g3
      go_wp2_with fail
      go_ret2
      exact .no (HO.out.1 (by simpa using HY.out)) HB0.out
    have HY := Lib.hid hy
    have hx := (g3.block w.heap.size (by simp)).trans (heap_alloc_new w (.cells #[.string nm, .bool false, .slice p n c] 30))
    have HX := Lib.hid hx
    have HB0 := Lib.hid (HB.out.trans (g3.mono HB.out.size))
    clear hy g3 hx
    go_wp2_with fail
    go_loopw [5, 6] (fun v i wr => ∃ (k : Nat) (ts : List (List UInt8)), k ≤ n ∧ i = .int .i64 k ∧ Hid (RtS typeP 3 L w0 k ts v wr)) (fun _ i _ => n - (intOf i).toNat)
    case atStart => exact ⟨0, [], Nat.zero_le _, rfl, Lib.hid (RtS.zero w0)⟩
    case round =>
      obtain ⟨k, ts, hk, rfl, HJ⟩ := hrel
      have h0 : (0 : Int) ≤ (k : Int) := by omega
      have hxr := (HJ.out.below.block w.heap.size (Array.getElem?_eq_some_iff.1 HX.out).1).trans HX.out
      have d0 := cell_at hxr 0 _ rfl
      have d2 := cell_at hxr 2 _ rfl
      have HXr := Lib.hid hxr
      clear hxr
      by_cases hlt : k < n
      · have hlt' : (k : Int) < (n : Int) := by omega
        have hkn : k < L.length := by rw [← HNn.out]; exact hlt
        obtain ⟨b, off, c1, us, e1, hbl, hu, hc⟩ := row_at HI.out hkn
        injection e1 with e1 hq1 hq2
        subst e1
        clear hq1 hq2
        obtain ⟨X, hX⟩ : ∃ X, X = L[k] := ⟨_, rfl⟩
        rw [← hX] at hu
        have hu : us = [.int .i64 X] := hu
        subst hu
        have hbw : ∀ o, wr.cell? ⟨b, o, none⟩ = w.cell? ⟨b, o, none⟩ := fun o => (HJ.out.below.cell (p := ⟨b, o, none⟩) (Nat.lt_of_lt_of_le hbl HB0.out.size)).trans (HB0.out.cell (p := ⟨b, o, none⟩) hbl)
        have a0 : wr.cell? ⟨b, off + k * 1, none⟩ = some (.int .i64 X) := (hbw _).trans (hc 0 _ rfl)
        rw [Nat.mul_one] at a0
        clear hc hbw hbl
        rcases typ_ways X with ⟨hv, rfl⟩ | ⟨hv, rfl⟩ | hv
        · have HE := Lib.hid (show typeP L[k] = some [105, 110, 116] by rw [← hX]; exact hv)
          have HT : Hid (∀ W, Calls Tryz.prog 35 #[.int .i64 1] W fun e w' => e = .returned (.string ⟨#[105, 110, 116]⟩) ∧ W = w') := Lib.hid (fun W => rtyp_any 1 W)
          clear hX hv
          go_wp2_with fail
          refine (HT.out _).mono ?_
          rintro y w3 ⟨rfl, rfl⟩
          go_wp2_with fail
          refine (HT.out _).mono ?_
          rintro y w3 ⟨rfl, rfl⟩
          have HOw := Lib.hid (HJ.out.lit ⟨#[105, 110, 116]⟩)
          have htl : ts.length ≤ 1000000 := by rw [row_len HJ.out.all_ (by omega)]; omega
          have hsz : w0.heap.size ≤ (wr.alloc (.cells #[.string ⟨#[105, 110, 116]⟩] 9)).heap.size := by have := HJ.out.below.size; simp; omega
          clear a0 d0 d2
          go_wp2_with (at_builtin; refine wpList_appY stY rfl (.tmp 27) (.tmp 34) 85 9 rfl w0.heap.size (.string ⟨#[]⟩) 16 Tryz.underlying85 Tryz.infoStg rfl (by decide) (by decide) u5 ts [105, 110, 116] [.string ⟨#[105, 110, 116]⟩] wr.heap.size 1 rfl rfl HOw.out (st_is _ _ _ ⟨#[105, 110, 116]⟩) (lit_rowcells wr [.string ⟨#[105, 110, 116]⟩] _) htl hsz ?_; intro v2 w4 ho hg hv2; have HNx := Lib.hid (HJ.out.next (r := ⟨#[105, 110, 116]⟩) hkn HE.out (by decide) ho hg); clear ho hg hv2)
          go_roundw
          case rel => exact ⟨k + 1, ts ++ [[105, 110, 116]], by omega, by go_num, HNx⟩
          case measure => simp [intOf]; omega
        · have HE := Lib.hid (show typeP L[k] = some [115, 121, 109] by rw [← hX]; exact hv)
          have HT : Hid (∀ W, Calls Tryz.prog 35 #[.int .i64 2] W fun e w' => e = .returned (.string ⟨#[115, 121, 109]⟩) ∧ W = w') := Lib.hid (fun W => rtyp_any 2 W)
          clear hX hv
          go_wp2_with fail
          refine (HT.out _).mono ?_
          rintro y w3 ⟨rfl, rfl⟩
          go_wp2_with fail
          refine (HT.out _).mono ?_
          rintro y w3 ⟨rfl, rfl⟩
          have HOw := Lib.hid (HJ.out.lit ⟨#[115, 121, 109]⟩)
          have htl : ts.length ≤ 1000000 := by rw [row_len HJ.out.all_ (by omega)]; omega
          have hsz : w0.heap.size ≤ (wr.alloc (.cells #[.string ⟨#[115, 121, 109]⟩] 9)).heap.size := by have := HJ.out.below.size; simp; omega
          clear a0 d0 d2
          go_wp2_with (at_builtin; refine wpList_appY stY rfl (.tmp 27) (.tmp 34) 85 9 rfl w0.heap.size (.string ⟨#[]⟩) 16 Tryz.underlying85 Tryz.infoStg rfl (by decide) (by decide) u5 ts [115, 121, 109] [.string ⟨#[115, 121, 109]⟩] wr.heap.size 1 rfl rfl HOw.out (st_is _ _ _ ⟨#[115, 121, 109]⟩) (lit_rowcells wr [.string ⟨#[115, 121, 109]⟩] _) htl hsz ?_; intro v2 w4 ho hg hv2; have HNx := Lib.hid (HJ.out.next (r := ⟨#[115, 121, 109]⟩) hkn HE.out (by decide) ho hg); clear ho hg hv2)
          go_roundw
          case rel => exact ⟨k + 1, ts ++ [[115, 121, 109]], by omega, by go_num, HNx⟩
          case measure => simp [intOf]; omega
        · have HE := Lib.hid (show typeP L[k] = none by rw [← hX]; exact hv)
          have HT : Hid (∀ W, Calls Tryz.prog 35 #[.int .i64 X] W fun e w' => e = .returned (.string ⟨#[]⟩) ∧ W = w') := Lib.hid (fun W => by have := rtyp_any X W; rw [hv] at this; exact this)
          have HBJ := Lib.hid (HB0.out.trans (HJ.out.below.mono HB0.out.size))
          clear hX hv d0
          go_wp2_with fail
          refine (HT.out _).mono ?_
          rintro y w3 ⟨rfl, rfl⟩
          go_wp2_with fail
          go_ret2
          refine .no ?_ HBJ.out
          rw [HO.out.2 HY.out, row_none _ hkn HE.out]
          rfl
      · have hge : ¬ (k : Int) < (n : Int) := by omega
        have HR := Lib.hid (row_all [44, 32] HJ.out.all_ (by rw [← HNn.out]; omega))
        have HJn : Hid (∀ W, Below wr.heap.size wr W → Calls Tryz.prog 32 #[u5, .string ⟨#[44, 32]⟩] W fun e w' => e = .returned (.string ⟨(joinS [44, 32] ts).toArray⟩) ∧ Below W.heap.size W w') := Lib.hid (fun W hb => rjoin_any u5 ts _ ⟨#[44, 32]⟩ W ((HJ.out.on hb).own.in_) (by have h1 := HJ.out.len (by have := HNn.out; omega) [44, 32]; have h2 : k * (3 + 2) ≤ 12 * (3 + 2) := Nat.mul_le_mul_right _ (by omega); exact Nat.le_trans h1 (Nat.le_trans h2 (by decide))) (by rw [row_len HJ.out.all_ (by have := HNn.out; omega)]; omega))
        obtain ⟨J, hJ⟩ : ∃ J : ByteArray, J = ⟨(joinS [44, 32] ts).toArray⟩ := ⟨_, rfl⟩
        have HJl := Lib.hid (show J.data.toList = joinS [44, 32] ts by rw [hJ])
        have HJz := Lib.hid (show J.size ≤ 60 by
          rw [hJ, str_len]
          have h1 := HJ.out.len (by have := HNn.out; omega) [44, 32]
          have h2 : k * (3 + 2) ≤ 12 * (3 + 2) := Nat.mul_le_mul_right _ (by omega)
          exact Nat.le_trans h1 (Nat.le_trans h2 (by decide)))
        rw [← hJ] at HJn
        clear hJ
        have z0 : (⟨#[118, 105, 101, 119, 32]⟩ : ByteArray).size = 5 := rfl
        have z1 : (⟨#[40]⟩ : ByteArray).size = 1 := rfl
        have z2 : (⟨#[41, 46]⟩ : ByteArray).size = 2 := rfl
        have q0 := add_run ⟨#[118, 105, 101, 119, 32]⟩ nm (by have := HNs.out; omega)
        have q1 := add_run (⟨#[118, 105, 101, 119, 32]⟩ ++ nm) ⟨#[40]⟩ (by have := HNs.out; rw [ByteArray.size_append]; omega)
        have q2 := add_run (⟨#[118, 105, 101, 119, 32]⟩ ++ nm ++ ⟨#[40]⟩) J (by have := HNs.out; have := HJz.out; rw [ByteArray.size_append, ByteArray.size_append]; omega)
        have q3 := add_run (⟨#[118, 105, 101, 119, 32]⟩ ++ nm ++ ⟨#[40]⟩ ++ J) ⟨#[41, 46]⟩ (by have := HNs.out; have := HJz.out; rw [ByteArray.size_append, ByteArray.size_append, ByteArray.size_append]; omega)
        have HS : Hid ((⟨#[118, 105, 101, 119, 32]⟩ ++ nm ++ ⟨#[40]⟩ ++ J ++ ⟨#[41, 46]⟩).size ≤ 400) := Lib.hid (by have := HNs.out; have := HJz.out; rw [ByteArray.size_append, ByteArray.size_append, ByteArray.size_append, ByteArray.size_append]; omega)
        have HXx : Hid ((⟨#[118, 105, 101, 119, 32]⟩ ++ nm ++ ⟨#[40]⟩ ++ J ++ ⟨#[41, 46]⟩).data.toList = [118, 105, 101, 119, 32] ++ nm.data.toList ++ [40] ++ J.data.toList ++ [41, 46]) := Lib.hid (by simp)
        obtain ⟨p4, c4, rfl⟩ := HJ.out.shape
        clear z0 z1 z2
        clear HI HN HX hlt hk hn12
        generalize hLD : (⟨#[118, 105, 101, 119, 32]⟩ : ByteArray) = LD at *
        clear hLD
        go_wp2_with fail
        go_region_with (go_at_call 32; refine (HJn.out _ (Below.refl _ _).drew).mono ?_; rintro y w5 ⟨rfl, hb5⟩; have HB5 := Lib.hid hb5; have hx5 := (hb5.block w.heap.size (by simpa using (Array.getElem?_eq_some_iff.1 HXr.out).1)).trans HXr.out; have e0 := cell_at hx5 0 _ rfl; clear hx5 hb5)
        all_goals go_wp2_with fail
        all_goals
          go_ret2
          refine say_of (e' := .returned (.tuple #[.string (LD ++ nm ++ ⟨#[40]⟩ ++ J ++ ⟨#[41, 46]⟩), .int .i64 0])) (by kernel_rfl) ?_
          refine .yes ?_ HS.out (HB0.out.trans ((HJ.out.on (show Below wr.heap.size wr _ from ((Below.refl _ wr).drew).trans HB5.out)).below.mono HB0.out.size))
          rw [HO.out.2 HY.out, HR.out, HXx.out, HJl.out]
          rfl
  · have hld' : ld = [98, 97, 115, 101, 32] := by rw [hld]; rfl
    clear hld
    subst hld'
    have HB := Lib.hid (below_box w (.cells #[.string nm, .bool true, .slice p n c] 30))
    go_enter Tryz.func13, Tryz.ntmps13
    go_wp2_with fail
    refine (HN.out _).mono ?_
    rintro y w0 ⟨⟨hy, rfl⟩ | ⟨hy, rfl⟩, g3⟩
    rotate_left
    · have HY := Lib.hid hy
      have HB0 := Lib.hid (HB.out.trans (g3.mono HB.out.size))
      clear hy g3
      go_wp2_with fail
      go_ret2
      exact .no (HO.out.1 (by simpa using HY.out)) HB0.out
    have HY := Lib.hid hy
    have hx := (g3.block w.heap.size (by simp)).trans (heap_alloc_new w (.cells #[.string nm, .bool true, .slice p n c] 30))
    have HX := Lib.hid hx
    have HB0 := Lib.hid (HB.out.trans (g3.mono HB.out.size))
    clear hy g3 hx
    go_wp2_with fail
    go_loopw [5, 6] (fun v i wr => ∃ (k : Nat) (ts : List (List UInt8)), k ≤ n ∧ i = .int .i64 k ∧ Hid (RtS typeP 3 L w0 k ts v wr)) (fun _ i _ => n - (intOf i).toNat)
    case atStart => exact ⟨0, [], Nat.zero_le _, rfl, Lib.hid (RtS.zero w0)⟩
    case round =>
      obtain ⟨k, ts, hk, rfl, HJ⟩ := hrel
      have h0 : (0 : Int) ≤ (k : Int) := by omega
      have hxr := (HJ.out.below.block w.heap.size (Array.getElem?_eq_some_iff.1 HX.out).1).trans HX.out
      have d0 := cell_at hxr 0 _ rfl
      have d2 := cell_at hxr 2 _ rfl
      have HXr := Lib.hid hxr
      clear hxr
      by_cases hlt : k < n
      · have hlt' : (k : Int) < (n : Int) := by omega
        have hkn : k < L.length := by rw [← HNn.out]; exact hlt
        obtain ⟨b, off, c1, us, e1, hbl, hu, hc⟩ := row_at HI.out hkn
        injection e1 with e1 hq1 hq2
        subst e1
        clear hq1 hq2
        obtain ⟨X, hX⟩ : ∃ X, X = L[k] := ⟨_, rfl⟩
        rw [← hX] at hu
        have hu : us = [.int .i64 X] := hu
        subst hu
        have hbw : ∀ o, wr.cell? ⟨b, o, none⟩ = w.cell? ⟨b, o, none⟩ := fun o => (HJ.out.below.cell (p := ⟨b, o, none⟩) (Nat.lt_of_lt_of_le hbl HB0.out.size)).trans (HB0.out.cell (p := ⟨b, o, none⟩) hbl)
        have a0 : wr.cell? ⟨b, off + k * 1, none⟩ = some (.int .i64 X) := (hbw _).trans (hc 0 _ rfl)
        rw [Nat.mul_one] at a0
        clear hc hbw hbl
        rcases typ_ways X with ⟨hv, rfl⟩ | ⟨hv, rfl⟩ | hv
        · have HE := Lib.hid (show typeP L[k] = some [105, 110, 116] by rw [← hX]; exact hv)
          have HT : Hid (∀ W, Calls Tryz.prog 35 #[.int .i64 1] W fun e w' => e = .returned (.string ⟨#[105, 110, 116]⟩) ∧ W = w') := Lib.hid (fun W => rtyp_any 1 W)
          clear hX hv
          go_wp2_with fail
          refine (HT.out _).mono ?_
          rintro y w3 ⟨rfl, rfl⟩
          go_wp2_with fail
          refine (HT.out _).mono ?_
          rintro y w3 ⟨rfl, rfl⟩
          have HOw := Lib.hid (HJ.out.lit ⟨#[105, 110, 116]⟩)
          have htl : ts.length ≤ 1000000 := by rw [row_len HJ.out.all_ (by omega)]; omega
          have hsz : w0.heap.size ≤ (wr.alloc (.cells #[.string ⟨#[105, 110, 116]⟩] 9)).heap.size := by have := HJ.out.below.size; simp; omega
          clear a0 d0 d2
          go_wp2_with (at_builtin; refine wpList_appY stY rfl (.tmp 27) (.tmp 34) 85 9 rfl w0.heap.size (.string ⟨#[]⟩) 16 Tryz.underlying85 Tryz.infoStg rfl (by decide) (by decide) u5 ts [105, 110, 116] [.string ⟨#[105, 110, 116]⟩] wr.heap.size 1 rfl rfl HOw.out (st_is _ _ _ ⟨#[105, 110, 116]⟩) (lit_rowcells wr [.string ⟨#[105, 110, 116]⟩] _) htl hsz ?_; intro v2 w4 ho hg hv2; have HNx := Lib.hid (HJ.out.next (r := ⟨#[105, 110, 116]⟩) hkn HE.out (by decide) ho hg); clear ho hg hv2)
          go_roundw
          case rel => exact ⟨k + 1, ts ++ [[105, 110, 116]], by omega, by go_num, HNx⟩
          case measure => simp [intOf]; omega
        · have HE := Lib.hid (show typeP L[k] = some [115, 121, 109] by rw [← hX]; exact hv)
          have HT : Hid (∀ W, Calls Tryz.prog 35 #[.int .i64 2] W fun e w' => e = .returned (.string ⟨#[115, 121, 109]⟩) ∧ W = w') := Lib.hid (fun W => rtyp_any 2 W)
          clear hX hv
          go_wp2_with fail
          refine (HT.out _).mono ?_
          rintro y w3 ⟨rfl, rfl⟩
          go_wp2_with fail
          refine (HT.out _).mono ?_
          rintro y w3 ⟨rfl, rfl⟩
          have HOw := Lib.hid (HJ.out.lit ⟨#[115, 121, 109]⟩)
          have htl : ts.length ≤ 1000000 := by rw [row_len HJ.out.all_ (by omega)]; omega
          have hsz : w0.heap.size ≤ (wr.alloc (.cells #[.string ⟨#[115, 121, 109]⟩] 9)).heap.size := by have := HJ.out.below.size; simp; omega
          clear a0 d0 d2
          go_wp2_with (at_builtin; refine wpList_appY stY rfl (.tmp 27) (.tmp 34) 85 9 rfl w0.heap.size (.string ⟨#[]⟩) 16 Tryz.underlying85 Tryz.infoStg rfl (by decide) (by decide) u5 ts [115, 121, 109] [.string ⟨#[115, 121, 109]⟩] wr.heap.size 1 rfl rfl HOw.out (st_is _ _ _ ⟨#[115, 121, 109]⟩) (lit_rowcells wr [.string ⟨#[115, 121, 109]⟩] _) htl hsz ?_; intro v2 w4 ho hg hv2; have HNx := Lib.hid (HJ.out.next (r := ⟨#[115, 121, 109]⟩) hkn HE.out (by decide) ho hg); clear ho hg hv2)
          go_roundw
          case rel => exact ⟨k + 1, ts ++ [[115, 121, 109]], by omega, by go_num, HNx⟩
          case measure => simp [intOf]; omega
        · have HE := Lib.hid (show typeP L[k] = none by rw [← hX]; exact hv)
          have HT : Hid (∀ W, Calls Tryz.prog 35 #[.int .i64 X] W fun e w' => e = .returned (.string ⟨#[]⟩) ∧ W = w') := Lib.hid (fun W => by have := rtyp_any X W; rw [hv] at this; exact this)
          have HBJ := Lib.hid (HB0.out.trans (HJ.out.below.mono HB0.out.size))
          clear hX hv d0
          go_wp2_with fail
          refine (HT.out _).mono ?_
          rintro y w3 ⟨rfl, rfl⟩
          go_wp2_with fail
          go_ret2
          refine .no ?_ HBJ.out
          rw [HO.out.2 HY.out, row_none _ hkn HE.out]
          rfl
      · have hge : ¬ (k : Int) < (n : Int) := by omega
        have HR := Lib.hid (row_all [44, 32] HJ.out.all_ (by rw [← HNn.out]; omega))
        have HJn : Hid (∀ W, Below wr.heap.size wr W → Calls Tryz.prog 32 #[u5, .string ⟨#[44, 32]⟩] W fun e w' => e = .returned (.string ⟨(joinS [44, 32] ts).toArray⟩) ∧ Below W.heap.size W w') := Lib.hid (fun W hb => rjoin_any u5 ts _ ⟨#[44, 32]⟩ W ((HJ.out.on hb).own.in_) (by have h1 := HJ.out.len (by have := HNn.out; omega) [44, 32]; have h2 : k * (3 + 2) ≤ 12 * (3 + 2) := Nat.mul_le_mul_right _ (by omega); exact Nat.le_trans h1 (Nat.le_trans h2 (by decide))) (by rw [row_len HJ.out.all_ (by have := HNn.out; omega)]; omega))
        obtain ⟨J, hJ⟩ : ∃ J : ByteArray, J = ⟨(joinS [44, 32] ts).toArray⟩ := ⟨_, rfl⟩
        have HJl := Lib.hid (show J.data.toList = joinS [44, 32] ts by rw [hJ])
        have HJz := Lib.hid (show J.size ≤ 60 by
          rw [hJ, str_len]
          have h1 := HJ.out.len (by have := HNn.out; omega) [44, 32]
          have h2 : k * (3 + 2) ≤ 12 * (3 + 2) := Nat.mul_le_mul_right _ (by omega)
          exact Nat.le_trans h1 (Nat.le_trans h2 (by decide)))
        rw [← hJ] at HJn
        clear hJ
        have z0 : (⟨#[98, 97, 115, 101, 32]⟩ : ByteArray).size = 5 := rfl
        have z1 : (⟨#[40]⟩ : ByteArray).size = 1 := rfl
        have z2 : (⟨#[41, 46]⟩ : ByteArray).size = 2 := rfl
        have q0 := add_run ⟨#[98, 97, 115, 101, 32]⟩ nm (by have := HNs.out; omega)
        have q1 := add_run (⟨#[98, 97, 115, 101, 32]⟩ ++ nm) ⟨#[40]⟩ (by have := HNs.out; rw [ByteArray.size_append]; omega)
        have q2 := add_run (⟨#[98, 97, 115, 101, 32]⟩ ++ nm ++ ⟨#[40]⟩) J (by have := HNs.out; have := HJz.out; rw [ByteArray.size_append, ByteArray.size_append]; omega)
        have q3 := add_run (⟨#[98, 97, 115, 101, 32]⟩ ++ nm ++ ⟨#[40]⟩ ++ J) ⟨#[41, 46]⟩ (by have := HNs.out; have := HJz.out; rw [ByteArray.size_append, ByteArray.size_append, ByteArray.size_append]; omega)
        have HS : Hid ((⟨#[98, 97, 115, 101, 32]⟩ ++ nm ++ ⟨#[40]⟩ ++ J ++ ⟨#[41, 46]⟩).size ≤ 400) := Lib.hid (by have := HNs.out; have := HJz.out; rw [ByteArray.size_append, ByteArray.size_append, ByteArray.size_append, ByteArray.size_append]; omega)
        have HXx : Hid ((⟨#[98, 97, 115, 101, 32]⟩ ++ nm ++ ⟨#[40]⟩ ++ J ++ ⟨#[41, 46]⟩).data.toList = [98, 97, 115, 101, 32] ++ nm.data.toList ++ [40] ++ J.data.toList ++ [41, 46]) := Lib.hid (by simp)
        obtain ⟨p4, c4, rfl⟩ := HJ.out.shape
        clear z0 z1 z2
        clear HI HN HX hlt hk hn12
        generalize hLD : (⟨#[98, 97, 115, 101, 32]⟩ : ByteArray) = LD at *
        clear hLD
        go_wp2_with fail
        go_region_with (go_at_call 32; refine (HJn.out _ (Below.refl _ _).drew).mono ?_; rintro y w5 ⟨rfl, hb5⟩; have HB5 := Lib.hid hb5; have hx5 := (hb5.block w.heap.size (by simpa using (Array.getElem?_eq_some_iff.1 HXr.out).1)).trans HXr.out; have e0 := cell_at hx5 0 _ rfl; clear hx5 hb5)
        all_goals go_wp2_with fail
        all_goals
          go_ret2
          refine say_of (e' := .returned (.tuple #[.string (LD ++ nm ++ ⟨#[40]⟩ ++ J ++ ⟨#[41, 46]⟩), .int .i64 0])) (by kernel_rfl) ?_
          refine .yes ?_ HS.out (HB0.out.trans ((HJ.out.on (show Below wr.heap.size wr _ from ((Below.refl _ wr).drew).trans HB5.out)).below.mono HB0.out.size))
          rw [HO.out.2 HY.out, HR.out, HXx.out, HJl.out]
          rfl
end
section
open Go Go.RowKit Go.Shelf

set_option maxRecDepth 100000 in
set_option maxHeartbeats 8000000 in
theorem racts_any (ev : ByteArray) (u x : Value) (Lp : List (List UInt8 × Int)) (L : List ActL) (S : Nat → Prop) (w : World) (h : RowIn paY S w u Lp) (h2 : RowIn acY S w x L) (hs : ∀ a ∈ L, SmA a.atom) (hf : L.length ≤ 8) : Calls Tryz.prog 38 #[.agg #[.string ev, u, x]] w (SayS 113000 (tailP [58, 32] actP L) w) := by
  have HT : Hid (∀ (X : ActL) (u' : Value) (W : World), X ∈ L → RowIn tmY S W u' X.atom.args → Calls Tryz.prog 30 #[.agg #[.string ⟨X.atom.pred.toArray⟩, u']] W (SayS 14000 (atomP X.atom) W)) := Lib.hid (fun X u' W hm hr => ratom_any X.atom u' S W hr (hs X hm))
  have HI := Lib.hid h2
  obtain ⟨q, c, rfl⟩ := h.shape
  obtain ⟨p, c', rfl⟩ := h2.shape
  obtain ⟨n, hn⟩ : ∃ n, n = L.length := ⟨_, rfl⟩
  have hn8 : n ≤ 8 := by rw [hn]; exact hf
  have HNn := Lib.hid hn
  rw [← hn] at HI ⊢
  obtain ⟨o, ho⟩ : ∃ o, o = tailP [58, 32] actP L := ⟨_, rfl⟩
  have HO := Lib.hid ho
  rw [← ho]
  generalize Lp.length = m at *
  clear h h2 hs hf hn ho Lp
  have HB := Lib.hid (below_box w (.cells #[.string ev, .slice q m c, .slice p n c'] 34))
  obtain ⟨w0, hw0⟩ : ∃ w0, w.alloc (.cells #[.string ev, .slice q m c, .slice p n c'] 34) = w0 := ⟨_, rfl⟩
  have hsz0 : w0.heap.size = w.heap.size + 1 := by rw [← hw0]; simp
  have HX := Lib.hid (show w0.heap[w.heap.size]? = some (.cells #[.string ev, .slice q m c, .slice p n c'] 34 (0, 0)) by rw [← hw0]; exact heap_alloc_new w _)
  have HB0 := Lib.hid (show Below w.heap.size w w0 by rw [← hw0]; exact HB.out)
  have HW0 := Lib.hid hw0
  clear hw0
  go_enter Tryz.func38, Tryz.ntmps38
  go_wp2_with fail
  try rw [HW0.out]
  go_loopw [4, 5] (fun v i wr => ∃ (k : Nat) (ts : List (List UInt8)), k ≤ n ∧ i = .int .i64 k ∧ Hid (RtS actP 14001 L w0 k ts v wr)) (fun _ i _ => n - (intOf i).toNat)
  case atStart => exact ⟨0, [], Nat.zero_le _, rfl, Lib.hid (RtS.zero w0)⟩
  case round =>
    obtain ⟨k, ts, hk, rfl, HJ⟩ := hrel
    have h0 : (0 : Int) ≤ (k : Int) := by omega
    have hxr := (HJ.out.below.block w.heap.size (Array.getElem?_eq_some_iff.1 HX.out).1).trans HX.out
    have d2 := cell_at hxr 2 _ rfl
    have HXr := Lib.hid hxr
    clear hxr
    by_cases hlt : k < n
    · have hlt' : (k : Int) < (n : Int) := by omega
      have hkn : k < L.length := by rw [← HNn.out]; exact hlt
      obtain ⟨b, off, c1, us, e1, hbl, hu, hc⟩ := row_at HI.out hkn
      injection e1 with e1 hq1 hq2
      subst e1
      clear hq1 hq2
      have hmem : L[k] ∈ L := List.getElem_mem hkn
      obtain ⟨X, hX⟩ : ∃ X, X = L[k] := ⟨_, rfl⟩
      rw [← hX] at hu hmem
      have HXe := Lib.hid hX
      obtain ⟨u', rfl, hu'⟩ := hu
      have HCa := Lib.hid (HT.out X u' wr hmem ((hu'.in_below HB0.out).in_below HJ.out.below))
      obtain ⟨pu, cu, rfl⟩ := hu'.shape
      have hbw : ∀ o, wr.cell? ⟨b, o, none⟩ = w.cell? ⟨b, o, none⟩ := fun o => (HJ.out.below.cell (p := ⟨b, o, none⟩) (Nat.lt_of_lt_of_le hbl HB0.out.size)).trans (HB0.out.cell (p := ⟨b, o, none⟩) hbl)
      have HA0 : Hid (wr.cell? ⟨b, off + k * 3, none⟩ = some (.bool X.plus)) := Lib.hid ((hbw _).trans (hc 0 _ rfl))
      have HBl := Lib.hid (show b < wr.heap.size from Nat.lt_of_lt_of_le hbl (Nat.le_trans HB0.out.size HJ.out.below.size))
      have a0 := HA0.out
      have a1 : wr.cell? ⟨b, off + k * 3 + 1, none⟩ = some (.string ⟨X.atom.pred.toArray⟩) := (hbw _).trans (hc 1 _ rfl)
      have a2 : wr.cell? ⟨b, off + k * 3 + 2, none⟩ = some (.slice pu X.atom.args.length cu) := (hbw _).trans (hc 2 _ rfl)
      clear hX hmem hc hbw hbl hu'
      go_wp2_with fail
      refine HCa.out.mono ?_
      intro y w3 hy
      rcases hy.cases_ with ⟨r, g1, g2, rfl, g3⟩ | ⟨g1, rfl, g3⟩
      · have HE := Lib.hid (And.intro g1 g2)
        have HJ3 := Lib.hid (HJ.out.on g3)
        have b0 := (g3.cell (p := ⟨b, off + k * 3, none⟩) HBl.out).trans HA0.out
        have hx3 := (g3.block w.heap.size (Array.getElem?_eq_some_iff.1 HXr.out).1).trans HXr.out
        have d3 := cell_at hx3 2 _ rfl
        clear hx3
        cases hpl : X.plus
        · have HPl := Lib.hid hpl
          rw [hpl] at b0
          clear hpl
          have q1 := add_run ⟨#[45]⟩ r (by rw [show (⟨#[45]⟩ : ByteArray).size = 1 from rfl]; have := HE.out.2; omega)
          have HRs : Hid ((⟨#[45]⟩ ++ r).size ≤ 14001) := Lib.hid (by rw [ByteArray.size_append, show (⟨#[45]⟩ : ByteArray).size = 1 from rfl]; have := HE.out.2; omega)
          have HRp : Hid (actP L[k] = some (⟨#[45]⟩ ++ r : ByteArray).data.toList) := Lib.hid (by
            rw [← HXe.out]
            unfold actP
            rw [HE.out.1, HPl.out]
            simp)
          have HOw := Lib.hid (HJ3.out.lit (⟨#[45]⟩ ++ r))
          have htl : ts.length ≤ 1000000 := by rw [row_len HJ.out.all_ (by omega)]; omega
          have hsz : w0.heap.size ≤ (w3.alloc (.cells #[.string (⟨#[45]⟩ ++ r)] 9)).heap.size := by have := HJ3.out.below.size; simp at this ⊢; omega
          clear hy g1 g2 g3 a0 a1 a2 d2
          obtain ⟨RR, hRR⟩ : ∃ RR : ByteArray, RR = ⟨#[45]⟩ ++ r := ⟨_, rfl⟩
          rw [← hRR] at q1 HRs HRp HOw hsz
          clear hRR
          go_wp2_with (at_builtin; refine wpList_appY stY rfl (.tmp 35) (.tmp 39) 85 9 rfl (w0.heap.size) (.string ⟨#[]⟩) 16 Tryz.underlying85 Tryz.infoStg rfl (by decide) (by decide) u4 ts RR.data.toList [.string RR] w3.heap.size 1 rfl rfl HOw.out (st_is _ _ _ RR) (lit_rowcells w3 [.string RR] _) htl hsz ?_; intro v2 w4 ho hg hv2; have HNx := Lib.hid (HJ3.out.next hkn HRp.out HRs.out ho hg); clear ho hg hv2)
          go_roundw
          case rel => exact ⟨k + 1, ts ++ [RR.data.toList], by omega, by go_num, HNx⟩
          case measure => simp [intOf]; omega
        · have HPl := Lib.hid hpl
          rw [hpl] at b0
          clear hpl
          have q1 := add_run ⟨#[43]⟩ r (by rw [show (⟨#[43]⟩ : ByteArray).size = 1 from rfl]; have := HE.out.2; omega)
          have HRs : Hid ((⟨#[43]⟩ ++ r).size ≤ 14001) := Lib.hid (by rw [ByteArray.size_append, show (⟨#[43]⟩ : ByteArray).size = 1 from rfl]; have := HE.out.2; omega)
          have HRp : Hid (actP L[k] = some (⟨#[43]⟩ ++ r : ByteArray).data.toList) := Lib.hid (by
            rw [← HXe.out]
            unfold actP
            rw [HE.out.1, HPl.out]
            simp)
          have HOw := Lib.hid (HJ3.out.lit (⟨#[43]⟩ ++ r))
          have htl : ts.length ≤ 1000000 := by rw [row_len HJ.out.all_ (by omega)]; omega
          have hsz : w0.heap.size ≤ (w3.alloc (.cells #[.string (⟨#[43]⟩ ++ r)] 9)).heap.size := by have := HJ3.out.below.size; simp at this ⊢; omega
          clear hy g1 g2 g3 a0 a1 a2 d2
          obtain ⟨RR, hRR⟩ : ∃ RR : ByteArray, RR = ⟨#[43]⟩ ++ r := ⟨_, rfl⟩
          rw [← hRR] at q1 HRs HRp HOw hsz
          clear hRR
          go_wp2_with (at_builtin; refine wpList_appY stY rfl (.tmp 35) (.tmp 39) 85 9 rfl (w0.heap.size) (.string ⟨#[]⟩) 16 Tryz.underlying85 Tryz.infoStg rfl (by decide) (by decide) u4 ts RR.data.toList [.string RR] w3.heap.size 1 rfl rfl HOw.out (st_is _ _ _ RR) (lit_rowcells w3 [.string RR] _) htl hsz ?_; intro v2 w4 ho hg hv2; have HNx := Lib.hid (HJ3.out.next hkn HRp.out HRs.out ho hg); clear ho hg hv2)
          go_roundw
          case rel => exact ⟨k + 1, ts ++ [RR.data.toList], by omega, by go_num, HNx⟩
          case measure => simp [intOf]; omega
      · have HE := Lib.hid (And.intro g1 (HB0.out.trans ((HJ.out.on g3).below.mono HB0.out.size)))
        clear hy g1 g3 a0 a1 a2 d2
        go_wp2_with fail
        go_ret2
        refine .no ?_ HE.out.2
        rw [HO.out]
        unfold tailP
        rw [if_neg (by omega), row_none _ hkn (by rw [← HXe.out]; unfold actP; rw [HE.out.1]; rfl)]
        rfl
    · have hge : ¬ (k : Int) < (n : Int) := by omega
      obtain rfl : k = n := by omega
      have HR := Lib.hid (row_all [44, 32] HJ.out.all_ (by rw [← HNn.out]; exact Nat.le_refl _))
      have HTl := Lib.hid (row_len HJ.out.all_ (by rw [HNn.out]; exact Nat.le_refl _))
      obtain ⟨J, hJ⟩ : ∃ J : ByteArray, J = ⟨(joinS [44, 32] ts).toArray⟩ := ⟨_, rfl⟩
      have HJn : Hid (Calls Tryz.prog 32 #[u4, .string ⟨#[44, 32]⟩] wr fun e w' => e = .returned (.string J) ∧ Below wr.heap.size wr w') := Lib.hid (by
        rw [hJ]
        exact rjoin_any u4 ts _ ⟨#[44, 32]⟩ wr HJ.out.own.in_ (by have h1 := HJ.out.len (by rw [HNn.out]; exact Nat.le_refl _) [44, 32]; have h2 : k * (14001 + 2) ≤ 8 * (14001 + 2) := Nat.mul_le_mul_right _ (by omega); exact Nat.le_trans h1 (Nat.le_trans h2 (by decide))) (by rw [HTl.out]; omega))
      have HJl := Lib.hid (show J.data.toList = joinS [44, 32] ts by rw [hJ])
      have HJz := Lib.hid (show J.size ≤ 112024 by
        rw [hJ, str_len]
        have h1 := HJ.out.len (by rw [HNn.out]; exact Nat.le_refl _) [44, 32]
        have h2 : k * (14001 + 2) ≤ 8 * (14001 + 2) := Nat.mul_le_mul_right _ (by omega)
        exact Nat.le_trans h1 (Nat.le_trans h2 (by decide)))
      clear hJ
      have HBw := Lib.hid (HB0.out.trans (HJ.out.below.mono HB0.out.size))
      obtain ⟨p4, n4, c4, rfl, hn4⟩ : ∃ p n' c, u4 = .slice p n' c ∧ n' = ts.length := by obtain ⟨p4, c4, e⟩ := HJ.out.shape; exact ⟨_, _, _, e, rfl⟩
      by_cases hk0 : k = 0
      · have hz : n4 = 0 := by rw [hn4, HTl.out, hk0]
        subst hz
        have HTa := Lib.hid (show tailP [58, 32] actP L = some [] by unfold tailP; rw [if_pos (by have := HNn.out; omega)])
        clear hn4
        go_wp2_with fail
        go_ret2
        exact .yes (by rw [HO.out, HTa.out]) (by decide) HBw.out
      · have hpos : ¬ (n4 : Int) = 0 := by rw [hn4, HTl.out]; omega
        have hpos' : n4 ≠ 0 := by omega
        have q1 := add_run ⟨#[58, 32]⟩ J (by rw [show (⟨#[58, 32]⟩ : ByteArray).size = 2 from rfl]; have := HJz.out; omega)
        have HS : Hid ((⟨#[58, 32]⟩ ++ J).size ≤ 113000) := Lib.hid (by rw [ByteArray.size_append, show (⟨#[58, 32]⟩ : ByteArray).size = 2 from rfl]; have := HJz.out; omega)
        have HTa := Lib.hid (show tailP [58, 32] actP L = some (⟨#[58, 32]⟩ ++ J : ByteArray).data.toList by unfold tailP; rw [if_neg (by have := HNn.out; omega), HR.out, ← HJl.out]; simp)
        obtain ⟨RR, hRR⟩ : ∃ RR : ByteArray, RR = ⟨#[58, 32]⟩ ++ J := ⟨_, rfl⟩
        rw [← hRR] at q1 HS HTa
        clear hn4 hRR
        go_wp2_with fail
        refine HJn.out.mono ?_
        rintro y w5 ⟨rfl, hb5⟩
        have HB5 := Lib.hid (HB0.out.trans ((HJ.out.on hb5).below.mono HB0.out.size))
        clear hb5
        go_wp2_with fail
        go_ret2
        exact .yes (by rw [HO.out, HTa.out]) HS.out HB5.out
end
section
open Go Go.RowKit Go.Shelf

theorem onP_ways (R : OnL) : (nameB R.event = false → onP R = none) ∧ (nameB R.event = true → onP R = two (rowP paramP [44, 32] R.params) (tailP [58, 32] actP R.acts) fun b t => [111, 110, 32] ++ R.event ++ [40] ++ b ++ [41] ++ t ++ [46]) := by
  refine ⟨fun e => ?_, fun e => ?_⟩
  · have h0 : nameP R.event = none := by unfold nameP; rw [if_neg (by rw [e]; simp)]
    unfold onP namedP
    rw [h0]
    cases rowP paramP [44, 32] R.params <;> cases tailP [58, 32] actP R.acts <;> rfl
  · have h0 : nameP R.event = some R.event := by unfold nameP; rw [if_pos e]
    unfold onP namedP
    rw [h0]
    cases rowP paramP [44, 32] R.params <;> cases tailP [58, 32] actP R.acts <;> simp [two, wOn]
set_option maxRecDepth 100000 in
set_option maxHeartbeats 16000000 in
theorem ron_any (R : OnL) (u x : Value) (S : Nat → Prop) (w : World) (h : RowIn paY S w u R.params) (h2 : RowIn acY S w x R.acts) (hs : SmO R) : Calls Tryz.prog 15 #[.agg #[.string ⟨R.event.toArray⟩, u, x]] w (SayS 130000 (onP R) w) := by
  obtain ⟨nm, hnm⟩ : ∃ nm : ByteArray, nm = ⟨R.event.toArray⟩ := ⟨_, rfl⟩
  have hnl : nm.data.toList = R.event := by rw [hnm]
  have HNs := Lib.hid (show nm.size ≤ 300 by rw [hnm, str_len]; exact hs.event)
  have HN : Hid (∀ W, Calls Tryz.prog 34 #[.string nm] W (BoolE (nameB R.event = true) W)) := Lib.hid (fun W => by rw [← hnl]; exact rName_any nm W (by have := HNs.out; omega))
  have HAc : Hid (∀ W, Below w.heap.size w W → Calls Tryz.prog 38 #[.agg #[.string nm, u, x]] W (SayS 113000 (tailP [58, 32] actP R.acts) W)) := Lib.hid (fun W hb => racts_any nm u x R.params R.acts S W (h.in_below hb) (h2.in_below hb) hs.all_ hs.acts)
  have HI := Lib.hid h
  obtain ⟨p, c, rfl⟩ := h.shape
  obtain ⟨q, c', rfl⟩ := h2.shape
  obtain ⟨L, hL⟩ : ∃ L, L = R.params := ⟨_, rfl⟩
  obtain ⟨n, hn⟩ : ∃ n, n = L.length := ⟨_, rfl⟩
  have hn12 : n ≤ 12 := by rw [hn, hL]; exact hs.few
  have HNa : Hid (∀ P ∈ L, P.1.length ≤ 300) := Lib.hid (by rw [hL]; exact hs.names)
  have HO := Lib.hid (onP_ways R)
  rw [← hL, ← hnl] at HO
  have HNn := Lib.hid hn
  rw [← hnm]
  rw [← hL] at HI HAc ⊢
  rw [← hn] at HI HAc ⊢
  rw [← hnl] at HN
  generalize onP R = o at *
  generalize nameB nm.data.toList = nb at *
  generalize tailP [58, 32] actP R.acts = ta at *
  generalize R.acts.length = m at *
  clear h h2 hs hnm hnl hL hn R
  have HB := Lib.hid (below_box w (.cells #[.string nm, .slice p n c, .slice q m c'] 34))
  go_enter Tryz.func15, Tryz.ntmps15
  go_wp2_with fail
  refine (HN.out _).mono ?_
  rintro y w0 ⟨⟨hy, rfl⟩ | ⟨hy, rfl⟩, g3⟩
  rotate_left
  · have HY := Lib.hid hy
    have HB0 := Lib.hid (HB.out.trans (g3.mono HB.out.size))
    clear hy g3
    go_wp2_with fail
    go_ret2
    exact .no (HO.out.1 (by simpa using HY.out)) HB0.out
  have HY := Lib.hid hy
  have hx := (g3.block w.heap.size (by simp)).trans (heap_alloc_new w (.cells #[.string nm, .slice p n c, .slice q m c'] 34))
  have HX := Lib.hid hx
  have HB0 := Lib.hid (HB.out.trans (g3.mono HB.out.size))
  clear hy g3 hx
  go_wp2_with fail
  go_loopw [4, 5] (fun v i wr => ∃ (k : Nat) (ts : List (List UInt8)), k ≤ n ∧ i = .int .i64 k ∧ Hid (RtS paramP 304 L w0 k ts v wr)) (fun _ i _ => n - (intOf i).toNat)
  case atStart => exact ⟨0, [], Nat.zero_le _, rfl, Lib.hid (RtS.zero w0)⟩
  case round =>
    obtain ⟨k, ts, hk, rfl, HJ⟩ := hrel
    have h0 : (0 : Int) ≤ (k : Int) := by omega
    have hxr := (HJ.out.below.block w.heap.size (Array.getElem?_eq_some_iff.1 HX.out).1).trans HX.out
    obtain ⟨⟨d0, d1, d2⟩, df0, df1, df2⟩ := cells3 hxr
    have HXr := Lib.hid hxr
    clear hxr
    by_cases hlt : k < n
    · have hlt' : (k : Int) < (n : Int) := by omega
      have hkn : k < L.length := by rw [← HNn.out]; exact hlt
      obtain ⟨b, off, c1, us, e1, hbl, hu, hc⟩ := row_at HI.out hkn
      injection e1 with e1 hq1 hq2
      subst e1
      clear hq1 hq2
      have hmem : L[k] ∈ L := List.getElem_mem hkn
      obtain ⟨X, hX⟩ : ∃ X, X = L[k] := ⟨_, rfl⟩
      rw [← hX] at hu hmem
      have HXe := Lib.hid hX
      have hu : us = [.string ⟨X.1.toArray⟩, .int .i64 X.2] := hu
      subst hu
      have hbw : ∀ o, wr.cell? ⟨b, o, none⟩ = w.cell? ⟨b, o, none⟩ := fun o => (HJ.out.below.cell (p := ⟨b, o, none⟩) (Nat.lt_of_lt_of_le hbl HB0.out.size)).trans (HB0.out.cell (p := ⟨b, o, none⟩) hbl)
      have a0 : wr.cell? ⟨b, off + k * 2, none⟩ = some (.string ⟨X.1.toArray⟩) := (hbw _).trans (hc 0 _ rfl)
      have a1 : wr.cell? ⟨b, off + k * 2 + 1, none⟩ = some (.int .i64 X.2) := (hbw _).trans (hc 1 _ rfl)
      obtain ⟨N, hN⟩ : ∃ N : ByteArray, N = ⟨X.1.toArray⟩ := ⟨_, rfl⟩
      have hNl : N.data.toList = X.1 := by rw [hN]
      have HNz := Lib.hid (show N.size ≤ 300 by rw [hN, str_len]; exact HNa.out X hmem)
      have HVr : Hid (∀ W, Calls Tryz.prog 37 #[.string N] W (BoolE (varB X.1 = true) W)) := Lib.hid (fun W => by rw [← hNl]; exact rVar_any N W (by have := HNz.out; omega))
      have HPw := Lib.hid (show paramP X = two (varP X.1) (typeP X.2) fun a b => a ++ [32] ++ b from rfl)
      have HNl := Lib.hid hNl
      rw [← hN] at a0
      obtain ⟨TY, hTY⟩ : ∃ TY, TY = X.2 := ⟨_, rfl⟩
      rw [← hTY] at a1 HPw
      clear hX hmem hc hbw hbl hN hNl hTY
      go_wp2_with fail
      refine (HVr.out _).mono ?_
      rintro y w2 ⟨⟨hy, rfl⟩ | ⟨hy, rfl⟩, g3⟩
      rotate_left
      · have HE := Lib.hid (HB0.out.trans ((HJ.out.on (((Below.refl _ wr).alloc (Nat.le_refl _) _).trans (g3.mono (by simp)))).below.mono HB0.out.size))
        have HVf := Lib.hid (show varP X.1 = none by unfold varP; rw [if_neg hy])
        clear hy g3 a0 a1 d0 d1 d2 df0 df1 df2
        go_wp2_with fail
        go_ret2
        refine .no ?_ HE.out
        rw [HO.out.2 HY.out, row_none _ hkn (by rw [← HXe.out, HPw.out, HVf.out]; cases typeP TY <;> rfl)]
        rfl
      have HVt := Lib.hid (show varP X.1 = some N.data.toList by unfold varP; rw [if_pos hy, HNl.out])
      have HJ2 := Lib.hid (HJ.out.on (((Below.refl _ wr).alloc (Nat.le_refl _) _).trans (g3.mono (by simp))))
      have hp2 := (g3.block wr.heap.size (by simp)).trans (heap_alloc_new wr (.cells #[.string N, .int .i64 TY] 78))
      have HP2 := Lib.hid hp2
      obtain ⟨⟨l0, l1⟩, lf0, lf1⟩ := cells2 hp2
      clear hy g3 a0 a1 d0 d1 d2 df0 df1 df2 hp2
      rcases typ_ways TY with ⟨hv, hq⟩ | ⟨hv, hq⟩ | hv
      · clear hq
        have HTy := Lib.hid hv
        have HT : Hid (∀ W, Calls Tryz.prog 35 #[.int .i64 TY] W fun e w' => e = .returned (.string ⟨#[105, 110, 116]⟩) ∧ Below W.heap.size W w') := Lib.hid (fun W => (rtyp_any TY W).mono fun e w' hh => by obtain ⟨rfl, rfl⟩ := hh; exact ⟨by rw [hv]; rfl, Below.refl _ _⟩)
        clear hv
        go_wp2_with fail
        refine (HT.out _).mono ?_
        rintro y w3 ⟨rfl, hb3⟩
        have HJ3 := Lib.hid (HJ2.out.on hb3)
        have hx3 := (hb3.block wr.heap.size (Array.getElem?_eq_some_iff.1 HP2.out).1).trans HP2.out
        have HP3 := Lib.hid hx3
        obtain ⟨⟨m0, m1⟩, mf0, mf1⟩ := cells2 hx3
        clear hb3 hx3 l0 l1 lf0 lf1
        have q1 := add_run N ⟨#[32]⟩ (by rw [show (⟨#[32]⟩ : ByteArray).size = 1 from rfl]; have := HNz.out; omega)
        have q2 := add_run (N ++ ⟨#[32]⟩) ⟨#[105, 110, 116]⟩ (by rw [ByteArray.size_append, show (⟨#[32]⟩ : ByteArray).size = 1 from rfl, show (⟨#[105, 110, 116]⟩ : ByteArray).size = 3 from rfl]; have := HNz.out; omega)
        have HRs : Hid ((N ++ ⟨#[32]⟩ ++ ⟨#[105, 110, 116]⟩).size ≤ 304) := Lib.hid (by rw [ByteArray.size_append, ByteArray.size_append, show (⟨#[32]⟩ : ByteArray).size = 1 from rfl, show (⟨#[105, 110, 116]⟩ : ByteArray).size = 3 from rfl]; have := HNz.out; omega)
        have HRp : Hid (paramP L[k] = some (N ++ ⟨#[32]⟩ ++ ⟨#[105, 110, 116]⟩ : ByteArray).data.toList) := Lib.hid (by
          rw [← HXe.out, HPw.out, HVt.out, HTy.out]
          simp [two])
        obtain ⟨RR, hRR⟩ : ∃ RR : ByteArray, RR = N ++ ⟨#[32]⟩ ++ ⟨#[105, 110, 116]⟩ := ⟨_, rfl⟩
        rw [← hRR] at q2 HRs HRp
        clear hRR
        have htl : ts.length ≤ 1000000 := by rw [row_len HJ.out.all_ (by omega)]; omega
        go_wp2_with fail
        go_region_law (first
          | (refine step_appY stY rfl (.tmp 35) (.tmp 43) 85 9 rfl w0.heap.size (.string ⟨#[]⟩) 16 Tryz.underlying85 Tryz.infoStg rfl (by decide) (by decide) u4 ts RR.data.toList [.string RR] w4.heap.size 1 rfl rfl HOw.out (st_is _ _ _ RR) (lit_rowcells w4 [.string RR] _) htl (by have := HJ4.out.below.size; simp; omega) ?_; intro v2 w5 ho hg hv2; have HNx := Lib.hid (HJ4.out.next hkn HRp.out HRs.out ho hg); clear ho hg hv2)
          | (go_simp; go_at_call 35; refine (HT.out _).mono ?_; rintro y w4 ⟨rfl, hb4⟩; have HJ4 := Lib.hid (HJ3.out.on ((Below.refl _ w3).drew.trans hb4)); have HOw := Lib.hid (HJ4.out.lit RR); obtain ⟨⟨i0, i1⟩, if0, if1⟩ := cells2 ((hb4.block wr.heap.size (by simpa using (Array.getElem?_eq_some_iff.1 HP3.out).1)).trans HP3.out); clear hb4))
        all_goals
          go_wp2_with fail
          go_roundw
          case rel => exact ⟨k + 1, ts ++ [RR.data.toList], by omega, by go_num, HNx⟩
          case measure => simp [intOf]; omega
      · clear hq
        have HTy := Lib.hid hv
        have HT : Hid (∀ W, Calls Tryz.prog 35 #[.int .i64 TY] W fun e w' => e = .returned (.string ⟨#[115, 121, 109]⟩) ∧ Below W.heap.size W w') := Lib.hid (fun W => (rtyp_any TY W).mono fun e w' hh => by obtain ⟨rfl, rfl⟩ := hh; exact ⟨by rw [hv]; rfl, Below.refl _ _⟩)
        clear hv
        go_wp2_with fail
        refine (HT.out _).mono ?_
        rintro y w3 ⟨rfl, hb3⟩
        have HJ3 := Lib.hid (HJ2.out.on hb3)
        have hx3 := (hb3.block wr.heap.size (Array.getElem?_eq_some_iff.1 HP2.out).1).trans HP2.out
        have HP3 := Lib.hid hx3
        obtain ⟨⟨m0, m1⟩, mf0, mf1⟩ := cells2 hx3
        clear hb3 hx3 l0 l1 lf0 lf1
        have q1 := add_run N ⟨#[32]⟩ (by rw [show (⟨#[32]⟩ : ByteArray).size = 1 from rfl]; have := HNz.out; omega)
        have q2 := add_run (N ++ ⟨#[32]⟩) ⟨#[115, 121, 109]⟩ (by rw [ByteArray.size_append, show (⟨#[32]⟩ : ByteArray).size = 1 from rfl, show (⟨#[115, 121, 109]⟩ : ByteArray).size = 3 from rfl]; have := HNz.out; omega)
        have HRs : Hid ((N ++ ⟨#[32]⟩ ++ ⟨#[115, 121, 109]⟩).size ≤ 304) := Lib.hid (by rw [ByteArray.size_append, ByteArray.size_append, show (⟨#[32]⟩ : ByteArray).size = 1 from rfl, show (⟨#[115, 121, 109]⟩ : ByteArray).size = 3 from rfl]; have := HNz.out; omega)
        have HRp : Hid (paramP L[k] = some (N ++ ⟨#[32]⟩ ++ ⟨#[115, 121, 109]⟩ : ByteArray).data.toList) := Lib.hid (by
          rw [← HXe.out, HPw.out, HVt.out, HTy.out]
          simp [two])
        obtain ⟨RR, hRR⟩ : ∃ RR : ByteArray, RR = N ++ ⟨#[32]⟩ ++ ⟨#[115, 121, 109]⟩ := ⟨_, rfl⟩
        rw [← hRR] at q2 HRs HRp
        clear hRR
        have htl : ts.length ≤ 1000000 := by rw [row_len HJ.out.all_ (by omega)]; omega
        go_wp2_with fail
        go_region_law (first
          | (refine step_appY stY rfl (.tmp 35) (.tmp 43) 85 9 rfl w0.heap.size (.string ⟨#[]⟩) 16 Tryz.underlying85 Tryz.infoStg rfl (by decide) (by decide) u4 ts RR.data.toList [.string RR] w4.heap.size 1 rfl rfl HOw.out (st_is _ _ _ RR) (lit_rowcells w4 [.string RR] _) htl (by have := HJ4.out.below.size; simp; omega) ?_; intro v2 w5 ho hg hv2; have HNx := Lib.hid (HJ4.out.next hkn HRp.out HRs.out ho hg); clear ho hg hv2)
          | (go_simp; go_at_call 35; refine (HT.out _).mono ?_; rintro y w4 ⟨rfl, hb4⟩; have HJ4 := Lib.hid (HJ3.out.on ((Below.refl _ w3).drew.trans hb4)); have HOw := Lib.hid (HJ4.out.lit RR); obtain ⟨⟨i0, i1⟩, if0, if1⟩ := cells2 ((hb4.block wr.heap.size (by simpa using (Array.getElem?_eq_some_iff.1 HP3.out).1)).trans HP3.out); clear hb4))
        all_goals
          go_wp2_with fail
          go_roundw
          case rel => exact ⟨k + 1, ts ++ [RR.data.toList], by omega, by go_num, HNx⟩
          case measure => simp [intOf]; omega
      · have HTy := Lib.hid hv
        have HT : Hid (∀ W, Calls Tryz.prog 35 #[.int .i64 TY] W fun e w' => e = .returned (.string ⟨#[]⟩) ∧ Below W.heap.size W w') := Lib.hid (fun W => (rtyp_any TY W).mono fun e w' hh => by obtain ⟨rfl, rfl⟩ := hh; exact ⟨by rw [hv]; rfl, Below.refl _ _⟩)
        clear hv
        go_wp2_with fail
        refine (HT.out _).mono ?_
        rintro y w3 ⟨rfl, hb3⟩
        have HE := Lib.hid (HB0.out.trans ((HJ2.out.on hb3).below.mono HB0.out.size))
        clear hb3 l0 l1 lf0 lf1
        go_wp2_with fail
        go_ret2
        refine .no ?_ HE.out
        rw [HO.out.2 HY.out, row_none _ hkn (by rw [← HXe.out, HPw.out, HTy.out]; cases varP X.1 <;> rfl)]
        rfl
    · have hge : ¬ (k : Int) < (n : Int) := by omega
      have HR := Lib.hid (row_all [44, 32] HJ.out.all_ (by rw [← HNn.out]; omega))
      have HBr := Lib.hid (HB0.out.trans (HJ.out.below.mono HB0.out.size))
      go_wp2_with fail
      refine (HAc.out _ HBr.out).mono ?_
      intro y w3 hy
      rcases hy.cases_ with ⟨tx, g1, g2, rfl, g3⟩ | ⟨g1, rfl, g3⟩
      rotate_left
      · have HE := Lib.hid (HB0.out.trans ((HJ.out.on g3).below.mono HB0.out.size))
        have HTn := Lib.hid g1
        clear hy g1 g3 d0 d1 d2 df0 df1 df2
        go_wp2_with fail
        go_ret2
        refine .no ?_ HE.out
        rw [HO.out.2 HY.out, HTn.out]
        cases rowP paramP [44, 32] L <;> rfl
      have HTx := Lib.hid (And.intro g1 g2)
      have HJ3 := Lib.hid (HJ.out.on g3)
      have hx3 := (g3.block w.heap.size (Array.getElem?_eq_some_iff.1 HXr.out).1).trans HXr.out
      have HX3 := Lib.hid hx3
      clear hy g1 g2 g3 d0 d1 d2 df0 df1 df2
      obtain ⟨⟨d0, d1, d2⟩, df0, df1, df2⟩ := cells3 hx3
      clear hx3
      have HJn : Hid (∀ W, Below w3.heap.size w3 W → Calls Tryz.prog 32 #[u4, .string ⟨#[44, 32]⟩] W fun e w' => e = .returned (.string ⟨(joinS [44, 32] ts).toArray⟩) ∧ Below W.heap.size W w') := Lib.hid (fun W hb => rjoin_any u4 ts _ ⟨#[44, 32]⟩ W ((HJ3.out.on hb).own.in_) (by have h1 := HJ.out.len (by have := HNn.out; omega) [44, 32]; have h2 : k * (304 + 2) ≤ 12 * (304 + 2) := Nat.mul_le_mul_right _ (by omega); exact Nat.le_trans h1 (Nat.le_trans h2 (by decide))) (by rw [row_len HJ.out.all_ (by have := HNn.out; omega)]; omega))
      obtain ⟨J, hJ⟩ : ∃ J : ByteArray, J = ⟨(joinS [44, 32] ts).toArray⟩ := ⟨_, rfl⟩
      have HJl := Lib.hid (show J.data.toList = joinS [44, 32] ts by rw [hJ])
      have HJz := Lib.hid (show J.size ≤ 3672 by
        rw [hJ, str_len]
        have h1 := HJ.out.len (by have := HNn.out; omega) [44, 32]
        have h2 : k * (304 + 2) ≤ 12 * (304 + 2) := Nat.mul_le_mul_right _ (by omega)
        exact Nat.le_trans h1 (Nat.le_trans h2 (by decide)))
      rw [← hJ] at HJn
      clear hJ
      have HLz := Lib.hid (show (⟨#[111, 110, 32]⟩ : ByteArray).size = 3 from rfl)
      have HXx : Hid ((⟨#[111, 110, 32]⟩ ++ nm ++ ⟨#[40]⟩ ++ J ++ ⟨#[41]⟩ ++ tx ++ ⟨#[46]⟩).data.toList = [111, 110, 32] ++ nm.data.toList ++ [40] ++ J.data.toList ++ [41] ++ tx.data.toList ++ [46]) := Lib.hid (by simp)
      obtain ⟨p4, c4, rfl⟩ := HJ.out.shape
      clear hlt hk hn12
      generalize hLD : (⟨#[111, 110, 32]⟩ : ByteArray) = LD at *
      clear hLD
      have HZ : Hid ((⟨#[40]⟩ : ByteArray).size = 1 ∧ (⟨#[41]⟩ : ByteArray).size = 1 ∧ (⟨#[46]⟩ : ByteArray).size = 1) := Lib.hid ⟨rfl, rfl, rfl⟩
      have HAll : Hid ((LD ++ nm ++ ⟨#[40]⟩ ++ J ++ ⟨#[41]⟩ ++ tx ++ ⟨#[46]⟩).size ≤ 130000) := Lib.hid (by have h1 := HLz.out; have h2 := HNs.out; have h3 := HJz.out; have h4 := HTx.out.2; obtain ⟨z1, z2, z3⟩ := HZ.out; simp only [ByteArray.size_append]; omega)
      have q0 := add_run LD nm (by have h1 := HLz.out; have h2 := HNs.out; omega)
      have q1 := add_run (LD ++ nm) ⟨#[40]⟩ (by have h1 := HLz.out; have h2 := HNs.out; obtain ⟨z1, z2, z3⟩ := HZ.out; simp only [ByteArray.size_append]; omega)
      have q2 := add_run (LD ++ nm ++ ⟨#[40]⟩) J (by have h1 := HLz.out; have h2 := HNs.out; have h3 := HJz.out; obtain ⟨z1, z2, z3⟩ := HZ.out; simp only [ByteArray.size_append]; omega)
      have q3 := add_run (LD ++ nm ++ ⟨#[40]⟩ ++ J) ⟨#[41]⟩ (by have h1 := HLz.out; have h2 := HNs.out; have h3 := HJz.out; obtain ⟨z1, z2, z3⟩ := HZ.out; simp only [ByteArray.size_append]; omega)
      have q4 := add_run (LD ++ nm ++ ⟨#[40]⟩ ++ J ++ ⟨#[41]⟩) tx (by have h1 := HLz.out; have h2 := HNs.out; have h3 := HJz.out; have h4 := HTx.out.2; obtain ⟨z1, z2, z3⟩ := HZ.out; simp only [ByteArray.size_append]; omega)
      have q5 := add_run (LD ++ nm ++ ⟨#[40]⟩ ++ J ++ ⟨#[41]⟩ ++ tx) ⟨#[46]⟩ (by have h1 := HLz.out; have h2 := HNs.out; have h3 := HJz.out; have h4 := HTx.out.2; obtain ⟨z1, z2, z3⟩ := HZ.out; simp only [ByteArray.size_append]; omega)
      go_wp2_with fail
      go_region_with (go_at_call 32; refine (HJn.out _ (Below.refl _ _).drew).mono ?_; rintro y w5 ⟨rfl, hb5⟩; have HB5 := Lib.hid hb5; have hx5 := (hb5.block w.heap.size (by simpa using (Array.getElem?_eq_some_iff.1 HX3.out).1)).trans HX3.out; have e0 := cell_at hx5 0 _ rfl; clear hx5 hb5)
      all_goals go_wp2_with fail
      all_goals
        go_ret2
        refine say_of (e' := .returned (.tuple #[.string (LD ++ nm ++ ⟨#[40]⟩ ++ J ++ ⟨#[41]⟩ ++ tx ++ ⟨#[46]⟩), .int .i64 0])) (by kernel_rfl) ?_
        refine .yes ?_ HAll.out (HB0.out.trans ((HJ3.out.on (show Below w3.heap.size w3 _ from ((Below.refl _ w3).drew).trans HB5.out)).below.mono HB0.out.size))
        rw [HO.out.2 HY.out, HR.out, HTx.out.1, HXx.out, HJl.out]
        rfl
end
end Go.Proofs.YtlbofeidiclhgaaGreatDoor
