/-
  The document's print: names, variables, types, signs, terms.
  The document's print: terms, and texts joined.
  The document's print: what its loops keep; atoms.
-/
import Derived.Test.YtlbofeidiclhgaaGreatDoorJ06
import Derived.Test.YtlbofeidiclhgaaGreatDoorLxX
import Derived.Test.YtlbofeidiclhgaaGreatDoorRtext
import Derived.Test.YtlbofeidiclhgaaGreatDoorJ09
import Derived.Laws.IdiomStrings
import Derived.Test.YtlbofeidiclhgaaGreatDoorJ10
import Derived.RegionTactic
import Derived.BigRegion
namespace Go.Proofs.YtlbofeidiclhgaaGreatDoor
section
open Go Go.RowKit Go.Shelf

/-- Rows of texts. -/
def stY : Lay (List UInt8) where
  sz := 1
  is := fun _ _ us s => us = [.string ⟨s.toArray⟩]
  len := fun h => by rw [h]; rfl
  one := fun h u hu => by
    subst h
    simp only [List.mem_cons, List.not_mem_nil, or_false] at hu
    rw [hu]; rfl
  keep := fun h _ _ => h
theorem Tryz.infoStg : (Tryz.prog.info? 9).map (fun i => (i.zero, i.size, i.bytes)) = some (some (.string ⟨#[]⟩), 1, 16) := by kernel_rfl
/-- The document's answer: a text of no more than M bytes, or none. -/
def SayS (M : Nat) (o : Option (List UInt8)) (w : World) (e : Ending) (w' : World) : Prop :=
  ((∃ s : ByteArray, o = some s.data.toList ∧ s.size ≤ M ∧ e = .returned (.tuple #[.string s, .int .i64 0])) ∨ (o = none ∧ e = .returned (.tuple #[.string ⟨#[]⟩, .int .i64 140]))) ∧ Below w.heap.size w w'
theorem SayS.le {M M' : Nat} {o : Option (List UInt8)} {w w' : World} {e : Ending} (hM : M ≤ M') (h : SayS M o w e w') : SayS M' o w e w' := by
  obtain ⟨⟨s, h1, h2, h3⟩ | h, hb⟩ := h
  · exact ⟨.inl ⟨s, h1, Nat.le_trans h2 hM, h3⟩, hb⟩
  · exact ⟨.inr h, hb⟩
theorem SayS.yes {M : Nat} {o : Option (List UInt8)} {w w' : World} {s : ByteArray} (ho : o = some s.data.toList) (hs : s.size ≤ M) (hb : Below w.heap.size w w') : SayS M o w (.returned (.tuple #[.string s, .int .i64 0])) w' := ⟨.inl ⟨s, ho, hs, rfl⟩, hb⟩
theorem SayS.no {M : Nat} {o : Option (List UInt8)} {w w' : World} (ho : o = none) (hb : Below w.heap.size w w') : SayS M o w (.returned (.tuple #[.string ⟨#[]⟩, .int .i64 140])) w' := ⟨.inr ⟨ho, rfl⟩, hb⟩
/-- An answer yes or no. -/
def BoolE (p : Prop) (w : World) (e : Ending) (w' : World) : Prop := ((p ∧ e = .returned (.bool true)) ∨ (¬ p ∧ e = .returned (.bool false))) ∧ Below w.heap.size w w'
theorem words_code {s : List UInt8} (h : (wordsL s).2.2 ≠ 0) : (wordsL s).1 = [] := by
  unfold wordsL at h ⊢
  split
  · rfl
  · rename_i hl
    rw [if_neg hl] at h
    revert h
    rcases lexS valL s 0 with ⟨L, _ | n⟩
    · intro h
      exact absurd rfl h
    · exact fun _ => rfl
set_option maxRecDepth 100000 in
set_option maxHeartbeats 2000000 in
theorem ronly_any (s : ByteArray) (k : Int) (w : World) (hk : k ≠ 0) (hm : s.size ≤ 65536) :
    Calls Tryz.prog 61 #[.string s, .int .i64 k] w (BoolE (kindL s.data.toList = k) w) := by
  have HW := Lib.hid (rwords_any s w (by omega))
  have hl : s.data.toList.length ≤ 65536 := by rw [← Lib.size_eq]; exact hm
  obtain ⟨L, hL⟩ : ∃ L, (wordsL s.data.toList).1 = L := ⟨_, rfl⟩
  obtain ⟨q, hq⟩ : ∃ q, (wordsL s.data.toList).2.2 = q := ⟨_, rfl⟩
  have HNo := Lib.hid (show L.length ≠ 1 → kindL s.data.toList ≠ k from fun h e => hk (e.symm.trans (kind_none hl (by rw [hL]; exact h))))
  have HOne := Lib.hid (show ∀ x, L = [x] → kindL s.data.toList = if x.text = s.data.toList then x.kind else 0 from fun x e => kind_one hl (by rw [hL]; exact e))
  have HQ := Lib.hid (show q ≠ 0 → L = [] from fun h => by rw [← hL]; exact words_code (by rw [hq]; exact h))
  clear hm
  go_enter Tryz.func61, Tryz.ntmps61
  go_wp2_with fail
  refine HW.out.mono ?_
  rintro y w1 ⟨⟨v, rfl, ho⟩, hb⟩
  rw [hL] at ho
  rw [hq]
  have hin : WIn (fun k => w.heap.size ≤ k ∧ k < w1.heap.size) w1 v L := ho.in_ _ (fun k e => ho.lt k e)
  have HB := Lib.hid hb
  clear ho hb HW hl hL hq
  by_cases hq0 : q = 0
  · subst hq0
    rcases L with _ | ⟨x, _ | ⟨x2, r⟩⟩
    · obtain ⟨p, c, rfl, -⟩ := hin
      go_wp2_with fail
      go_ret
      exact ⟨.inr ⟨HNo.out (by simp), rfl⟩, HB.out⟩
    · obtain ⟨b, off, c, rfl, -, -, hbl, -, hat⟩ := hin.at_ (by simp)
      obtain ⟨a0, a1, -⟩ := hat 0 (by simp)
      clear hat hin
      simp only [List.getElem_cons_zero, Nat.zero_mul, Nat.add_zero] at a0 a1
      by_cases h1 : x.kind = k
      · by_cases h2 : x.text = s.data.toList
        · have HE := Lib.hid (show kindL s.data.toList = k by rw [HOne.out x rfl, if_pos h2]; exact h1)
          subst h1
          rw [str_of_list h2] at a1
          clear h2
          go_wp2_with fail
          go_ret
          exact ⟨.inl ⟨HE.out, rfl⟩, HB.out⟩
        · have HE := Lib.hid (show kindL s.data.toList ≠ k by rw [HOne.out x rfl, if_neg h2]; exact fun e => hk e.symm)
          subst h1
          have h3 : (x.text == s.toList) = false := by
            rw [Lib.toList_data]
            simpa using h2
          clear h2
          go_wp2_with fail
          go_ret
          exact ⟨.inr ⟨HE.out, rfl⟩, HB.out⟩
      · have HE := Lib.hid (show kindL s.data.toList ≠ k by
          rw [HOne.out x rfl]
          split
          · exact h1
          · exact fun e => hk e.symm)
        have h2 : (x.kind == k) = false := by simpa using h1
        go_wp2_with fail
        go_ret
        exact ⟨.inr ⟨HE.out, rfl⟩, HB.out⟩
    · obtain ⟨p, c, rfl, -⟩ := hin
      have h2 : ((((x :: x2 :: r).length : Nat) : Int) == 1) = false := by simp; omega
      have HN2 := Lib.hid (HNo.out (by simp))
      clear HNo HOne HQ
      generalize (x :: x2 :: r).length = m at *
      go_wp2_with fail
      go_ret
      exact ⟨.inr ⟨HN2.out, rfl⟩, HB.out⟩
  · obtain rfl := HQ.out hq0
    have h2 : (q == 0) = false := by simpa using hq0
    obtain ⟨p, c, rfl, -⟩ := hin
    go_wp2_with fail
    go_ret
    exact ⟨.inr ⟨HNo.out (by simp), rfl⟩, HB.out⟩
set_option maxRecDepth 100000 in
set_option maxHeartbeats 2000000 in
theorem rVar_any (s : ByteArray) (w : World) (hm : s.size ≤ 65536) : Calls Tryz.prog 37 #[.string s] w (BoolE (varB s.data.toList = true) w) := by
  have HW := Lib.hid (ronly_any s 2 w (by decide) hm)
  have HV := Lib.hid (show varB s.data.toList = true ↔ kindL s.data.toList = 2 by unfold varB; simp)
  clear hm
  go_enter Tryz.func37, Tryz.ntmps37
  go_wp2_with fail
  refine HW.out.mono ?_
  rintro y w1 ⟨⟨h, rfl⟩ | ⟨h, rfl⟩, hb⟩
  · have HE := Lib.hid (And.intro (HV.out.2 h) hb)
    clear h hb
    go_wp2_with fail
    go_ret
    exact ⟨.inl ⟨HE.out.1, rfl⟩, HE.out.2⟩
  · have HE := Lib.hid (And.intro (fun e => h (HV.out.1 e)) hb)
    clear h hb
    go_wp2_with fail
    go_ret
    exact ⟨.inr ⟨HE.out.1, rfl⟩, HE.out.2⟩
set_option maxRecDepth 100000 in
set_option maxHeartbeats 2000000 in
theorem rName_any (s : ByteArray) (w : World) (hm : s.size ≤ 65536) : Calls Tryz.prog 34 #[.string s] w (BoolE (nameB s.data.toList = true) w) := by
  have HW := Lib.hid (ronly_any s 1 w (by decide) hm)
  have HV := Lib.hid (show nameB s.data.toList = true ↔ kindL s.data.toList = 1 ∧ reservedL s.data.toList = false by unfold nameB; simp)
  clear hm
  by_cases hr : reservedL s.data.toList = true
  · have HN := Lib.hid (show ¬ nameB s.data.toList = true from fun e => by have := (HV.out.1 e).2; rw [hr] at this; cases this)
    have key : s.toList = wBase ∨ s.toList = wView ∨ s.toList = wOn ∨ s.toList = wNot := by
      rw [Lib.toList_data]
      simpa [reservedL, or_assoc] using hr
    clear hr HV
    rcases key with h | h | h | h
    · have b1 : (s.toList == [98, 97, 115, 101]) = true := by rw [h]; decide
      clear h
      go_enter Tryz.func34, Tryz.ntmps34
      go_wp2_with fail
      refine HW.out.mono ?_
      rintro y w1 ⟨⟨h, rfl⟩ | ⟨h, rfl⟩, hb⟩
      all_goals
        have HE := Lib.hid hb
        clear hb h
        go_wp2_with fail
        go_ret
        exact ⟨.inr ⟨HN.out, rfl⟩, HE.out⟩
    · have b1 : (s.toList == [98, 97, 115, 101]) = false := by rw [h]; decide
      have b2 : (s.toList == [118, 105, 101, 119]) = true := by rw [h]; decide
      clear h
      go_enter Tryz.func34, Tryz.ntmps34
      go_wp2_with fail
      refine HW.out.mono ?_
      rintro y w1 ⟨⟨h, rfl⟩ | ⟨h, rfl⟩, hb⟩
      all_goals
        have HE := Lib.hid hb
        clear hb h
        go_wp2_with fail
        go_ret
        exact ⟨.inr ⟨HN.out, rfl⟩, HE.out⟩
    · have b1 : (s.toList == [98, 97, 115, 101]) = false := by rw [h]; decide
      have b2 : (s.toList == [118, 105, 101, 119]) = false := by rw [h]; decide
      have b3 : (s.toList == [111, 110]) = true := by rw [h]; decide
      clear h
      go_enter Tryz.func34, Tryz.ntmps34
      go_wp2_with fail
      refine HW.out.mono ?_
      rintro y w1 ⟨⟨h, rfl⟩ | ⟨h, rfl⟩, hb⟩
      all_goals
        have HE := Lib.hid hb
        clear hb h
        go_wp2_with fail
        go_ret
        exact ⟨.inr ⟨HN.out, rfl⟩, HE.out⟩
    · have b1 : (s.toList == [98, 97, 115, 101]) = false := by rw [h]; decide
      have b2 : (s.toList == [118, 105, 101, 119]) = false := by rw [h]; decide
      have b3 : (s.toList == [111, 110]) = false := by rw [h]; decide
      have b4 : (s.toList == [110, 111, 116]) = true := by rw [h]; decide
      clear h
      go_enter Tryz.func34, Tryz.ntmps34
      go_wp2_with fail
      refine HW.out.mono ?_
      rintro y w1 ⟨⟨h, rfl⟩ | ⟨h, rfl⟩, hb⟩
      all_goals
        have HE := Lib.hid hb
        clear hb h
        go_wp2_with fail
        go_ret
        exact ⟨.inr ⟨HN.out, rfl⟩, HE.out⟩
  · have hr' : reservedL s.data.toList = false := by simpa using hr
    have key : ((s.toList == [98, 97, 115, 101]) = false ∧ (s.toList == [118, 105, 101, 119]) = false) ∧ (s.toList == [111, 110]) = false ∧ (s.toList == [110, 111, 116]) = false := by
      rw [Lib.toList_data]
      have h := hr'
      simp only [reservedL, Bool.or_eq_false_iff, and_assoc] at h
      exact ⟨⟨h.1, h.2.1⟩, h.2.2.1, h.2.2.2⟩
    obtain ⟨⟨b1, b2⟩, b3, b4⟩ := key
    have HV2 := Lib.hid (show nameB s.data.toList = true ↔ kindL s.data.toList = 1 from HV.out.trans ⟨fun h => h.1, fun h => ⟨h, hr'⟩⟩)
    clear hr hr' HV
    go_enter Tryz.func34, Tryz.ntmps34
    go_wp2_with fail
    refine HW.out.mono ?_
    rintro y w1 ⟨⟨h, rfl⟩ | ⟨h, rfl⟩, hb⟩
    · have HE := Lib.hid (And.intro (HV2.out.2 h) hb)
      clear h hb
      go_wp2_with fail
      go_ret
      exact ⟨.inl ⟨HE.out.1, rfl⟩, HE.out.2⟩
    · have HE := Lib.hid (And.intro (fun e => h (HV2.out.1 e)) hb)
      clear h hb
      go_wp2_with fail
      go_ret
      exact ⟨.inr ⟨HE.out.1, rfl⟩, HE.out.2⟩
set_option maxRecDepth 100000 in
set_option maxHeartbeats 2000000 in
theorem rtyp_any (n : Int) (w : World) : Calls Tryz.prog 35 #[.int .i64 n] w fun e w' => e = .returned (.string ⟨((typeP n).getD []).toArray⟩) ∧ w = w' := by
  by_cases h1 : n = 1
  · subst h1
    go_enter Tryz.func35, Tryz.ntmps35
    go_wp2_with fail
    go_ret
    exact ⟨rfl, rfl⟩
  by_cases h2 : n = 2
  · subst h2
    go_enter Tryz.func35, Tryz.ntmps35
    go_wp2_with fail
    go_ret
    exact ⟨rfl, rfl⟩
  have HN := Lib.hid (show typeP n = none by unfold typeP; rw [if_neg h1, if_neg h2])
  rw [HN.out]
  go_enter Tryz.func35, Tryz.ntmps35
  go_wp2_with fail
  go_ret
  exact ⟨rfl, rfl⟩
set_option maxRecDepth 100000 in
set_option maxHeartbeats 2000000 in
theorem rop_any (n : Int) (w : World) : Calls Tryz.prog 58 #[.int .i64 n] w fun e w' => e = .returned (.string ⟨((opP n).getD []).toArray⟩) ∧ w = w' := by
  by_cases h : n = 1 ∨ n = 2 ∨ n = 3 ∨ n = 4 ∨ n = 5 ∨ n = 6
  · rcases h with rfl | rfl | rfl | rfl | rfl | rfl
    all_goals
      go_enter Tryz.func58, Tryz.ntmps58
      go_wp2_with fail
      go_ret
      exact ⟨rfl, rfl⟩
  · have h1 : ¬ n = 1 := fun e => h (by omega)
    have h2 : ¬ n = 2 := fun e => h (by omega)
    have h3 : ¬ n = 3 := fun e => h (by omega)
    have h4 : ¬ n = 4 := fun e => h (by omega)
    have h5 : ¬ n = 5 := fun e => h (by omega)
    have h6 : ¬ n = 6 := fun e => h (by omega)
    have HN := Lib.hid (show opP n = none by unfold opP; rw [if_neg h1, if_neg h2, if_neg h3, if_neg h4, if_neg h5, if_neg h6])
    rw [HN.out]
    clear h
    go_enter Tryz.func58, Tryz.ntmps58
    go_wp2_with fail
    go_ret
    exact ⟨rfl, rfl⟩
end
section
open Go Go.RowKit Go.Shelf

theorem term_eq {t : TmL} : (t.kind = 1 → termP t = if varB t.name = true ∧ t.val = zeroL then some t.name else none) ∧ (t.kind = 3 → termP t = if t.name = [] ∧ t.val = zeroL then some [95] else none) ∧ (¬ t.kind = 1 → ¬ t.kind = 2 → ¬ t.kind = 3 → termP t = none) := by
  unfold termP
  refine ⟨fun h => ?_, fun h => ?_, fun h1 h2 h3 => ?_⟩
  · rw [if_pos h]
  · rw [if_neg (by omega), if_neg (by omega), if_pos h]
  · rw [if_neg h1, if_neg h2, if_neg h3]
set_option maxRecDepth 100000 in
set_option maxHeartbeats 4000000 in
theorem rterm_any (t : TmL) (w : World) (hs : SmT t) : Calls Tryz.prog 57 #[valT t] w (SayS 1100 (termP t) w) := by
  obtain ⟨k, nm, v1, v2, v3⟩ := t
  obtain ⟨n, hn⟩ : ∃ n : ByteArray, n = ⟨nm.toArray⟩ := ⟨_, rfl⟩
  have hnl : n.data.toList = nm := by rw [hn]
  have hnm : n.size ≤ 300 := by rw [Lib.size_eq, hnl]; exact hs.name
  have hv2 : I64 v2 := hs.int
  clear hs
  show Calls Tryz.prog 57 #[.agg #[.int .i64 k, .string ⟨nm.toArray⟩, .int .i64 v1, .int .i64 v2, .string v3]] w (SayS 1100 (termP ⟨k, nm, v1, v2, v3⟩) w)
  have HTE := Lib.hid (term_eq (t := ⟨k, nm, v1, v2, v3⟩))
  have HTC := Lib.hid (fun h => term_const (t := ⟨k, nm, v1, v2, v3⟩) h)
  simp only at HTE HTC
  obtain ⟨bz, hz, qz⟩ := eqZ_run (v1, v2, v3)
  simp only at qz
  have HZ := Lib.hid hz
  have he : (n.toList == []) = decide (nm = []) := by rw [Lib.toList_data, hnl]; cases nm <;> rfl
  have he' : n.toList.isEmpty = decide (nm = []) := by rw [Lib.toList_data, hnl]; cases nm <;> rfl
  rw [← hn]
  obtain ⟨o, ho⟩ : ∃ o, termP ⟨k, nm, v1, v2, v3⟩ = o := ⟨_, rfl⟩
  rw [ho] at HTE HTC ⊢
  clear ho hz
  have HNl := Lib.hid hnl
  have HNm := Lib.hid hnm
  by_cases h1 : k = 1
  · subst h1
    have HO := Lib.hid (HTE.out.1 rfl)
    have HV : Hid (∀ W, Calls Tryz.prog 37 #[.string n] W (BoolE (varB nm = true) W)) := Lib.hid (fun W => by rw [← hnl]; exact rVar_any n W (by omega))
    clear hn hnl hnm hv2 HTE HTC he he'
    have HB := Lib.hid (below_box w (.cells #[.int .i64 1, .string n, .int .i64 v1, .int .i64 v2, .string v3] 71))
    go_enter Tryz.func57, Tryz.ntmps57
    go_wp2_with fail
    refine (HV.out _).mono ?_
    rintro y w1 ⟨hy, g3⟩
    have HE := Lib.hid (HB.out.trans (g3.mono HB.out.size))
    obtain ⟨c0, c1, c2, c3, c4⟩ := five_cells ((g3.block w.heap.size (by simp)).trans (heap_alloc_new w (.cells #[.int .i64 1, .string n, .int .i64 v1, .int .i64 v2, .string v3] 71)))
    clear g3
    rcases hy with ⟨hy, rfl⟩ | ⟨hy, rfl⟩
    · have HY := Lib.hid hy
      clear hy
      cases bz with
      | true =>
        go_wp2_with fail
        go_ret2
        exact .yes (by rw [HO.out, if_pos ⟨HY.out, HZ.out.1 (by simp)⟩, HNl.out]) (by have := HNm.out; omega) HE.out
      | false =>
        go_wp2_with fail
        go_ret2
        exact .no (by rw [HO.out, if_neg (fun e => by have := HZ.out.2 e.2; simp at this)]) HE.out
    · have HY := Lib.hid hy
      clear hy
      go_wp2_with fail
      go_ret2
      exact .no (by rw [HO.out, if_neg (fun e => HY.out e.1)]) HE.out
  by_cases h2 : k = 2
  · subst h2
    have HO := Lib.hid (HTC.out rfl)
    have HB := Lib.hid (below_box w (.cells #[.int .i64 2, .string n, .int .i64 v1, .int .i64 v2, .string v3] 71))
    clear HTC HTE h1 qz HZ
    by_cases hp : nm = []
    · rw [decide_eq_true hp] at he he'
      by_cases hV : IsV v1 v2 v3
      · have HIs : Hid (∀ W, Calls Tryz.prog 96 #[.agg #[.int .i64 v1, .int .i64 v2, .string v3]] W fun e w' => e = .returned (.bool true) ∧ Below W.heap.size W w') := Lib.hid (fun W => is_yes v1 v2 v3 W hV)
        have HT : Hid (∀ W, Calls Tryz.prog 97 #[.agg #[.int .i64 v1, .int .i64 v2, .string v3]] W fun e w' => e = .returned (.tuple #[.string (textS v1 v2 v3), .int .i64 0]) ∧ Below W.heap.size W w') := Lib.hid (fun W => rtext_yes v1 v2 v3 W hV hv2)
        have HS := Lib.hid (textS_size hV hv2)
        have HO2 := Lib.hid ((HO.out.1 hV).trans (if_pos hp))
        have HL := Lib.hid (textS_data v1 v2 v3)
        generalize textS v1 v2 v3 = r at *
        clear hn hnl hnm hv2 hV HO hp
        go_enter Tryz.func57, Tryz.ntmps57
        go_wp2_with fail
        refine (HIs.out _).mono ?_
        rintro y w1 ⟨rfl, g3⟩
        have HE := Lib.hid (HB.out.trans (g3.mono HB.out.size))
        obtain ⟨c0, c1, c2, c3, c4⟩ := five_cells ((g3.block w.heap.size (by simp)).trans (heap_alloc_new w (.cells #[.int .i64 2, .string n, .int .i64 v1, .int .i64 v2, .string v3] 71)))
        clear g3
        go_wp2_with fail
        refine (HT.out _).mono ?_
        rintro y w2 ⟨rfl, g3⟩
        have HE2 := Lib.hid (HE.out.trans (g3.mono HE.out.size))
        clear g3 c0 c1 c2 c3 c4
        go_wp2_with fail
        go_ret2
        exact .yes (by rw [HO2.out]; exact congrArg some HL.out.symm) HS.out HE2.out
      · have HIs : Hid (∀ W, Calls Tryz.prog 96 #[.agg #[.int .i64 v1, .int .i64 v2, .string v3]] W fun e w' => e = .returned (.bool false) ∧ Below W.heap.size W w') := Lib.hid (fun W => is_no v1 v2 v3 W hV)
        have HO2 := Lib.hid (HO.out.2 hV)
        clear hn hnl hnm hv2 hV HO hp
        go_enter Tryz.func57, Tryz.ntmps57
        go_wp2_with fail
        refine (HIs.out _).mono ?_
        rintro y w1 ⟨rfl, g3⟩
        have HE := Lib.hid (HB.out.trans (g3.mono HB.out.size))
        obtain ⟨c0, c1, c2, c3, c4⟩ := five_cells ((g3.block w.heap.size (by simp)).trans (heap_alloc_new w (.cells #[.int .i64 2, .string n, .int .i64 v1, .int .i64 v2, .string v3] 71)))
        clear g3
        go_wp2_with fail
        go_ret2
        exact .no HO2.out HE.out
    · rw [decide_eq_false hp] at he he'
      have HO2 := Lib.hid (show o = none from by
        by_cases hV : IsV v1 v2 v3
        · rw [HO.out.1 hV, if_neg hp]
        · exact HO.out.2 hV)
      clear hn hnl hnm hv2 HO hp
      go_enter Tryz.func57, Tryz.ntmps57
      go_wp2_with fail
      go_ret2
      exact .no HO2.out HB.out
  by_cases h3 : k = 3
  · subst h3
    have HO := Lib.hid (HTE.out.2.1 rfl)
    have HB := Lib.hid (below_box w (.cells #[.int .i64 3, .string n, .int .i64 v1, .int .i64 v2, .string v3] 71))
    clear HTC HTE h1 h2 hn hnl hnm hv2
    by_cases hp : nm = []
    · rw [decide_eq_true hp] at he he'
      have HP := Lib.hid hp
      clear hp
      cases bz with
      | true =>
        go_enter Tryz.func57, Tryz.ntmps57
        go_wp2_with fail
        go_ret2
        exact .yes (by rw [HO.out, if_pos ⟨HP.out, HZ.out.1 (by simp)⟩]) (by decide) HB.out
      | false =>
        go_enter Tryz.func57, Tryz.ntmps57
        go_wp2_with fail
        go_ret2
        exact .no (by rw [HO.out, if_neg (fun e => by have := HZ.out.2 e.2; simp at this)]) HB.out
    · rw [decide_eq_false hp] at he he'
      have HP := Lib.hid hp
      clear hp
      go_enter Tryz.func57, Tryz.ntmps57
      go_wp2_with fail
      go_ret2
      exact .no (by rw [HO.out, if_neg (fun e => HP.out e.1)]) HB.out
  · have HO := Lib.hid (HTE.out.2.2 h1 h2 h3)
    clear HTC HTE hn hnl hnm hv2 qz HZ he he'
    go_enter Tryz.func57, Tryz.ntmps57
    go_wp2_with fail
    go_ret2
    exact .no HO.out (below_box w _)
theorem joinS_step (sep : List UInt8) (L : List (List UInt8)) (k : Nat) (h : k < L.length) : joinS sep (L.take (k + 1)) = joinS sep (L.take k) ++ (if k = 0 then L[k] else sep ++ L[k]) := by
  rw [List.take_succ_eq_append_getElem h, joinS_snoc, List.length_take, Nat.min_eq_left (by omega)]
theorem joinS_mono (sep : List UInt8) : ∀ (ts us : List (List UInt8)), (joinS sep ts).length ≤ (joinS sep (ts ++ us)).length
  | [], us => by simp [joinS]
  | a :: ts, us => by
    rw [List.cons_append, joinS, joinS]
    have := joinS_mono sep ts us
    by_cases h : ts = []
    · rw [if_pos h]
      simp
    · rw [if_neg h, if_neg (by simp [h])]
      simp only [List.length_append]
      omega
theorem joinS_take (sep : List UInt8) (L : List (List UInt8)) (k : Nat) : (joinS sep (L.take k)).length ≤ (joinS sep L).length := by
  have := joinS_mono sep (L.take k) (L.drop k)
  rwa [List.take_append_drop] at this
set_option maxRecDepth 100000 in
set_option maxHeartbeats 4000000 in
theorem rjoin_any (v : Value) (L : List (List UInt8)) (S : Nat → Prop) (sep : ByteArray) (w : World) (h : RowIn stY S w v L) (hlen : (joinS sep.data.toList L).length ≤ 10000000) (hL : L.length ≤ 1000000) :
    Calls Tryz.prog 32 #[v, .string sep] w fun e w' => e = .returned (.string ⟨(joinS sep.data.toList L).toArray⟩) ∧ Below w.heap.size w w' := by
  obtain ⟨i0, hi, hz0, hz1, hz2⟩ := info_parts Tryz.infoByte
  have HI := Lib.hid h
  have HLen := Lib.hid hlen
  obtain ⟨p, c, rfl⟩ := h.shape
  obtain ⟨n, hn⟩ : ∃ n, n = L.length := ⟨_, rfl⟩
  have HN := Lib.hid hn
  have hL' : (n : Int) ≤ 1000000 := by omega
  have hnL : n ≤ 1000000 := by omega
  rw [← hn] at HI ⊢
  clear h hlen hn hL
  go_enter Tryz.func32, Tryz.ntmps32
  go_wp2_with fail
  go_loopw [5, 6] (fun v i wr => ∃ k : Nat, k ≤ n ∧ i = .int .i64 k ∧ wr.ownsRow w.heap.size 5 1 v (joinS sep.data.toList (L.take k)).length (Lib.byteCells (joinS sep.data.toList (L.take k))) ∧ Hid (Below w.heap.size w wr)) (fun _ i _ => n - (intOf i).toNat)
  case atStart => exact ⟨0, Nat.zero_le _, rfl, World.ownsRow_nil _ _ _ _, Lib.hid (Below.refl _ _)⟩
  case round =>
    obtain ⟨k, hk, rfl, hown, HB⟩ := hrel
    have h0' : (0 : Int) ≤ (k : Int) := by omega
    by_cases hlt : k < n
    · have hlt' : (k : Int) < (n : Int) := by omega
      have hkn : k < L.length := by rw [← HN.out]; exact hlt
      obtain ⟨b, off, c1, us, e1, hbl, hu, hc⟩ := row_at HI.out hkn
      injection e1 with e1 hq1 hq2
      subst e1
      clear hq1 hq2
      obtain ⟨T, hT⟩ : ∃ T, T = L[k] := ⟨_, rfl⟩
      have hu : us = [.string ⟨L[k].toArray⟩] := hu
      rw [← hT] at hu
      subst hu
      have a1 : w.cell? ⟨b, off + k, none⟩ = some (.string ⟨T.toArray⟩) := by have := hc 0 _ rfl; simpa [stY] using this
      have HA1 := Lib.hid a1
      replace a1 := (HB.out.cell (p := ⟨b, off + k, none⟩) hbl).trans a1
      have HJ := joinS_step sep.data.toList L k hkn
      have hle2 := joinS_take sep.data.toList L (k + 1)
      rw [HJ] at hle2
      rw [← hT] at HJ hle2
      have hlz := HLen.out
      obtain ⟨J, hJ⟩ : ∃ J, J = joinS sep.data.toList (L.take k) := ⟨_, rfl⟩
      rw [← hJ] at hown HJ hle2
      have HO := Lib.hid hown
      have hTs : (⟨T.toArray⟩ : ByteArray).size = T.length := by rw [Lib.size_eq]
      have HSs := Lib.hid (show sep.size = sep.data.toList.length from Lib.size_eq _)
      have hbs := HB.out.size
      clear hc hT hJ hown
      obtain ⟨p1, n1, c2, rfl⟩ := bu_slice (by rw [bytes_len]; exact HO.out)
      by_cases h0 : k = 0
      · have hn1 : ¬ 0 < k := by omega
        have hn2 : ¬ (0 : Int) < (k : Int) := by omega
        rw [if_pos h0] at HJ hle2
        rw [List.length_append] at hle2
        have HQ := Lib.hid HJ
        clear HJ h0
        go_wp2_with (at_builtin; refine Lib.wpList_append_own_string _ rfl _ _ 95 9 rfl w.heap.size 5 i0 Tryz.underlying95 Tryz.underlying9 hi hz0 hz1 hz2 _ _ _ rfl HO.out ⟨T.toArray⟩ rfl (by unfold maxLen; omega) (by omega) (by omega) ?_)
        intro v' w2 hown' hgrow _
        have HB2 := Lib.hid (HB.out.grown hgrow (by omega) (fun k hk => (HO.out.lt k hk).1))
        have HO2 := Lib.hid (show w2.ownsRow w.heap.size 5 1 v' (joinS sep.data.toList (L.take (k + 1))).length (Lib.byteCells (joinS sep.data.toList (L.take (k + 1)))) by rw [HQ.out, bytes_app, List.length_append, ← str_cells T, ← hTs]; exact hown')
        obtain ⟨p2, n2, c2, rfl⟩ := bu_slice (by rw [bytes_len]; exact HO2.out)
        clear hown' hgrow
        go_wp2_with fail
        go_roundw
        case rel => exact ⟨k + 1, by omega, by go_num, HO2.out, HB2⟩
        case measure => simp [intOf]; omega
      · have hn1 : 0 < k := by omega
        have hn2 : (0 : Int) < (k : Int) := by omega
        rw [if_neg h0] at HJ hle2
        rw [List.length_append, List.length_append] at hle2
        have HQ := Lib.hid HJ
        clear HJ h0
        go_wp2_with (at_builtin; refine Lib.wpList_append_own_string _ rfl (.tmp 15) (.tmp 16) 95 9 rfl w.heap.size 5 i0 Tryz.underlying95 Tryz.underlying9 hi hz0 hz1 hz2 _ _ _ rfl HO.out sep rfl (by have := HSs.out; unfold maxLen; omega) (by have := HSs.out; omega) (by have := HSs.out; omega) ?_)
        intro v' w2 hown' hgrow _
        have HB2 := Lib.hid (HB.out.grown hgrow (by omega) (fun k hk => (HO.out.lt k hk).1))
        have a1' : w2.cell? ⟨b, off + k, none⟩ = some (.string ⟨T.toArray⟩) := (HB2.out.cell (p := ⟨b, _, none⟩) hbl).trans HA1.out
        have HO2 := Lib.hid (show w2.ownsRow w.heap.size 5 1 v' (J ++ sep.data.toList).length (Lib.byteCells (J ++ sep.data.toList)) by rw [bytes_app, List.length_append, ← text_cells, ← HSs.out]; exact hown')
        obtain ⟨p2, n2, c2, rfl⟩ := bu_slice (by rw [bytes_len]; exact HO2.out)
        have hJl : (J ++ sep.data.toList).length = J.length + sep.data.toList.length := by simp
        have HJl := Lib.hid hJl
        have hbs2 := HB2.out.size
        clear hown' hgrow a1 hJl
        go_wp2_with (at_builtin; refine Lib.wpList_append_own_string _ rfl (.tmp 18) (.tmp 22) 95 9 rfl w.heap.size 5 i0 Tryz.underlying95 Tryz.underlying9 hi hz0 hz1 hz2 _ _ _ rfl HO2.out ⟨T.toArray⟩ rfl ?c3 ?c4 ?c5 ?_)
        case c3 => unfold maxLen; rw [HJl.out]; omega
        case c4 => rw [HJl.out]; omega
        case c5 => omega
        intro v'' w3 hown'' hgrow' _
        have HB3 := Lib.hid (HB2.out.grown hgrow' (by omega) (fun k hk => (HO2.out.lt k hk).1))
        have HO3 := Lib.hid (show w3.ownsRow w.heap.size 5 1 v'' (joinS sep.data.toList (L.take (k + 1))).length (Lib.byteCells (joinS sep.data.toList (L.take (k + 1)))) by
          rw [HQ.out, ← List.append_assoc, bytes_app, List.length_append, HJl.out, ← str_cells T, ← HSs.out]
          exact hown'')
        obtain ⟨p3, n3, c3, rfl⟩ := bu_slice (by rw [bytes_len]; exact HO3.out)
        clear hown'' hgrow'
        go_wp2_with fail
        go_roundw
        case rel => exact ⟨k + 1, by omega, by go_num, HO3.out, HB3⟩
        case measure => simp [intOf]; omega
    · have hge : ¬ (k : Int) < (n : Int) := by omega
      have hP := HN.out
      rw [List.take_of_length_le (by omega)] at hown
      obtain ⟨P0, hP0⟩ : ∃ P0, P0 = joinS sep.data.toList L := ⟨_, rfl⟩
      have HP0 := Lib.hid hP0
      rw [← hP0] at hown
      clear hP hP0
      rcases hown.2 with ⟨rfl, hnil⟩ | ⟨g, cap, cur, rfl, -, -, -, -, -, -⟩
      · have ha : P0 = [] := List.eq_nil_of_length_eq_zero hnil
        have hcv := Lib.run_convert_nil_bytes (P := Tryz.prog) wr 95 9 5 0 Tryz.underlying95 Tryz.underlying5 Tryz.underlying9
        have HA := Lib.hid ha
        clear hown hnil ha
        go_wp2_with fail
        go_ret
        exact ⟨by rw [← HP0.out, HA.out]; rfl, HB.out⟩
      · have hcv := run_convert_bytes_back (P := Tryz.prog) wr 95 9 5 ⟨g, 0, none⟩ cap P0 Tryz.underlying95 Tryz.underlying5 Tryz.underlying9 (fun j hj => hown.cells (g := g) rfl j _ (by simp [Lib.byteCells, hj]))
        clear hown
        go_wp2_with fail
        go_ret
        exact ⟨by rw [← HP0.out]; rfl, HB.out⟩
end
section
open Go Go.RowKit Go.Shelf

/-- What a loop keeps: the texts so far, in a row of the call's own. -/
structure RtS {α : Type} (P : α → Option (List UInt8)) (M : Nat) (L : List α) (w : World) (k : Nat) (ts : List (List UInt8)) (v : Value) (wr : World) : Prop where
  all_ : allO ((L.take k).map P) = some ts
  short : ∀ t ∈ ts, t.length ≤ M
  own : RowOwn stY 9 w.heap.size wr v ts
  below : Below w.heap.size w wr
section
variable {α : Type} {P : α → Option (List UInt8)} {M : Nat} {L : List α} {w : World} {k : Nat} {ts : List (List UInt8)} {v : Value} {wr w1 : World}
theorem RtS.zero (w : World) : RtS P M L w 0 [] (.slice none 0 0) w := ⟨rfl, fun t h => (by cases h), RowOwn.nil _ _ _ _, Below.refl _ w⟩
theorem RtS.len (h : RtS P M L w k ts v wr) (hk : k ≤ L.length) (sep : List UInt8) : (joinS sep ts).length ≤ k * (M + sep.length) := by
  have h1 := joinS_len sep M ts h.short
  rw [row_len h.all_ hk] at h1
  exact h1
theorem RtS.on (h : RtS P M L w k ts v wr) (hb : Below wr.heap.size wr w1) : RtS P M L w k ts v w1 := { h with own := h.own.keep hb.size fun k _ hk => hb.block k hk, below := h.below.trans (hb.mono h.below.size) }
theorem RtS.lit (h : RtS P M L w k ts v wr) (r : ByteArray) : RowOwn stY 9 w.heap.size (wr.alloc (.cells #[.string r] 9)) v ts := h.own.keep (by simp) fun k _ hk => Below.heap_alloc _ _ _ hk
theorem RtS.next {v' : Value} {w2 : World} {r : ByteArray} (h : RtS P M L w k ts v wr) (hk : k < L.length) (hx : P L[k] = some r.data.toList) (hr : r.size ≤ M) (ho : RowOwn stY 9 w.heap.size w2 v' (ts ++ [r.data.toList])) (hg : (wr.alloc (.cells #[.string r] 9)).grownBy w2 v.ownBlock) : RtS P M L w (k + 1) (ts ++ [r.data.toList]) v' w2 :=
  ⟨row_step h.all_ hk hx, fun t ht => by
    rcases List.mem_append.1 ht with ht | ht
    · exact h.short t ht
    · rw [List.mem_singleton.1 ht, ← Lib.size_eq]; exact hr, ho, (h.below.alloc h.below.size _).grown hg (by have := h.below.size; simp; omega) (fun k e => (h.own.lt k e).1)⟩
theorem RtS.shape (h : RtS P M L w k ts v wr) : ∃ p c, v = .slice p ts.length c := by
  obtain ⟨us, ho, -⟩ := h.own
  rcases ho.2 with ⟨rfl, e⟩ | ⟨g, cap, cur, rfl, -⟩
  · exact ⟨none, 0, by rw [e]⟩
  · exact ⟨_, _, rfl⟩
end
theorem st_is (B : Nat) (w : World) (v : Value) (r : ByteArray) : stY.is (fun k => B ≤ k ∧ v.ownBlock ≠ some k) w [.string r] r.data.toList := rfl
theorem SayS.cases_ {M : Nat} {o : Option (List UInt8)} {w w' : World} {e : Ending} (h : SayS M o w e w') : (∃ s : ByteArray, o = some s.data.toList ∧ s.size ≤ M ∧ e = .returned (.tuple #[.string s, .int .i64 0]) ∧ Below w.heap.size w w') ∨ (o = none ∧ e = .returned (.tuple #[.string ⟨#[]⟩, .int .i64 140]) ∧ Below w.heap.size w w') := by
  obtain ⟨⟨s, h1, h2, h3⟩ | ⟨h1, h2⟩, hb⟩ := h
  · exact .inl ⟨s, h1, h2, h3, hb⟩
  · exact .inr ⟨h1, h2, hb⟩
set_option maxRecDepth 100000 in
set_option maxHeartbeats 4000000 in
theorem ratom_any (a : AtL) (u : Value) (S : Nat → Prop) (w : World) (h : RowIn tmY S w u a.args) (hs : SmA a) : Calls Tryz.prog 30 #[.agg #[.string ⟨a.pred.toArray⟩, u]] w (SayS 14000 (atomP a) w) := by
  obtain ⟨nm, hnm⟩ : ∃ nm : ByteArray, nm = ⟨a.pred.toArray⟩ := ⟨_, rfl⟩
  have hnl : nm.data.toList = a.pred := by rw [hnm]
  have HNs := Lib.hid (show nm.size ≤ 300 by rw [hnm, str_len]; exact hs.pred)
  have HN : Hid (∀ W, Calls Tryz.prog 34 #[.string nm] W (BoolE (nameB a.pred = true) W)) := Lib.hid (fun W => by rw [← hnl]; exact rName_any nm W (by have := HNs.out; omega))
  have HT : Hid (∀ (X : TmL) (W : World), X ∈ a.args → Calls Tryz.prog 57 #[.agg #[.int .i64 X.kind, .string ⟨X.name.toArray⟩, .int .i64 X.val.1, .int .i64 X.val.2.1, .string X.val.2.2]] W (SayS 1100 (termP X) W)) := Lib.hid (fun X W hm => rterm_any X W (hs.all_ X hm))
  have HI := Lib.hid h
  obtain ⟨p, c, rfl⟩ := h.shape
  obtain ⟨L, hL⟩ : ∃ L, L = a.args := ⟨_, rfl⟩
  obtain ⟨n, hn⟩ : ∃ n, n = L.length := ⟨_, rfl⟩
  have hn12 : n ≤ 12 := by rw [hn, hL]; exact hs.few
  have HO : Hid ((nameB a.pred = false → atomP a = none) ∧ (nameB a.pred = true → atomP a = (rowP termP [44, 32] L).map fun b => nm.data.toList ++ [40] ++ b ++ [41])) := Lib.hid ⟨fun e => by unfold atomP namedP nameP; rw [if_neg (by rw [e]; simp)]; rfl, fun e => by
    unfold atomP namedP nameP
    rw [if_pos e, ← hL, hnl]
    cases rowP termP [44, 32] L <;> rfl⟩
  have HNn := Lib.hid hn
  rw [← hnm]
  rw [← hL] at HI HT ⊢
  rw [← hn] at HI ⊢
  generalize atomP a = o at *
  generalize nameB a.pred = nb at *
  clear h hs hnm hnl hL hn a
  have HB := Lib.hid (below_box w (.cells #[.string nm, .slice p n c] 24))
  go_enter Tryz.func30, Tryz.ntmps30
  go_wp2_with fail
  refine (HN.out _).mono ?_
  rintro y w0 ⟨⟨hy, rfl⟩ | ⟨hy, rfl⟩, g3⟩
  · have HY := Lib.hid hy
    have hx := (g3.block w.heap.size (by simp)).trans (heap_alloc_new w (.cells #[.string nm, .slice p n c] 24))
    have HX := Lib.hid hx
    have HB0 := Lib.hid (HB.out.trans (g3.mono HB.out.size))
    clear hy g3 hx
    go_wp2_with fail
    go_loopw [4, 5] (fun v i wr => ∃ (k : Nat) (ts : List (List UInt8)), k ≤ n ∧ i = .int .i64 k ∧ Hid (RtS termP 1100 L w0 k ts v wr)) (fun _ i _ => n - (intOf i).toNat)
    case atStart => exact ⟨0, [], Nat.zero_le _, rfl, Lib.hid (RtS.zero w0)⟩
    case round =>
      obtain ⟨k, ts, hk, rfl, HJ⟩ := hrel
      have h0 : (0 : Int) ≤ (k : Int) := by omega
      have hxr := (HJ.out.below.block w.heap.size (Array.getElem?_eq_some_iff.1 HX.out).1).trans HX.out
      have d0 := cell_at hxr 0 _ rfl
      have d1 := cell_at hxr 1 _ rfl
      have HXr := Lib.hid hxr
      clear hxr
      by_cases hlt : k < n
      · have hlt' : (k : Int) < (n : Int) := by omega
        have hkn : k < L.length := by rw [← HNn.out]; exact hlt
        obtain ⟨b, off, c1, us, e1, hbl, hu, hc⟩ := row_at HI.out hkn
        injection e1 with e1 hq1 hq2
        subst e1
        clear hq1 hq2
        have hmem : L[k] ∈ L := List.getElem_mem hkn
        obtain ⟨X, hX⟩ : ∃ X, X = L[k] := ⟨_, rfl⟩
        rw [← hX] at hu hmem
        have HXe := Lib.hid hX
        have HMem := Lib.hid hmem
        have hu : us = cellT X := hu
        subst hu
        have hbw : ∀ o, wr.cell? ⟨b, o, none⟩ = w.cell? ⟨b, o, none⟩ := fun o => (HJ.out.below.cell (p := ⟨b, o, none⟩) (Nat.lt_of_lt_of_le hbl HB0.out.size)).trans (HB0.out.cell (p := ⟨b, o, none⟩) hbl)
        have a0 : wr.cell? ⟨b, off + k * 5, none⟩ = some (.int .i64 X.kind) := (hbw _).trans (hc 0 _ rfl)
        have a1 : wr.cell? ⟨b, off + k * 5 + 1, none⟩ = some (.string ⟨X.name.toArray⟩) := (hbw _).trans (hc 1 _ rfl)
        have a2 : wr.cell? ⟨b, off + k * 5 + 2, none⟩ = some (.int .i64 X.val.1) := (hbw _).trans (hc 2 _ rfl)
        have a3 : wr.cell? ⟨b, off + k * 5 + 3, none⟩ = some (.int .i64 X.val.2.1) := (hbw _).trans (hc 3 _ rfl)
        have a4 : wr.cell? ⟨b, off + k * 5 + 4, none⟩ = some (.string X.val.2.2) := (hbw _).trans (hc 4 _ rfl)
        clear hX hmem hc hbw hbl
        go_wp2_with fail
        refine (HT.out X wr HMem.out).mono ?_
        intro y w3 hy
        rcases hy.cases_ with ⟨r, g1, g2, rfl, g3⟩ | ⟨g1, rfl, g3⟩
        · have HE := Lib.hid (And.intro g1 g2)
          have HJ3 := Lib.hid (HJ.out.on g3)
          have HOw := Lib.hid (HJ3.out.lit r)
          have htl : ts.length ≤ 1000000 := by rw [row_len HJ.out.all_ (by omega)]; omega
          have hsz : w0.heap.size ≤ (w3.alloc (.cells #[.string r] 9)).heap.size := by have := HJ3.out.below.size; simp; omega
          clear hy g1 g2 g3 a0 a1 a2 a3 a4 d0 d1
          go_wp2_with (at_builtin; refine wpList_appY stY rfl (.tmp 31) (.tmp 33) 85 9 rfl w0.heap.size (.string ⟨#[]⟩) 16 Tryz.underlying85 Tryz.infoStg rfl (by decide) (by decide) u4 ts r.data.toList [.string r] w3.heap.size 1 rfl rfl HOw.out (st_is _ _ _ r) (lit_rowcells w3 [.string r] _) htl hsz ?_; intro v2 w4 ho hg hv2; have HNx := Lib.hid (HJ3.out.next hkn (by rw [← HXe.out]; exact HE.out.1) HE.out.2 ho hg); clear ho hg hv2)
          go_roundw
          case rel => exact ⟨k + 1, ts ++ [r.data.toList], by omega, by go_num, HNx⟩
          case measure => simp [intOf]; omega
        · have HE := Lib.hid (And.intro g1 (HB0.out.trans ((HJ.out.on g3).below.mono HB0.out.size)))
          clear hy g1 g3 a0 a1 a2 a3 a4 d0 d1
          go_wp2_with fail
          go_ret2
          refine .no ?_ HE.out.2
          rw [HO.out.2 HY.out, row_none _ hkn (by rw [← HXe.out]; exact HE.out.1)]
          rfl
      · have hge : ¬ (k : Int) < (n : Int) := by omega
        have HR := Lib.hid (row_all [44, 32] HJ.out.all_ (by rw [← HNn.out]; omega))
        have HJn : Hid (∀ W, Below wr.heap.size wr W → Calls Tryz.prog 32 #[u4, .string ⟨#[44, 32]⟩] W fun e w' => e = .returned (.string ⟨(joinS [44, 32] ts).toArray⟩) ∧ Below W.heap.size W w') := Lib.hid (fun W hb => rjoin_any u4 ts _ ⟨#[44, 32]⟩ W ((HJ.out.on hb).own.in_) (by have h1 := HJ.out.len (by have := HNn.out; omega) [44, 32]; have h2 : k * (1100 + 2) ≤ 12 * (1100 + 2) := Nat.mul_le_mul_right _ (by omega); exact Nat.le_trans h1 (Nat.le_trans h2 (by decide))) (by rw [row_len HJ.out.all_ (by have := HNn.out; omega)]; omega))
        obtain ⟨J, hJ⟩ : ∃ J : ByteArray, J = ⟨(joinS [44, 32] ts).toArray⟩ := ⟨_, rfl⟩
        have HJl := Lib.hid (show J.data.toList = joinS [44, 32] ts by rw [hJ])
        have HJz := Lib.hid (show J.size ≤ 13224 by
          rw [hJ, str_len]
          have h1 := HJ.out.len (by have := HNn.out; omega) [44, 32]
          have h2 : k * (1100 + 2) ≤ 12 * (1100 + 2) := Nat.mul_le_mul_right _ (by omega)
          exact Nat.le_trans h1 (Nat.le_trans h2 (by decide)))
        rw [← hJ] at HJn
        clear hJ
        have z1 : (⟨#[40]⟩ : ByteArray).size = 1 := rfl
        have z2 : (⟨#[41]⟩ : ByteArray).size = 1 := rfl
        have q1 := add_run nm ⟨#[40]⟩ (by have := HNs.out; omega)
        have q2 := add_run (nm ++ ⟨#[40]⟩) J (by have := HNs.out; have := HJz.out; rw [ByteArray.size_append]; omega)
        have q3 := add_run (nm ++ ⟨#[40]⟩ ++ J) ⟨#[41]⟩ (by have := HNs.out; have := HJz.out; rw [ByteArray.size_append, ByteArray.size_append]; omega)
        have HS : Hid ((nm ++ ⟨#[40]⟩ ++ J ++ ⟨#[41]⟩).size ≤ 14000) := Lib.hid (by have := HNs.out; have := HJz.out; rw [ByteArray.size_append, ByteArray.size_append, ByteArray.size_append]; omega)
        have HXx : Hid ((nm ++ ⟨#[40]⟩ ++ J ++ ⟨#[41]⟩).data.toList = nm.data.toList ++ [40] ++ J.data.toList ++ [41]) := Lib.hid (by simp)
        obtain ⟨p4, c4, rfl⟩ := HJ.out.shape
        clear z1 z2
        go_wp2_with fail
        go_region_with (go_at_call 32; refine (HJn.out _ (Below.refl _ _).drew).mono ?_; rintro y w5 ⟨rfl, hb5⟩; have HB5 := Lib.hid hb5; have hx5 := (hb5.block w.heap.size (by simpa using (Array.getElem?_eq_some_iff.1 HXr.out).1)).trans HXr.out; have e0 := cell_at hx5 0 _ rfl; clear hx5 hb5)
        all_goals go_wp2_with fail
        all_goals
          go_ret2
          refine .yes ?_ HS.out (HB0.out.trans ((HJ.out.on (show Below wr.heap.size wr _ from ((Below.refl _ wr).drew).trans HB5.out)).below.mono HB0.out.size))
          rw [HO.out.2 HY.out, HR.out, HXx.out, HJl.out]
          rfl
  · have HY := Lib.hid hy
    have HB0 := Lib.hid (HB.out.trans (g3.mono HB.out.size))
    clear hy g3
    go_wp2_with fail
    go_ret2
    exact .no (HO.out.1 (by simpa using HY.out)) HB0.out
end
end Go.Proofs.YtlbofeidiclhgaaGreatDoor
