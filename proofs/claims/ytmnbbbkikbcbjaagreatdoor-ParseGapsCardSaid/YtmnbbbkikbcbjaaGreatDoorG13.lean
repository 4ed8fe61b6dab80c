/-
  The laws' cut; the document's Words at any text; what a text with other gaps is.
  The walk of the law ParseGaps.
-/
import Derived.Test.YtmnbbbkikbcbjaaGreatDoorG12
import Derived.Test.YtmnbbbkikbcbjaaGreatDoorG10
namespace Go.Proofs.YtmnbbbkikbcbjaaGreatDoor
section
open Go Go.RowKit Go.Shelf

set_option maxRecDepth 100000 in
theorem pcut_any (s : ByteArray) (w : World) (hm : s.size ≤ maxLen) : ∃ C : ByteArray, (C.size ≤ 1500 ∨ 65536 < C.size ∧ C.size ≤ maxLen) ∧ Calls Tryz.prog 8 #[.string s] w fun e w' => e = .returned (.string C) ∧ w = w' := by
  unfold maxLen at hm
  by_cases h1 : 1500 < s.size
  · have h1' : (1500 : Int) < (s.size : Int) := by omega
    by_cases h2 : s.size ≤ 65536
    · have h2' : (s.size : Int) ≤ 65536 := by omega
      have h3 : (1500 : Int) ≤ (s.size : Int) := by omega
      refine ⟨s.extract 0 1500, .inl (by rw [ByteArray.size_extract]; omega), ?_⟩
      go_enter Tryz.func8, Tryz.ntmps8
      go_wp2_with fail
      go_ret
      exact ⟨rfl, rfl⟩
    · have h2' : ¬ (s.size : Int) ≤ 65536 := by omega
      refine ⟨s, .inr ⟨by omega, hm⟩, ?_⟩
      go_enter Tryz.func8, Tryz.ntmps8
      go_wp2_with fail
      go_ret
      exact ⟨rfl, rfl⟩
  · have h1' : ¬ (1500 : Int) < (s.size : Int) := by omega
    refine ⟨s, .inl (by omega), ?_⟩
    go_enter Tryz.func8, Tryz.ntmps8
    go_wp2_with fail
    go_ret
    exact ⟨rfl, rfl⟩
/-- The contract of the document's Words (text LxX). -/
def RWords : Prop := ∀ (s : ByteArray) (w : World), s.size ≤ 1000000 →
    Calls Tryz.prog 23 #[.string s] w fun e w' => (∃ v, e = .returned (.tuple #[v, .int .i64 ((wordsL s.data.toList).2.1 : Int), .int .i64 (wordsL s.data.toList).2.2]) ∧ OwnW w.heap.size w' v (wordsL s.data.toList).1) ∧ Below w.heap.size w w'
set_option maxRecDepth 100000 in
theorem rwords_full (HR : RWords) (s : ByteArray) (w : World) (hm : s.size ≤ 1000000 ∨ 65536 < s.size ∧ s.size ≤ maxLen) :
    Calls Tryz.prog 23 #[.string s] w fun e w' => (∃ v, e = .returned (.tuple #[v, .int .i64 ((wordsL s.data.toList).2.1 : Int), .int .i64 (wordsL s.data.toList).2.2]) ∧ OwnW w.heap.size w' v (wordsL s.data.toList).1) ∧ Below w.heap.size w w' := by
  rcases hm with hm | ⟨hlong, hm⟩
  · exact HR s w hm
  · unfold maxLen at hm
    have hl' : (65536 : Int) < (s.size : Int) := by omega
    have HE := Lib.hid (show wordsL s.data.toList = ([], 0, 2) by unfold wordsL; rw [if_pos (by rw [← Lib.size_eq]; exact hlong)])
    rw [HE.out]
    go_enter Tryz.func23, Tryz.ntmps23
    go_wp2_with fail
    refine bodyPost_ret (v := .tuple #[.slice none 0 0, .int .i64 0, .int .i64 2]) (by simp [results, Tryz.results23, go_sem]) rfl ⟨⟨_, rfl, OwnW.nil _ _⟩, Below.refl _ _⟩
theorem ownG_in {w w' : World} {v : Value} {L : List Wd} (h : OwnW w.heap.size w' v L) : WIn (fun k => w.heap.size ≤ k ∧ k < w'.heap.size) w' v L := h.in_ _ (fun k e => h.lt k e)
theorem gapB_snoc (y x : List UInt8) : ∀ a : List (List UInt8), gapB y (a ++ [x]) = gapB y a ++ (x ++ y)
  | [] => by simp [gapB]
  | t :: ts => by
    show t ++ (y ++ gapB y (ts ++ [x])) = (t ++ (y ++ gapB y ts)) ++ (x ++ y)
    rw [gapB_snoc y x ts]
    simp only [List.append_assoc]
theorem lexS_txt {V : List UInt8 → Option VL} : ∀ (N : Nat) (l : List UInt8) (p : Nat), l.length ≤ N → ∀ w ∈ (lexS V l p).1, w.text.length ≤ l.length := by
  intro N
  induction N with
  | zero =>
    intro l p hl
    obtain rfl : l = [] := List.eq_nil_of_length_eq_zero (by omega)
    rw [lexS_end (by simp [skC])]
    intro w hw
    cases hw
  | succ N ih =>
    intro l p hl
    cases e : l.drop (skC false l) with
    | nil => rw [lexS_end e]; intro w hw; cases hw
    | cons c r =>
      have h3 : (l.drop (skC false l)).length = r.length + 1 := by rw [e]; rfl
      rw [List.length_drop] at h3
      rw [lexS_at e]
      cases ht : tokL V (c :: r) with
      | none => rw [lexG_bad ht]; intro w hw; cases hw
      | some q =>
        obtain ⟨k, n, v⟩ := q
        obtain ⟨h1, h2, -⟩ := tok_len ht
        have i := ih ((c :: r).drop n) (p + skC false l + n) (by rw [List.length_drop, List.length_cons]; omega)
        rw [List.length_drop, List.length_cons] at i
        rw [lexG_tok ht]
        intro w hw
        rcases List.mem_cons.1 hw with rfl | hw
        · simp only [List.length_take, List.length_cons]
          omega
        · have := i w hw
          omega
/-- A text without line ends and not long. -/
def NoNl (c : ByteArray) : Prop := c.size ≤ 20 ∧ ∀ x ∈ c.data.toList, x ≠ 10
/-- The text built of so many words. -/
def Built (c : ByteArray) (L : List Wd) (k : Nat) (T : ByteArray) : Prop :=
  T.size ≤ 22 + k * 1530 ∧ T.data.toList = headOf c.data.toList ++ gapB (gapOf c.data.toList) ((L.take k).map Wd.text)
theorem Built.head {c : ByteArray} (hc : NoNl c) (L : List Wd) : Built c L 0 ((⟨#[37]⟩ : ByteArray) ++ c ++ ⟨#[10]⟩) := by
  have h := hc.1
  refine ⟨?_, ?_⟩
  · simp only [ByteArray.size_append]
    have h1 : (⟨#[37]⟩ : ByteArray).size = 1 := rfl
    have h2 : (⟨#[10]⟩ : ByteArray).size = 1 := rfl
    omega
  · simp [headOf, gapB]
theorem Built.step {c : ByteArray} (hc : NoNl c) {L : List Wd} {k : Nat} {T : ByteArray} (h : Built c L k T) (hk : k < L.length) (ht : L[k].text.length ≤ 1500) :
    Built c L (k + 1) (T ++ ⟨L[k].text.toArray⟩ ++ ⟨#[9, 32, 37]⟩ ++ c ++ ⟨#[10, 13]⟩) := by
  have h0 := hc.1
  have h4 := h.1
  refine ⟨?_, ?_⟩
  · simp only [ByteArray.size_append]
    have h1 : (⟨#[9, 32, 37]⟩ : ByteArray).size = 3 := rfl
    have h2 : (⟨#[10, 13]⟩ : ByteArray).size = 2 := rfl
    have h3 : (⟨L[k].text.toArray⟩ : ByteArray).size = L[k].text.length := by simp [ByteArray.size]
    omega
  · have e : (L.take (k + 1)).map Wd.text = (L.take k).map Wd.text ++ [L[k].text] := by
      rw [List.take_succ_eq_append_getElem hk, List.map_append]
      rfl
    rw [e, gapB_snoc, ← List.append_assoc, ← h.2]
    simp [gapOf]
theorem Built.all {c : ByteArray} {L : List Wd} {T : ByteArray} (h : Built c L L.length T) : T.data.toList = headOf c.data.toList ++ gapB (gapOf c.data.toList) (L.map Wd.text) := by
  have := h.2
  rwa [List.take_length] at this
theorem NoNl.cut {c : ByteArray} {k : Nat} (h0 : c.size ≤ 20) (hk : k ≤ c.size) (h : ∀ j (hj : j < c.size), j < k → c[j] ≠ 10) : NoNl (c.extract 0 k) := by
  refine ⟨by rw [ByteArray.size_extract]; omega, fun x hx => ?_⟩
  have e : (c.extract 0 k).data.toList = c.data.toList.take k := by
    have := cut_list c 0 k
    rw [Nat.zero_add, List.drop_zero] at this
    rw [this]
  rw [e] at hx
  obtain ⟨j, hj, rfl⟩ := List.mem_iff_getElem.1 hx
  rw [List.length_take] at hj
  rw [List.getElem_take]
  exact h j (by rw [Lib.size_eq]; omega) (by omega)
theorem NoNl.all {c : ByteArray} (h0 : c.size ≤ 20) (h : ∀ j (hj : j < c.size), j < c.size → c[j] ≠ 10) : NoNl c := by
  refine ⟨h0, fun x hx => ?_⟩
  obtain ⟨j, hj, rfl⟩ := List.mem_iff_getElem.1 hx
  exact h j (by rw [Lib.size_eq]; omega) (by rw [Lib.size_eq]; omega)
end
section
open Go Go.RowKit Go.Shelf

/-- A program is handed back, or none with a code. -/
def ShowP (P : PrL) (code : Int) (w : World) (y : Ending) (w' : World) : Prop :=
  Below w.heap.size w w' ∧ ∃ q0 n0 k0 q1 n1 k1 q2 n2 k2, ∃ n : Nat, y = .returned (.tuple #[.agg #[.slice q0 n0 k0, .slice q1 n1 k1, .slice q2 n2 k2], .int .i64 n, .int .i64 code]) ∧
    RowIn deY (fun _ => True) w' (.slice q0 n0 k0) P.decls ∧ RowIn onY (fun _ => True) w' (.slice q1 n1 k1) P.ons ∧ RowIn ruY (fun _ => True) w' (.slice q2 n2 k2) P.rules
theorem show_ok {s : ByteArray} {w w' : World} {y : Ending} {cs : List ClL} (hs : s.size ≤ 65536) (e : sayOf valL progR s.data.toList = .ok cs)
    (h : SayEnd progR prT (.agg #[.slice none 0 0, .slice none 0 0, .slice none 0 0]) s w y w') : ShowP (ofCs cs) 0 w y w' := by
  obtain ⟨hb, ⟨-, a, v, hsay, rfl, hv⟩ | ⟨-, n, hsay, rfl⟩ | ⟨-, n, hsay, rfl⟩ | ⟨hl, rfl⟩⟩ := h
  rotate_left
  · exact absurd (hsay.symm.trans e) (by intro e; cases e)
  · exact absurd (hsay.symm.trans e) (by intro e; cases e)
  · omega
  obtain rfl : a = cs := by have := hsay.symm.trans e; injection this
  obtain ⟨u, x, y, rfl, g1, g2, g3⟩ := hv
  obtain ⟨q0, n0, k0, rfl⟩ : ∃ q n k, u = .slice q n k := (by obtain ⟨q, k, e⟩ := g1.shape; exact ⟨_, _, _, e⟩)
  obtain ⟨q1, n1, k1, rfl⟩ : ∃ q n k, x = .slice q n k := (by obtain ⟨q, k, e⟩ := g2.shape; exact ⟨_, _, _, e⟩)
  obtain ⟨q2, n2, k2, rfl⟩ : ∃ q n k, y = .slice q n k := (by obtain ⟨q, k, e⟩ := g3.shape; exact ⟨_, _, _, e⟩)
  exact ⟨hb, q0, n0, k0, q1, n1, k1, q2, n2, k2, 0, rfl, g1.keep (Nat.le_refl _) fun _ _ _ => ⟨True.intro, rfl⟩, g2.keep (Nat.le_refl _) fun _ _ _ => ⟨True.intro, rfl⟩, g3.keep (Nat.le_refl _) fun _ _ _ => ⟨True.intro, rfl⟩⟩
theorem show_bad {s : ByteArray} {w w' : World} {y : Ending} {m : Nat} (hs : s.size ≤ 65536) (e : sayOf valL progR s.data.toList = .bad m)
    (h : SayEnd progR prT (.agg #[.slice none 0 0, .slice none 0 0, .slice none 0 0]) s w y w') : ShowP (ofCs []) 130 w y w' := by
  obtain ⟨hb, ⟨-, a, v, hsay, rfl, hv⟩ | ⟨-, n, hsay, rfl⟩ | ⟨-, n, hsay, rfl⟩ | ⟨hl, rfl⟩⟩ := h
  · exact absurd (hsay.symm.trans e) (by intro e; cases e)
  · exact ⟨hb, none, 0, 0, none, 0, 0, none, 0, 0, n, rfl, RowIn.nil _ _ _, RowIn.nil _ _ _, RowIn.nil _ _ _⟩
  · exact absurd (hsay.symm.trans e) (by intro e; cases e)
  · omega
/-- With other gaps the same program is handed back. -/
theorem show_gaps {s t : ByteArray} {c : List UInt8} (hs : s.size ≤ 65536) (ht : t.size ≤ 65536) (hl : (lexS valL s.data.toList 0).2 = none) (hc : ∀ x ∈ c, x ≠ 10)
    (e : t.data.toList = headOf c ++ gapB (gapOf c) ((lexS valL s.data.toList 0).1.map Wd.text)) :
    ∃ P code, (∀ W, Glob W → Calls Tryz.prog 9 #[.string s] W (ShowP P code W)) ∧ (∀ W, Glob W → Calls Tryz.prog 9 #[.string t] W (ShowP P code W)) := by
  rcases (say_gaps valL_open hl hc).2 with ⟨cs, e1, e2⟩ | ⟨a, b, e1, e2⟩
  · rw [← e] at e2
    exact ⟨ofCs cs, 0, fun W G => (parseProgram_any s W G).mono fun _ _ h => show_ok hs e1 h, fun W G => (parseProgram_any t W G).mono fun _ _ h => show_ok ht e2 h⟩
  · rw [← e] at e2
    exact ⟨ofCs [], 130, fun W G => (parseProgram_any s W G).mono fun _ _ h => show_bad hs e1 h, fun W G => (parseProgram_any t W G).mono fun _ _ h => show_bad ht e2 h⟩
set_option maxRecDepth 100000 in
set_option maxHeartbeats 8000000 in
theorem parseGaps_walk (HR : RWords) (s n : ByteArray) (w : World) (hm : s.size ≤ maxLen) (hn : n.size ≤ maxLen) (G : Glob w) :
    Calls Tryz.prog 6 #[.string s, .string n] w fun e w' => e = .returned (.bool true) ∧ Below w.heap.size w w' := by
  obtain ⟨C, hCs, hC⟩ := pcut_any s w hm
  have HC := Lib.hid hC
  have HG := Lib.hid G
  have hW := rwords_full HR C w (by omega)
  have htx := lexS_txt (V := valL) _ C.data.toList 0 (Nat.le_refl _)
  unfold maxLen at hn
  clear hC G hm HR
  rcases words_ways C with ⟨hl, hww⟩ | ⟨hl, k, hk, hww⟩ | ⟨hl, hk, hww⟩
  rotate_right
  · obtain ⟨L, hL⟩ : ∃ L, L = (lexS valL C.data.toList 0).1 := ⟨_, rfl⟩
    have HS : Hid (∀ (c T : ByteArray), NoNl c → T.size ≤ 65536 → T.data.toList = headOf c.data.toList ++ gapB (gapOf c.data.toList) (L.map Wd.text) → ∃ P code, (∀ W, Glob W → Calls Tryz.prog 9 #[.string C] W (ShowP P code W)) ∧ (∀ W, Glob W → Calls Tryz.prog 9 #[.string T] W (ShowP P code W))) :=
      Lib.hid (fun c T hc hT e => show_gaps hl hT hk hc.2 (by rw [e, hL]))
    rw [hww] at hW
    simp only at hW
    rw [← hL] at hW htx
    have HW := Lib.hid hW
    have hC15 : C.size ≤ 1500 := by omega
    have HT : Hid (∀ k (hk : k < L.length), L[k].text.length ≤ 1500) := Lib.hid (fun k hk => by have := htx L[k] (List.getElem_mem hk); rw [← Lib.size_eq] at this; omega)
    clear hW hww hL hk htx hCs hl hC15
    by_cases h300 : 300 < L.length
    · have h300' : (300 : Int) < (L.length : Int) := by omega
      go_enter Tryz.func6, Tryz.ntmps6
      go_wp2_with fail
      refine HC.out.mono ?_
      rintro y w0 ⟨rfl, rfl⟩
      go_wp2_with fail
      refine HW.out.mono ?_
      rintro y w1 ⟨⟨v, rfl, ho⟩, hb⟩
      have HB := Lib.hid hb
      obtain ⟨p, c, rfl, -⟩ := ownG_in ho
      clear ho hb
      go_wp2_with fail
      refine (alive_any _ (HG.out.below HB.out)).mono ?_
      rintro y w2 ⟨rfl, hb2⟩
      have HB2 := Lib.hid hb2
      clear hb2
      go_wp2_with fail
      go_ret
      exact ⟨rfl, HB.out.trans (HB2.out.mono HB.out.size)⟩
    have h300' : ¬ (300 : Int) < (L.length : Int) := by omega
    have HLn := Lib.hid (show L.length ≤ 300 by omega)
    clear h300
    rcases Nat.lt_or_ge 20 n.size with h20 | h20
    rotate_left
    have h20' : ¬ (20 : Int) < (n.size : Int) := by omega
    have hcs : n.size ≤ 20 := h20
    go_enter Tryz.func6, Tryz.ntmps6
    go_wp2_with fail
    refine HC.out.mono ?_
    rintro y w0 ⟨rfl, rfl⟩
    go_wp2_with fail
    refine HW.out.mono ?_
    rintro y w1 ⟨⟨v, rfl, ho⟩, hb⟩
    have HB := Lib.hid hb
    have HI := Lib.hid (ownG_in ho)
    obtain ⟨p, cc, rfl, -⟩ := HI.out
    clear ho hb
    go_wp2_with fail
    generalize n = c0 at hcs ⊢
    rotate_left
    have h20' : (20 : Int) < (n.size : Int) := by omega
    have h20'' : (20 : Int) ≤ (n.size : Int) := by omega
    have hcs : (n.extract 0 20).size ≤ 20 := by rw [ByteArray.size_extract]; omega
    go_enter Tryz.func6, Tryz.ntmps6
    go_wp2_with fail
    refine HC.out.mono ?_
    rintro y w0 ⟨rfl, rfl⟩
    go_wp2_with fail
    refine HW.out.mono ?_
    rintro y w1 ⟨⟨v, rfl, ho⟩, hb⟩
    have HB := Lib.hid hb
    have HI := Lib.hid (ownG_in ho)
    obtain ⟨p, cc, rfl, -⟩ := HI.out
    clear ho hb
    go_wp2_with fail
    generalize n.extract 0 20 = c0 at hcs ⊢
    clear h20''
    all_goals
      clear h20 h20'
      have HC0 := Lib.hid hcs
      clear hcs
      go_loopw [1, 8] (fun cv i wr => ∃ k : Nat, k ≤ c0.size ∧ cv = .string c0 ∧ i = .int .i64 k ∧ wr = w1 ∧ Hid (∀ j (hj : j < c0.size), j < k → c0[j] ≠ 10)) (fun _ i _ => c0.size - (intOf i).toNat)
      case atStart => exact ⟨0, Nat.zero_le _, rfl, rfl, rfl, Lib.hid (fun j _ h => absurd h (Nat.not_lt_zero _))⟩
      case round =>
        obtain ⟨k, hk, rfl, rfl, rfl, HNo⟩ := hrel
        have h0 : (0 : Int) ≤ (k : Int) := by omega
        have hc20 : (c0.size : Int) ≤ 20 := by have := HC0.out; omega
        rcases Nat.lt_or_ge k c0.size with hlt | hge
        · have hlt' : (k : Int) < (c0.size : Int) := by omega
          cases h10 : ((c0[k].toNat : Int) == 10) with
          | false =>
            have HNx : Hid (∀ j (hj : j < c0.size), j < k + 1 → c0[j] ≠ 10) := Lib.hid (fun j hj hjk => by
              rcases Nat.lt_or_ge j k with h | h
              · exact HNo.out j hj h
              · obtain rfl : j = k := by omega
                exact u8_no (d := 10) rfl h10)
            go_wp2_with fail
            go_roundw
            case rel => exact ⟨k + 1, hlt, by first | rfl | trivial, by go_num, by first | rfl | trivial, HNx⟩
            case measure => simp [intOf]; omega
          | true =>
            have hcN : NoNl (c0.extract 0 k) := NoNl.cut HC0.out hk HNo.out
            have hk' : (k : Int) ≤ (c0.size : Int) := by omega
            obtain ⟨c, hc⟩ : ∃ c, c0.extract 0 k = c := ⟨_, rfl⟩
            rw [hc] at hcN
            iterate 1 skip
            have HBig := Lib.hid (show c.size ≤ 20 from hcN.1)
            have HN := Lib.hid hcN
            have q1 : ∀ W, (Op.stringOp .add (⟨#[37]⟩ : ByteArray) c).run Tryz.prog W = .ok (.string ((⟨#[37]⟩ : ByteArray) ++ c)) W := fun W => run_string_add_sum (P := Tryz.prog) (w := W) _ _ (by have := HBig.out; have h1 : (⟨#[37]⟩ : ByteArray).size = 1 := rfl; omega)
            have q2 : ∀ W, (Op.stringOp .add ((⟨#[37]⟩ : ByteArray) ++ c) ⟨#[10]⟩).run Tryz.prog W = .ok (.string ((⟨#[37]⟩ : ByteArray) ++ c ++ ⟨#[10]⟩)) W := fun W => run_string_add_sum (P := Tryz.prog) (w := W) _ _ (by rw [ByteArray.size_append]; have := HBig.out; have h1 : (⟨#[37]⟩ : ByteArray).size = 1 := rfl; have h2 : (⟨#[10]⟩ : ByteArray).size = 1 := rfl; omega)
            clear hcN
            go_wp2_with fail
            clear q1 q2
            go_loopw [9, 10] (fun t i WW => ∃ (k : Nat) (T : ByteArray), k ≤ L.length ∧ i = .int .i64 k ∧ t = .string T ∧ WW = wr ∧ Hid (Built c L k T)) (fun _ i _ => L.length - (intOf i).toNat)
            case atStart => exact ⟨0, _, Nat.zero_le _, rfl, rfl, rfl, Lib.hid (Built.head HN.out L)⟩
            case round =>
              clear hk
              obtain ⟨k, T, hk, rfl, rfl, rfl, HT1⟩ := hrel
              have h0 : (0 : Int) ≤ (k : Int) := by omega
              by_cases hlt : k < L.length
              · have hlt' : (k : Int) < (L.length : Int) := by omega
                have hl3 : (L.length : Int) ≤ 300 := by have := HLn.out; omega
                obtain ⟨b, off, c1, e1, h1, h2, hb1, -, q⟩ := HI.out.at_ (by omega)
                cases e1
                have a1 := (q k hlt).2.1
                clear q
                unfold maxLen at h2
                have HSt := Lib.hid (Built.step HN.out HT1.out hlt (HT.out k hlt))
                have HX := Lib.hid (HT.out k hlt)
                generalize L[k] = X at a1 HSt HX
                have hXs : (⟨X.text.toArray⟩ : ByteArray).size ≤ 1500 := by have := HX.out; simp only [ByteArray.size]; simpa using this
                have hTs : T.size ≤ 500000 := by have := HT1.out.1; have := HLn.out; omega
                have q1 : ∀ W, (Op.stringOp .add T ⟨X.text.toArray⟩).run Tryz.prog W = .ok (.string (T ++ ⟨X.text.toArray⟩)) W := fun W => run_string_add_sum (P := Tryz.prog) (w := W) _ _ (by omega)
                have q2 : ∀ W, (Op.stringOp .add (T ++ ⟨X.text.toArray⟩) ⟨#[9, 32, 37]⟩).run Tryz.prog W = .ok (.string (T ++ ⟨X.text.toArray⟩ ++ ⟨#[9, 32, 37]⟩)) W := fun W => run_string_add_sum (P := Tryz.prog) (w := W) _ _ (by rw [ByteArray.size_append]; have h1 : (⟨#[9, 32, 37]⟩ : ByteArray).size = 3 := rfl; omega)
                have q3 : ∀ W, (Op.stringOp .add (T ++ ⟨X.text.toArray⟩ ++ ⟨#[9, 32, 37]⟩) c).run Tryz.prog W = .ok (.string (T ++ ⟨X.text.toArray⟩ ++ ⟨#[9, 32, 37]⟩ ++ c)) W := fun W => run_string_add_sum (P := Tryz.prog) (w := W) _ _ (by simp only [ByteArray.size_append]; have h1 : (⟨#[9, 32, 37]⟩ : ByteArray).size = 3 := rfl; have := HBig.out; omega)
                have q4 : ∀ W, (Op.stringOp .add (T ++ ⟨X.text.toArray⟩ ++ ⟨#[9, 32, 37]⟩ ++ c) ⟨#[10, 13]⟩).run Tryz.prog W = .ok (.string (T ++ ⟨X.text.toArray⟩ ++ ⟨#[9, 32, 37]⟩ ++ c ++ ⟨#[10, 13]⟩)) W := fun W => run_string_add_sum (P := Tryz.prog) (w := W) _ _ (by simp only [ByteArray.size_append]; have h1 : (⟨#[9, 32, 37]⟩ : ByteArray).size = 3 := rfl; have h2 : (⟨#[10, 13]⟩ : ByteArray).size = 2 := rfl; have := HBig.out; omega)
                clear hTs hXs HX
                go_wp2_with fail
                go_roundw
                case rel => exact ⟨k + 1, _, hlt, by go_num, by first | rfl | trivial, by first | rfl | trivial, HSt⟩
                case measure => simp [intOf]; omega
              · have hlt' : ¬ (k : Int) < (L.length : Int) := by omega
                have HAll : Hid (Built c L L.length T) := Lib.hid (by have e : k = L.length := by omega
                                                                      exact e ▸ HT1.out)
                have hTs : T.size ≤ 500000 := by have := HT1.out.1; have := HLn.out; omega
                by_cases hT6 : 65536 < T.size
                · have hT6' : (65536 : Int) < (T.size : Int) := by omega
                  clear hTs hT6
                  go_wp2_with fail
                  refine (alive_any _ (HG.out.below HB.out)).mono ?_
                  rintro y w2 ⟨rfl, hb2⟩
                  have HB2 := Lib.hid hb2
                  clear hb2
                  go_wp2_with fail
                  go_ret
                  exact ⟨rfl, HB.out.trans (HB2.out.mono HB.out.size)⟩
                · have hT6' : ¬ (65536 : Int) < (T.size : Int) := by omega
                  obtain ⟨P, code, P1, P2⟩ := HS.out c T HN.out (by omega) HAll.out.all
                  have HP1 := Lib.hid P1
                  have HP2 := Lib.hid P2
                  clear P1 P2 hTs hT6
                  go_wp2_with fail
                  refine (HP1.out _ (HG.out.below HB.out)).mono ?_
                  rintro y w3 ⟨hb3, q0, n0, k0, q1, n1, k1, q2, n2, k2, m, rfl, g0, g1, g2⟩
                  have HB3 := Lib.hid (HB.out.trans (hb3.mono HB.out.size))
                  have HR3 := Lib.hid (And.intro g0 (And.intro g1 g2))
                  clear hb3 g0 g1 g2
                  go_wp2_with fail
                  have HB4 := Lib.hid (HB3.out.alloc HB3.out.size (.cells #[.slice q0 n0 k0, .slice q1 n1 k1, .slice q2 n2 k2] 27))
                  refine (HP2.out _ (HG.out.below HB4.out)).mono ?_
                  rintro y w5 ⟨hb5, q0', n0', k0', q1', n1', k1', q2', n2', k2', m', rfl, g0, g1, g2⟩
                  have HR5 := Lib.hid (And.intro g0 (And.intro g1 g2))
                  have r3 := (hb5.block w3.heap.size (by simp)).trans (heap_alloc_new w3 (.cells #[.slice q0 n0 k0, .slice q1 n1 k1, .slice q2 n2 k2] 27))
                  obtain ⟨⟨b0, b1, b2⟩, -⟩ := cells3 r3
                  have hz : w3.heap.size < w5.heap.size := by have := hb5.size; simp at this; omega
                  have HB5 := Lib.hid (((Below.refl _ w3).alloc (Nat.le_refl _) (.cells #[.slice q0 n0 k0, .slice q1 n1 k1, .slice q2 n2 k2] 27)).trans (hb5.mono (by simp)))
                  clear hb5 g0 g1 g2 r3 HB4
                  go_wp2_with fail
                  have HBig5 := Lib.hid (fun o => (Below.refl _ w5).alloc (Nat.le_refl _) o)
                  refine (rsame_yes (a := P) (HR3.out.1.in_below (HB5.out.trans ((HBig5.out _).mono HB5.out.size))) (HR5.out.1.in_below (HBig5.out _)) (HR3.out.2.1.in_below (HB5.out.trans ((HBig5.out _).mono HB5.out.size))) (HR5.out.2.1.in_below (HBig5.out _)) (HR3.out.2.2.in_below (HB5.out.trans ((HBig5.out _).mono HB5.out.size))) (HR5.out.2.2.in_below (HBig5.out _))).mono ?_
                  rintro y w6 ⟨rfl, hb6⟩
                  have HB6 : Hid (Below w.heap.size w w6) := Lib.hid ((HB3.out.trans ((HB5.out.trans ((HBig5.out _).mono HB5.out.size)).mono HB3.out.size)).trans (hb6.mono (by have := HB3.out.size; simp; omega)))
                  clear hb6
                  go_wp2_with fail
                  refine (alive_any _ (HG.out.below HB6.out)).mono ?_
                  rintro y w7 ⟨rfl, hb7⟩
                  have HB7 := Lib.hid hb7
                  clear hb7
                  go_wp2_with fail
                  go_ret
                  exact ⟨rfl, HB6.out.trans (HB7.out.mono HB6.out.size)⟩
        · have hlt' : ¬ (k : Int) < (c0.size : Int) := by omega
          have hcN : NoNl c0 := NoNl.all HC0.out (fun j hj h => HNo.out j hj (by omega))
          obtain ⟨c, rfl⟩ : ∃ c, c = c0 := ⟨_, rfl⟩
          have HBig := Lib.hid (show c.size ≤ 20 from hcN.1)
          have HN := Lib.hid hcN
          have q1 : ∀ W, (Op.stringOp .add (⟨#[37]⟩ : ByteArray) c).run Tryz.prog W = .ok (.string ((⟨#[37]⟩ : ByteArray) ++ c)) W := fun W => run_string_add_sum (P := Tryz.prog) (w := W) _ _ (by have := HBig.out; have h1 : (⟨#[37]⟩ : ByteArray).size = 1 := rfl; omega)
          have q2 : ∀ W, (Op.stringOp .add ((⟨#[37]⟩ : ByteArray) ++ c) ⟨#[10]⟩).run Tryz.prog W = .ok (.string ((⟨#[37]⟩ : ByteArray) ++ c ++ ⟨#[10]⟩)) W := fun W => run_string_add_sum (P := Tryz.prog) (w := W) _ _ (by rw [ByteArray.size_append]; have := HBig.out; have h1 : (⟨#[37]⟩ : ByteArray).size = 1 := rfl; have h2 : (⟨#[10]⟩ : ByteArray).size = 1 := rfl; omega)
          clear hcN
          go_wp2_with fail
          clear q1 q2
          go_loopw [9, 10] (fun t i WW => ∃ (k : Nat) (T : ByteArray), k ≤ L.length ∧ i = .int .i64 k ∧ t = .string T ∧ WW = wr ∧ Hid (Built c L k T)) (fun _ i _ => L.length - (intOf i).toNat)
          case atStart => exact ⟨0, _, Nat.zero_le _, rfl, rfl, rfl, Lib.hid (Built.head HN.out L)⟩
          case round =>
            clear hk
            obtain ⟨k, T, hk, rfl, rfl, rfl, HT1⟩ := hrel
            have h0 : (0 : Int) ≤ (k : Int) := by omega
            by_cases hlt : k < L.length
            · have hlt' : (k : Int) < (L.length : Int) := by omega
              have hl3 : (L.length : Int) ≤ 300 := by have := HLn.out; omega
              obtain ⟨b, off, c1, e1, h1, h2, hb1, -, q⟩ := HI.out.at_ (by omega)
              cases e1
              have a1 := (q k hlt).2.1
              clear q
              unfold maxLen at h2
              have HSt := Lib.hid (Built.step HN.out HT1.out hlt (HT.out k hlt))
              have HX := Lib.hid (HT.out k hlt)
              generalize L[k] = X at a1 HSt HX
              have hXs : (⟨X.text.toArray⟩ : ByteArray).size ≤ 1500 := by have := HX.out; simp only [ByteArray.size]; simpa using this
              have hTs : T.size ≤ 500000 := by have := HT1.out.1; have := HLn.out; omega
              have q1 : ∀ W, (Op.stringOp .add T ⟨X.text.toArray⟩).run Tryz.prog W = .ok (.string (T ++ ⟨X.text.toArray⟩)) W := fun W => run_string_add_sum (P := Tryz.prog) (w := W) _ _ (by omega)
              have q2 : ∀ W, (Op.stringOp .add (T ++ ⟨X.text.toArray⟩) ⟨#[9, 32, 37]⟩).run Tryz.prog W = .ok (.string (T ++ ⟨X.text.toArray⟩ ++ ⟨#[9, 32, 37]⟩)) W := fun W => run_string_add_sum (P := Tryz.prog) (w := W) _ _ (by rw [ByteArray.size_append]; have h1 : (⟨#[9, 32, 37]⟩ : ByteArray).size = 3 := rfl; omega)
              have q3 : ∀ W, (Op.stringOp .add (T ++ ⟨X.text.toArray⟩ ++ ⟨#[9, 32, 37]⟩) c).run Tryz.prog W = .ok (.string (T ++ ⟨X.text.toArray⟩ ++ ⟨#[9, 32, 37]⟩ ++ c)) W := fun W => run_string_add_sum (P := Tryz.prog) (w := W) _ _ (by simp only [ByteArray.size_append]; have h1 : (⟨#[9, 32, 37]⟩ : ByteArray).size = 3 := rfl; have := HBig.out; omega)
              have q4 : ∀ W, (Op.stringOp .add (T ++ ⟨X.text.toArray⟩ ++ ⟨#[9, 32, 37]⟩ ++ c) ⟨#[10, 13]⟩).run Tryz.prog W = .ok (.string (T ++ ⟨X.text.toArray⟩ ++ ⟨#[9, 32, 37]⟩ ++ c ++ ⟨#[10, 13]⟩)) W := fun W => run_string_add_sum (P := Tryz.prog) (w := W) _ _ (by simp only [ByteArray.size_append]; have h1 : (⟨#[9, 32, 37]⟩ : ByteArray).size = 3 := rfl; have h2 : (⟨#[10, 13]⟩ : ByteArray).size = 2 := rfl; have := HBig.out; omega)
              clear hTs hXs HX
              go_wp2_with fail
              go_roundw
              case rel => exact ⟨k + 1, _, hlt, by go_num, by first | rfl | trivial, by first | rfl | trivial, HSt⟩
              case measure => simp [intOf]; omega
            · have hlt' : ¬ (k : Int) < (L.length : Int) := by omega
              have HAll : Hid (Built c L L.length T) := Lib.hid (by have e : k = L.length := by omega
                                                                    exact e ▸ HT1.out)
              have hTs : T.size ≤ 500000 := by have := HT1.out.1; have := HLn.out; omega
              by_cases hT6 : 65536 < T.size
              · have hT6' : (65536 : Int) < (T.size : Int) := by omega
                clear hTs hT6
                go_wp2_with fail
                refine (alive_any _ (HG.out.below HB.out)).mono ?_
                rintro y w2 ⟨rfl, hb2⟩
                have HB2 := Lib.hid hb2
                clear hb2
                go_wp2_with fail
                go_ret
                exact ⟨rfl, HB.out.trans (HB2.out.mono HB.out.size)⟩
              · have hT6' : ¬ (65536 : Int) < (T.size : Int) := by omega
                obtain ⟨P, code, P1, P2⟩ := HS.out c T HN.out (by omega) HAll.out.all
                have HP1 := Lib.hid P1
                have HP2 := Lib.hid P2
                clear P1 P2 hTs hT6
                go_wp2_with fail
                refine (HP1.out _ (HG.out.below HB.out)).mono ?_
                rintro y w3 ⟨hb3, q0, n0, k0, q1, n1, k1, q2, n2, k2, m, rfl, g0, g1, g2⟩
                have HB3 := Lib.hid (HB.out.trans (hb3.mono HB.out.size))
                have HR3 := Lib.hid (And.intro g0 (And.intro g1 g2))
                clear hb3 g0 g1 g2
                go_wp2_with fail
                have HB4 := Lib.hid (HB3.out.alloc HB3.out.size (.cells #[.slice q0 n0 k0, .slice q1 n1 k1, .slice q2 n2 k2] 27))
                refine (HP2.out _ (HG.out.below HB4.out)).mono ?_
                rintro y w5 ⟨hb5, q0', n0', k0', q1', n1', k1', q2', n2', k2', m', rfl, g0, g1, g2⟩
                have HR5 := Lib.hid (And.intro g0 (And.intro g1 g2))
                have r3 := (hb5.block w3.heap.size (by simp)).trans (heap_alloc_new w3 (.cells #[.slice q0 n0 k0, .slice q1 n1 k1, .slice q2 n2 k2] 27))
                obtain ⟨⟨b0, b1, b2⟩, -⟩ := cells3 r3
                have hz : w3.heap.size < w5.heap.size := by have := hb5.size; simp at this; omega
                have HB5 := Lib.hid (((Below.refl _ w3).alloc (Nat.le_refl _) (.cells #[.slice q0 n0 k0, .slice q1 n1 k1, .slice q2 n2 k2] 27)).trans (hb5.mono (by simp)))
                clear hb5 g0 g1 g2 r3 HB4
                go_wp2_with fail
                have HBig5 := Lib.hid (fun o => (Below.refl _ w5).alloc (Nat.le_refl _) o)
                refine (rsame_yes (a := P) (HR3.out.1.in_below (HB5.out.trans ((HBig5.out _).mono HB5.out.size))) (HR5.out.1.in_below (HBig5.out _)) (HR3.out.2.1.in_below (HB5.out.trans ((HBig5.out _).mono HB5.out.size))) (HR5.out.2.1.in_below (HBig5.out _)) (HR3.out.2.2.in_below (HB5.out.trans ((HBig5.out _).mono HB5.out.size))) (HR5.out.2.2.in_below (HBig5.out _))).mono ?_
                rintro y w6 ⟨rfl, hb6⟩
                have HB6 : Hid (Below w.heap.size w w6) := Lib.hid ((HB3.out.trans ((HB5.out.trans ((HBig5.out _).mono HB5.out.size)).mono HB3.out.size)).trans (hb6.mono (by have := HB3.out.size; simp; omega)))
                clear hb6
                go_wp2_with fail
                refine (alive_any _ (HG.out.below HB6.out)).mono ?_
                rintro y w7 ⟨rfl, hb7⟩
                have HB7 := Lib.hid hb7
                clear hb7
                go_wp2_with fail
                go_ret
                exact ⟨rfl, HB6.out.trans (HB7.out.mono HB6.out.size)⟩
  all_goals
    rw [hww] at hW
    simp only at hW
    have HW := Lib.hid hW
    clear hW hww htx hCs
    go_enter Tryz.func6, Tryz.ntmps6
    go_wp2_with fail
    refine HC.out.mono ?_
    rintro y w0 ⟨rfl, rfl⟩
    go_wp2_with fail
    refine HW.out.mono ?_
    rintro y w1 ⟨⟨v, rfl, ho⟩, hb⟩
    have HB := Lib.hid hb
    obtain ⟨p, c, rfl, -⟩ := ownG_in ho
    clear ho hb
    go_wp2_with fail
    refine (alive_any _ (HG.out.below HB.out)).mono ?_
    rintro y w2 ⟨rfl, hb2⟩
    have HB2 := Lib.hid hb2
    clear hb2
    go_wp2_with fail
    go_ret
    exact ⟨rfl, HB.out.trans (HB2.out.mono HB.out.size)⟩
end
end Go.Proofs.YtmnbbbkikbcbjaaGreatDoor
