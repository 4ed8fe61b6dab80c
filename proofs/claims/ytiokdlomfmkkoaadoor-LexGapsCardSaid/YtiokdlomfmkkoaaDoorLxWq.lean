/-
  Walk of the law LexGaps.
-/
import Derived.Test.YtiokdlomfmkkoaaDoorLxWp
import Derived.Laws.Concat
namespace Go.Proofs.YtiokdlomfmkkoaaDoor
open Go Go.RowKit

theorem skC_plain : ∀ (P y : List UInt8), (∀ c ∈ P, c ≠ 10) → skC true (P ++ y) = P.length + skC true y
  | [], y, _ => by simp
  | c :: P, y, h => by
    have i := skC_plain P y (fun d hd => h d (List.mem_cons_of_mem _ hd))
    rw [List.cons_append]
    conv => lhs; unfold skC
    by_cases e : c = 37
    · rw [if_pos e, i, List.length_cons]; omega
    · rw [if_neg e, if_neg (h c List.mem_cons_self), if_pos (by rfl), i, List.length_cons]; omega
theorem stC_plain : ∀ (P y : List UInt8), (∀ c ∈ P, c ≠ 10) → stC true (P ++ y) = stC true y
  | [], y, _ => by simp
  | c :: P, y, h => by
    have i := stC_plain P y (fun d hd => h d (List.mem_cons_of_mem _ hd))
    rw [List.cons_append]
    conv => lhs; unfold stC
    by_cases e : c = 37
    · rw [if_pos e, i]
    · rw [if_neg e, if_neg (h c List.mem_cons_self), i]
theorem wf_u64 {n : Int} (h : (Lit.int .u64 n).wf = true) : 0 ≤ n ∧ n ≤ 18446744073709551615 := by
  have h' : 0 ≤ n ∧ n ≤ IntKind.u64.max := by simpa [Lit.wf, IntKind.min, IntKind.signed] using h
  exact h'
/-- The gap that is put in. -/
def moreL (P : List UInt8) : Nat → List UInt8
  | 0 => [32]
  | 1 => [9]
  | 2 => [10]
  | 3 => [13]
  | 4 => [37, 32] ++ P ++ [10]
  | _ => [37, 10, 37, 10]
theorem more_facts (P : List UInt8) (hP : ∀ c ∈ P, c ≠ 10) (j : Nat) : sepO (moreL P j).head? ∧ moreL P j ≠ [] ∧ skC false (moreL P j) = (moreL P j).length ∧ stC false (moreL P j) = false := by
  match j with
  | 0 => exact ⟨.inr (.inl rfl), by simp [moreL], rfl, rfl⟩
  | 1 => exact ⟨.inr (.inr (.inl rfl)), by simp [moreL], rfl, rfl⟩
  | 2 => exact ⟨.inr (.inr (.inr (.inl rfl))), by simp [moreL], rfl, rfl⟩
  | 3 => exact ⟨.inr (.inr (.inr (.inr (.inl rfl)))), by simp [moreL], rfl, rfl⟩
  | 4 =>
    have e : moreL P 4 = 37 :: 32 :: (P ++ [10]) := rfl
    rw [e]
    refine ⟨.inr (.inr (.inr (.inr (.inr rfl)))), by simp, ?_, ?_⟩
    · show skC true (32 :: (P ++ [10])) + 1 = _
      have : skC true (32 :: (P ++ [10])) = skC true (P ++ [10]) + 1 := rfl
      rw [this, skC_plain P [10] hP]
      simp only [List.length_cons, List.length_append, List.length_nil]
      show P.length + 1 + 1 + 1 = _
      omega
    · show stC true (32 :: (P ++ [10])) = false
      show stC true (P ++ [10]) = false
      rw [stC_plain P [10] hP]
      rfl
  | n + 5 => exact ⟨.inr (.inr (.inr (.inr (.inr rfl)))), by simp [moreL], rfl, rfl⟩
theorem more_len (P : List UInt8) (j : Nat) : (moreL P j).length ≤ P.length + 4 := by
  match j with
  | 0 | 1 | 2 | 3 => simp [moreL]
  | 4 => simp [moreL]
  | n + 5 => simp [moreL]
theorem tail_full (P : List UInt8) (hP : ∀ c ∈ P, c ≠ 10) : ∀ b, skC b (10 :: 37 :: P) = (10 :: 37 :: P).length := by
  intro b
  have h := skC_plain P [] hP
  rw [List.append_nil] at h
  have e : skC b (10 :: 37 :: P) = skC true P + 1 + 1 := rfl
  rw [e, h]
  rfl
/-- What LexGaps asks. -/
theorem gaps_facts {l : List UInt8} (hl : l.length ≤ 3000) (h : (wordsL l).2.2 = 0) (P : List UInt8) (hP : ∀ c ∈ P, c ≠ 10) (hPl : P.length ≤ 3000) (i : Nat) (hi : i < (wordsL l).1.length) (j : Nat) :
    (wordsL l).1[i].pos ≤ l.length ∧ ∃ M, wordsL (l.take (wordsL l).1[i].pos ++ moreL P j ++ l.drop (wordsL l).1[i].pos ++ 10 :: 37 :: P) = (M, 0, 0) ∧ M.map Wd.key = (wordsL l).1.map Wd.key := by
  obtain ⟨h1, h2⟩ := wordsL_ok h
  have hi' : i < (lexS valL l 0).1.length := by rw [h2] at hi; exact hi
  have e : (wordsL l).1[i] = (lexS valL l 0).1[i] := by congr 1; rw [h2]
  rw [e]
  obtain ⟨m1, m2, m3, m4⟩ := more_facts P hP j
  obtain ⟨-, g1, g2⟩ := lexS_more valL_open (moreL P j) m1 m2 m3 m4 _ l 0 i _ (Nat.le_refl _) h1 (List.getElem?_eq_getElem hi')
  rw [Nat.sub_zero] at g1 g2
  refine ⟨g1, ?_⟩
  obtain ⟨a1, a2⟩ := g2 0
  have b1 := lexS_behind valL_open (10 :: 37 :: P) (.inr (.inr (.inr (.inl rfl)))) (tail_full P hP) _ _ 0 (Nat.le_refl _) a1
  have hlen : (l.take (lexS valL l 0).1[i].pos ++ moreL P j ++ l.drop (lexS valL l 0).1[i].pos ++ 10 :: 37 :: P).length ≤ 65536 := by
    have := more_len P j
    simp only [List.length_append, List.length_take, List.length_drop, List.length_cons]
    omega
  exact ⟨_, wordsL_of hlen (by rw [b1]; exact a1), by rw [b1, a2, h2]⟩
/-- The same as texts. -/
def moreS (P : ByteArray) : Nat → ByteArray
  | 0 => ⟨#[32]⟩
  | 1 => ⟨#[9]⟩
  | 2 => ⟨#[10]⟩
  | 3 => ⟨#[13]⟩
  | 4 => (⟨#[37, 32]⟩ : ByteArray) ++ P ++ ⟨#[10]⟩
  | _ => ⟨#[37, 10, 37, 10]⟩
theorem app_data (a b : ByteArray) : (a ++ b).data.toList = a.data.toList ++ b.data.toList := by simp
theorem moreS_data (P : ByteArray) (j : Nat) : (moreS P j).data.toList = moreL P.data.toList j := by
  match j with
  | 0 | 1 | 2 | 3 => rfl
  | 4 =>
    show ((⟨#[37, 32]⟩ : ByteArray) ++ P ++ ⟨#[10]⟩).data.toList = _
    rw [app_data, app_data]
    rfl
  | n + 5 => rfl
theorem more_cell (w : World) (P : ByteArray) (j : Nat) (hj : j < 6) : (w.alloc (.cells #[.string ⟨#[32]⟩, .string ⟨#[9]⟩, .string ⟨#[10]⟩, .string ⟨#[13]⟩, .string ((⟨#[37, 32]⟩ : ByteArray) ++ P ++ ⟨#[10]⟩), .string ⟨#[37, 10, 37, 10]⟩] 9)).cell? ⟨w.heap.size, j, none⟩ = some (.string (moreS P j)) := by
  rw [cell_of_row _ w.heap.size j _ _ (0, 0) (heap_alloc_new w _)]
  match j, hj with
  | 0, _ | 1, _ | 2, _ | 3, _ | 4, _ | 5, _ => rfl
set_option maxHeartbeats 8000000 in
set_option maxRecDepth 100000 in
theorem lexGaps_walk (s : ByteArray) (kk n : Nat) (note : ByteArray) (w : World) (hm : s.size ≤ maxLen) (hkk : kk < 18446744073709551616) (hn : n ≤ 255) (hm2 : note.size ≤ maxLen) (G : Glob w) :
    Calls Tryd.prog 8 #[.string s, .int .u64 (kk : Nat), .int .u8 (n : Nat), .string note] w fun e w' => e = .returned (.bool true) ∧ Below w.heap.size w w' := by
  have HC := Lib.hid (fun W => lcut_any s W hm)
  have HC2 := Lib.hid (fun W => lcut_any note W hm2)
  obtain ⟨C, hC⟩ : ∃ C, C = cutX s := ⟨_, rfl⟩
  obtain ⟨D, hD⟩ : ∃ D, D = cutX note := ⟨_, rfl⟩
  have hz := cutX_size s
  have hz2 := cutX_size note
  rw [← hC] at HC hz
  rw [← hD] at HC2 hz2
  clear hC hD
  have HG := Lib.hid G
  have HW := Lib.hid (fun W G => words_any C W (by omega) G)
  have HLen := Lib.hid (wordsL_len C (by omega))
  have HP := Lib.hid (fun W => rplain_any D W (by omega))
  obtain ⟨Pl, hPl⟩ : ∃ Pl, Pl = plainL D.data.toList := ⟨_, rfl⟩
  have hPn := plain_ne D.data.toList
  have hPz := plain_len D.data.toList
  rw [← hPl] at HP hPn hPz
  rw [← Lib.size_eq] at hPz
  have HGf := Lib.hid (gaps_facts (l := C.data.toList) (by rw [← Lib.size_eq]; exact hz))
  obtain ⟨⟨L, m, g⟩, hR⟩ : ∃ R, R = wordsL C.data.toList := ⟨_, rfl⟩
  have HGf2 := HGf.out
  rw [← hR] at HW HLen HGf2
  simp only at HW HLen HGf2
  clear HGf hR G hPl
  obtain ⟨P, hP⟩ : ∃ P : ByteArray, P = ⟨Pl.toArray⟩ := ⟨_, rfl⟩
  rw [← hP] at HP
  have hPs : P.size ≤ 3000 := by rw [hP, Lib.size_eq]; show Pl.length ≤ 3000; omega
  by_cases hg : g = 0
  · by_cases hL : L.length = 0
    · subst hg
      have hL9 : L = [] := List.eq_nil_of_length_eq_zero hL
      subst hL9
      clear HGf2 hL hP hPn hPz HP
      go_enter Tryd.func8, Tryd.ntmps8
      go_wp2_with (first
        | (go_at_call 13; refine (awake_true w HG.out).mono ?_; rintro e w0 ⟨rfl, hb⟩; have HB0 := Lib.hid hb; clear hb)
        | (go_at_call 9; first | (refine (HC.out _).mono ?_; rintro e w1 ⟨rfl, rfl⟩) | (refine (HC2.out _).mono ?_; rintro e w1 ⟨rfl, rfl⟩))
        | (go_at_call 10; refine (HW.out _ (HG.out.below HB0.out)).mono ?_; rintro e w1 ⟨⟨v1, rfl, ho⟩, hb⟩; have HB1 := Lib.hid (HB0.out.trans (hb.mono HB0.out.size)); have HI1 := Lib.hid (ownW_in ho); obtain ⟨p1, c1, e1, -⟩ := HI1.out; subst e1; clear ho hb))
      go_ret
      exact ⟨rfl, HB1.out⟩
    · subst hg
      have hz' : (C.size : Int) ≤ 3000 := by omega
      have hPs' : (P.size : Int) ≤ 3000 := by omega
      have hil : kk % L.length < L.length := Nat.mod_lt _ (by omega)
      have hjl : n % 6 < 6 := Nat.mod_lt _ (by omega)
      obtain ⟨hpos, M, hM, hkey⟩ := HGf2 rfl Pl hPn (by omega) (kk % L.length) hil (n % 6)
      have hL' : (L.length : Int) ≤ 1000000 := by have := HLen.out; omega
      have hL0 : ¬ (L.length : Int) = 0 := by omega
      have hL1 : ((L.length : Int) == 0) = false := by rw [beq_eq_false_iff_ne]; exact hL0
      obtain ⟨p, hp⟩ : ∃ p, p = (L[kk % L.length]'hil).pos := ⟨_, rfl⟩
      rw [← hp] at hpos hM
      rw [← Lib.size_eq] at hpos
      have HPp := Lib.hid hp
      obtain ⟨Mo, hMo⟩ : ∃ Mo, Mo = moreS P (n % 6) := ⟨_, rfl⟩
      have hMd : Mo.data.toList = moreL Pl (n % 6) := by rw [hMo, moreS_data, hP]
      have hMs : Mo.size ≤ 3004 := by rw [Lib.size_eq, hMd]; have := more_len Pl (n % 6); omega
      have HCell := Lib.hid (fun W => hMo ▸ more_cell W P (n % 6) hjl)
      have hX : (C.extract 0 p ++ Mo ++ C.extract p C.size ++ ⟨#[10, 37]⟩ ++ P).data.toList = C.data.toList.take p ++ moreL Pl (n % 6) ++ C.data.toList.drop p ++ 10 :: 37 :: Pl := by
        rw [app_data, app_data, app_data, app_data, hMd, tail_list, hP]
        have h0 := cut_list C 0 p
        rw [Nat.zero_add, List.drop_zero] at h0
        rw [h0]
        simp
      have HW2 := Lib.hid (fun W G => words_any (C.extract 0 p ++ Mo ++ C.extract p C.size ++ ⟨#[10, 37]⟩ ++ P) W (by
        rw [Lib.size_eq, hX]
        have := more_len Pl (n % 6)
        simp only [List.length_append, List.length_take, List.length_drop, List.length_cons]
        rw [← Lib.size_eq]
        omega) G)
      rw [hX, hM] at HW2
      have hlen : M.length = L.length := by have := congrArg List.length hkey; simpa using this
      have HKey := Lib.hid (fun k hk hk' => key_at hkey k hk hk')
      have HLn := Lib.hid hlen
      have hMs' : (Mo.size : Int) ≤ 3004 := by omega
      have hpos' : (p : Int) ≤ (C.size : Int) := by omega
      obtain ⟨C1, hC1⟩ : ∃ C1, C.extract 0 p = C1 := ⟨_, rfl⟩
      obtain ⟨C2, hC2⟩ : ∃ C2, C.extract p C.size = C2 := ⟨_, rfl⟩
      have hC1s : (C1.size : Int) ≤ 3000 := by rw [← hC1, ByteArray.size_extract]; omega
      have hC2s : (C2.size : Int) ≤ 3000 := by rw [← hC2, ByteArray.size_extract]; omega
      have s1 : C1.size ≤ 3000 := by omega
      have s2 : C2.size ≤ 3000 := by omega
      have s3 : (C1 ++ Mo).size ≤ 6004 := by rw [ByteArray.size_append]; omega
      have s4 : (C1 ++ Mo ++ C2).size ≤ 9004 := by rw [ByteArray.size_append]; omega
      have s5 : (C1 ++ Mo ++ C2 ++ ⟨#[10, 37]⟩).size ≤ 9006 := by rw [ByteArray.size_append]; have : (⟨#[10, 37]⟩ : ByteArray).size = 2 := rfl; omega
      have hq1 : ∀ W, (Op.stringOp .add C1 Mo).run Tryd.prog W = .ok (.string (C1 ++ Mo)) W := fun W => run_string_add W _ _ (by omega) (by omega)
      have hq2 : ∀ W, (Op.stringOp .add (C1 ++ Mo) C2).run Tryd.prog W = .ok (.string (C1 ++ Mo ++ C2)) W := fun W => run_string_add W _ _ (by omega) (by omega)
      have hq3 : ∀ W, (Op.stringOp .add (C1 ++ Mo ++ C2) ⟨#[10, 37]⟩).run Tryd.prog W = .ok (.string (C1 ++ Mo ++ C2 ++ ⟨#[10, 37]⟩)) W := fun W => run_string_add W _ _ (by omega) (by decide)
      have hq4 : ∀ W, (Op.stringOp .add (C1 ++ Mo ++ C2 ++ ⟨#[10, 37]⟩) P).run Tryd.prog W = .ok (.string (C1 ++ Mo ++ C2 ++ ⟨#[10, 37]⟩ ++ P)) W := fun W => run_string_add W _ _ (by omega) (by omega)
      rw [hC1, hC2] at HW2
      clear hX hM hkey hlen hMd hMo hp hP hPn hPz HGf2 hjl
      go_enter Tryd.func8, Tryd.ntmps8
      go_wp2_with (first
        | (go_at_call 13; refine (awake_true w HG.out).mono ?_; rintro e w0 ⟨rfl, hb⟩; have HB0 := Lib.hid hb; clear hb)
        | (go_at_call 9; first | (refine (HC.out _).mono ?_; rintro e w1 ⟨rfl, rfl⟩) | (refine (HC2.out _).mono ?_; rintro e w1 ⟨rfl, rfl⟩))
        | (go_at_call 10; refine (HW.out _ (HG.out.below HB0.out)).mono ?_; rintro e w1 ⟨⟨v1, rfl, ho⟩, hb⟩; have HB1 := Lib.hid (HB0.out.trans (hb.mono HB0.out.size)); have HI1 := Lib.hid (ownW_in ho); obtain ⟨b, off, c1, e1, h1, h2, hb1, -, q1⟩ := HI1.out.at_ (by omega); subst e1; have a5 := (q1 (kk % L.length) hil).2.2.2.2.2; rw [← HPp.out] at a5; clear ho hb q1)
        | (go_at_call 21; refine (HP.out _).mono ?_; rintro e w2 ⟨rfl, hb⟩; have HB2 := Lib.hid hb; have hcell := HCell.out w2; clear hb))
      have HB3 := Lib.hid (HB2.out.alloc HB2.out.size (.cells #[.string ⟨#[32]⟩, .string ⟨#[9]⟩, .string ⟨#[10]⟩, .string ⟨#[13]⟩, .string ((⟨#[37, 32]⟩ : ByteArray) ++ P ++ ⟨#[10]⟩), .string ⟨#[37, 10, 37, 10]⟩] 9))
      obtain ⟨W2, hW2⟩ : ∃ W2, W2 = w2.alloc (.cells #[.string ⟨#[32]⟩, .string ⟨#[9]⟩, .string ⟨#[10]⟩, .string ⟨#[13]⟩, .string ((⟨#[37, 32]⟩ : ByteArray) ++ P ++ ⟨#[10]⟩), .string ⟨#[37, 10, 37, 10]⟩] 9) := ⟨_, rfl⟩
      rw [← hW2] at HB3 ⊢
      clear hW2 hcell HB2 HCell
      have HBa := Lib.hid (HB1.out.trans (HB3.out.mono HB1.out.size))
      have HGd := Lib.hid (HG.out.below HBa.out.drew)
      go_region_held3 (fun _ => True) (exact trivial) ((first
        | (have h9 := HB9.out; go_at_call 10; refine (HW2.out _ (HGd.out.below h9)).mono ?_; rintro e w3 ⟨⟨v3, rfl, ho⟩, hb⟩; have HBw := Lib.hid (h9.trans (hb.mono h9.size)); have HI3 := Lib.hid (ownW_in ho); obtain ⟨p3, c3, e3, -⟩ := HI3.out; rw [HLn.out] at e3; subst e3; clear ho hb h9)
        | (go_at_call 21; refine (HP.out _).mono ?_; rintro e w9 ⟨rfl, hb⟩; have HB9 := Lib.hid hb; clear hb)))
      have HBx := Lib.hid (HB3.out.drew.trans (HBw.out.mono HB3.out.size))
      have HI4 := Lib.hid (HI1.out.far HBx.out)
      have HB3 := Lib.hid (HB1.out.trans (HBx.out.mono HB1.out.size))
      clear HW HW2 HP HBw HB9 HI1 HGd HBa hq1 hq2 hq3 hq4 a5 hb1 h1 h2
      go_wp2_with fail
      have HS3 := Lib.hid (Below.refl w3.heap.size w3)
      go_loopw [17] (fun i wr => ∃ k : Nat, k ≤ L.length ∧ i = .int .i64 k ∧ Hid (Below w3.heap.size w3 wr)) (fun i _ => L.length - (intOf i).toNat)
      case atStart => exact ⟨0, Nat.zero_le _, rfl, HS3⟩
      case round =>
        obtain ⟨k, hk, rfl, HB⟩ := hrel
        by_cases hlt : k < L.length
        · have hlt' : (k : Int) < (L.length : Int) := by omega
          obtain ⟨b, off, c0, e1, h1, h2, hb1, -, q1⟩ := HI4.out.at_ (by omega)
          obtain ⟨b', off', c0', e2, h1', h2', hb2, -, q2⟩ := HI3.out.at_ (by rw [HLn.out]; omega)
          cases e1
          rw [HLn.out] at e2 h1'
          cases e2
          have HX := Lib.hid (HKey.out k hlt (by rw [HLn.out]; exact hlt))
          have r1 := q1 k hlt
          have r2 := q2 k (by rw [HLn.out]; exact hlt)
          obtain ⟨x, hx⟩ : ∃ x, x = L[k] := ⟨_, rfl⟩
          obtain ⟨y, hy⟩ : ∃ y, y = M[k]'(by rw [HLn.out]; exact hlt) := ⟨_, rfl⟩
          rw [← hx] at r1 HX
          rw [← hy] at r2 HX
          obtain ⟨a0, a1, a2, a3, a4, a5⟩ := r1
          obtain ⟨d0, d1, d2, d3, d4, d5⟩ := r2
          have hr : Row12 b off b' off' k x y wr := (show Row12 b off b' off' k x y w3 from ⟨a0, a1, a2, a3, a4, a5, d0, d1, d2, d3, d4, d5⟩).keep hb1 hb2 HB.out
          have HR := Lib.hid hr.drew
          have hb1 : b < wr.heap.size := Nat.lt_of_lt_of_le hb1 HB.out.size
          have hb2 : b' < wr.heap.size := Nat.lt_of_lt_of_le hb2 HB.out.size
          have HSm := Lib.hid (fun W => rsame_yes x y HX.out W)
          clear hx hy q1 q2 a0 a1 a2 a3 a4 a5 d0 d1 d2 d3 d4 d5
          obtain ⟨a0, a1, a2, a3, a4, a5, d0, d1, d2, d3, d4, d5⟩ := hr
          unfold maxLen at h2 h2'
          unfold wordV at HSm
          go_wp2_with fail
          go_region_held3 (fun X => X.cell? ⟨b, off + k * 6, none⟩ = some (.int .i64 x.kind) ∧ X.cell? ⟨b, off + k * 6 + 1, none⟩ = some (.string ⟨x.text.toArray⟩) ∧ X.cell? ⟨b, off + k * 6 + 2, none⟩ = some (.int .i64 x.val.1) ∧ X.cell? ⟨b, off + k * 6 + 3, none⟩ = some (.int .i64 x.val.2.1) ∧ X.cell? ⟨b, off + k * 6 + 4, none⟩ = some (.string x.val.2.2) ∧ X.cell? ⟨b, off + k * 6 + 5, none⟩ = some (.int .i64 x.pos) ∧ X.cell? ⟨b', off' + k * 6, none⟩ = some (.int .i64 y.kind) ∧ X.cell? ⟨b', off' + k * 6 + 1, none⟩ = some (.string ⟨y.text.toArray⟩) ∧ X.cell? ⟨b', off' + k * 6 + 2, none⟩ = some (.int .i64 y.val.1) ∧ X.cell? ⟨b', off' + k * 6 + 3, none⟩ = some (.int .i64 y.val.2.1) ∧ X.cell? ⟨b', off' + k * 6 + 4, none⟩ = some (.string y.val.2.2) ∧ X.cell? ⟨b', off' + k * 6 + 5, none⟩ = some (.int .i64 y.pos))
            (first | exact ⟨a0, a1, a2, a3, a4, a5, d0, d1, d2, d3, d4, d5⟩ | exact HS1.out)
            ((go_at_call 19; refine (HSm.out _).mono ?_; rintro e w4 ⟨rfl, hb⟩; have HB4 := Lib.hid hb; have HS1 := Lib.hid (HR.out.keep hb1 hb2 hb)))
          all_goals
            go_wp2_with fail
            go_roundw
          case rel => exact ⟨k + 1, by omega, by go_num, Lib.hid (HB.out.drew.trans (HB4.out.mono HB.out.size))⟩
          case measure => simp [intOf]; omega
        · have hge : ¬ (k : Int) < (L.length : Int) := by omega
          go_wp2_with fail
          go_ret
          exact ⟨rfl, HB3.out.trans (HB.out.mono HB3.out.size)⟩
  · have hg1 : (g != 0) = true := by simpa using hg
    have hg2 : (g == 0) = false := by simpa using hg
    clear HGf2 hg hP hPn hPz HP
    go_enter Tryd.func8, Tryd.ntmps8
    go_wp2_with (first
      | (go_at_call 13; refine (awake_true w HG.out).mono ?_; rintro e w0 ⟨rfl, hb⟩; have HB0 := Lib.hid hb; clear hb)
      | (go_at_call 9; first | (refine (HC.out _).mono ?_; rintro e w1 ⟨rfl, rfl⟩) | (refine (HC2.out _).mono ?_; rintro e w1 ⟨rfl, rfl⟩))
      | (go_at_call 10; refine (HW.out _ (HG.out.below HB0.out)).mono ?_; rintro e w1 ⟨⟨v1, rfl, ho⟩, hb⟩; have HB1 := Lib.hid (HB0.out.trans (hb.mono HB0.out.size)); have HI1 := Lib.hid (ownW_in ho); obtain ⟨p1, c1, e1, -⟩ := HI1.out; subst e1; clear ho hb))
    go_ret
    exact ⟨rfl, HB1.out⟩
end Go.Proofs.YtiokdlomfmkkoaaDoor
