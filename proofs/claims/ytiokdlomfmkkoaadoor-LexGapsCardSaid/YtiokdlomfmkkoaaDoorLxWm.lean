/-
  Walk of the law LexBack.
-/
import Derived.Test.YtiokdlomfmkkoaaDoorLxWl
import Derived.Deep.RegionHeld3
namespace Go.Proofs.YtiokdlomfmkkoaaDoor
open Go Go.RowKit

/-- How many bytes tokens have, and one more each. -/
def wsum : List Wd → Nat
  | [] => 0
  | w :: ws => w.text.length + 1 + wsum ws
theorem joinW_sum : ∀ L : List Wd, (joinW L).length ≤ wsum L
  | [] => by simp [joinW, joinB]
  | w :: ws => by
    have := joinW_sum ws
    unfold joinW at this ⊢
    rw [List.map_cons, joinB_cons]
    by_cases h : ws.map Wd.text = []
    · rw [if_pos h]
      simp [wsum]
      omega
    · rw [if_neg h]
      simp only [List.length_append, List.length_cons, wsum]
      omega
theorem lexS_sum {V : List UInt8 → Option VL} : ∀ (N : Nat) (l : List UInt8) (p : Nat), l.length ≤ N → wsum (lexS V l p).1 ≤ 2 * l.length := by
  intro N
  induction N with
  | zero =>
    intro l p hl
    obtain rfl : l = [] := List.eq_nil_of_length_eq_zero (by omega)
    rw [lexS_end (by simp [skC])]
    simp [wsum]
  | succ N ih =>
    intro l p hl
    cases e : l.drop (skC false l) with
    | nil => rw [lexS_end e]; simp [wsum]
    | cons c r =>
      have h3 : (l.drop (skC false l)).length = r.length + 1 := by rw [e]; rfl
      rw [List.length_drop] at h3
      rw [lexS_at e]
      cases ht : tokL V (c :: r) with
      | none => rw [lexG_bad ht]; simp [wsum]
      | some q =>
        obtain ⟨k, n, v⟩ := q
        obtain ⟨h1, h2, -⟩ := tok_len ht
        have i := ih ((c :: r).drop n) (p + skC false l + n) (by rw [List.length_drop, List.length_cons]; omega)
        rw [List.length_drop, List.length_cons] at i
        rw [lexG_tok ht]
        simp only [wsum, List.length_take, List.length_cons]
        omega
/-- What a text's words tell of it, if it has any. -/
theorem wordsL_ok {l : List UInt8} (h : (wordsL l).2.2 = 0) : (lexS valL l 0).2 = none ∧ wordsL l = ((lexS valL l 0).1, 0, 0) := by
  unfold wordsL at h ⊢
  split at h
  · cases h
  · rename_i hl
    rw [if_neg hl]
    cases e : (lexS valL l 0).2 with
    | none => exact ⟨rfl, rfl⟩
    | some n => rw [e] at h; cases h
theorem wordsL_of {l : List UInt8} (hl : l.length ≤ 65536) (h : (lexS valL l 0).2 = none) : wordsL l = ((lexS valL l 0).1, 0, 0) := by
  unfold wordsL
  rw [if_neg (by omega), h]
theorem back_facts {l : List UInt8} (hl : l.length ≤ 3000) (h : (wordsL l).2.2 = 0) :
    (joinW (wordsL l).1).length ≤ 6000 ∧ ∃ M, wordsL (joinW (wordsL l).1) = (M, 0, 0) ∧ M.map Wd.key = (wordsL l).1.map Wd.key := by
  obtain ⟨h1, h2⟩ := wordsL_ok h
  rw [h2]
  have h3 := lexS_join valL_open _ l 0 (Nat.le_refl _) h1 0
  have h4 := joinW_sum (lexS valL l 0).1
  have h5 := lexS_sum (V := valL) _ l 0 (Nat.le_refl _)
  exact ⟨by show (joinW (lexS valL l 0).1).length ≤ 6000; omega, _, wordsL_of (by show (joinW (lexS valL l 0).1).length ≤ 65536; omega) h3.1, h3.2⟩
theorem key_at {L M : List Wd} (h : M.map Wd.key = L.map Wd.key) (k : Nat) (hk : k < L.length) (hk' : k < M.length) : L[k].key = M[k].key := by
  have e := congrArg (fun q => q[k]?) h
  simp only [List.getElem?_map, List.getElem?_eq_getElem hk, List.getElem?_eq_getElem hk', Option.map_some, Option.some.injEq] at e
  exact e.symm
theorem wordV_eq (x : Wd) : wordV x = .agg #[.int .i64 x.kind, .string ⟨x.text.toArray⟩, .int .i64 x.val.1, .int .i64 x.val.2.1, .string x.val.2.2, .int .i64 x.pos] := rfl
/-- The loop of LexBack and LexGaps: two rows with the same keys. -/
def Row12 (b off b' off' k : Nat) (x y : Wd) (W : World) : Prop :=
  W.cell? ⟨b, off + k * 6, none⟩ = some (.int .i64 x.kind) ∧ W.cell? ⟨b, off + k * 6 + 1, none⟩ = some (.string ⟨x.text.toArray⟩) ∧ W.cell? ⟨b, off + k * 6 + 2, none⟩ = some (.int .i64 x.val.1) ∧
  W.cell? ⟨b, off + k * 6 + 3, none⟩ = some (.int .i64 x.val.2.1) ∧ W.cell? ⟨b, off + k * 6 + 4, none⟩ = some (.string x.val.2.2) ∧ W.cell? ⟨b, off + k * 6 + 5, none⟩ = some (.int .i64 x.pos) ∧
  W.cell? ⟨b', off' + k * 6, none⟩ = some (.int .i64 y.kind) ∧ W.cell? ⟨b', off' + k * 6 + 1, none⟩ = some (.string ⟨y.text.toArray⟩) ∧ W.cell? ⟨b', off' + k * 6 + 2, none⟩ = some (.int .i64 y.val.1) ∧
  W.cell? ⟨b', off' + k * 6 + 3, none⟩ = some (.int .i64 y.val.2.1) ∧ W.cell? ⟨b', off' + k * 6 + 4, none⟩ = some (.string y.val.2.2) ∧ W.cell? ⟨b', off' + k * 6 + 5, none⟩ = some (.int .i64 y.pos)
theorem Row12.keep {b off b' off' k : Nat} {x y : Wd} {W W' : World} (h : Row12 b off b' off' k x y W) (hb : b < W.heap.size) (hb' : b' < W.heap.size) (hw : Below W.heap.size W W') : Row12 b off b' off' k x y W' := by
  obtain ⟨a0, a1, a2, a3, a4, a5, d0, d1, d2, d3, d4, d5⟩ := h
  have f : ∀ o, W'.cell? ⟨b, o, none⟩ = W.cell? ⟨b, o, none⟩ := fun o => hw.cell (p := ⟨b, o, none⟩) hb
  have g : ∀ o, W'.cell? ⟨b', o, none⟩ = W.cell? ⟨b', o, none⟩ := fun o => hw.cell (p := ⟨b', o, none⟩) hb'
  exact ⟨(f _).trans a0, (f _).trans a1, (f _).trans a2, (f _).trans a3, (f _).trans a4, (f _).trans a5, (g _).trans d0, (g _).trans d1, (g _).trans d2, (g _).trans d3, (g _).trans d4, (g _).trans d5⟩
theorem Row12.drew {b off b' off' k : Nat} {x y : Wd} {W : World} (h : Row12 b off b' off' k x y W) : Row12 b off b' off' k x y W.drew := by
  unfold Row12 at h ⊢
  simp only [World.cell?_drew]
  exact h
set_option maxHeartbeats 4000000 in
set_option maxRecDepth 100000 in
theorem lexBack_walk (s : ByteArray) (w : World) (hm : s.size ≤ maxLen) (G : Glob w) :
    Calls Tryd.prog 7 #[.string s] w fun e w' => e = .returned (.bool true) ∧ Below w.heap.size w w' := by
  have HC := Lib.hid (fun W => lcut_any s W hm)
  obtain ⟨C, hC⟩ : ∃ C, C = cutX s := ⟨_, rfl⟩
  have hz := cutX_size s
  rw [← hC] at HC hz
  clear hC
  have HG := Lib.hid G
  have HW := Lib.hid (fun W G => words_any C W (by omega) G)
  have HLen := Lib.hid (wordsL_len C (by omega))
  have HBf := Lib.hid (back_facts (l := C.data.toList) (by rw [← Lib.size_eq]; exact hz))
  obtain ⟨⟨L, n, g⟩, hR⟩ : ∃ R, R = wordsL C.data.toList := ⟨_, rfl⟩
  rw [← hR] at HW HLen HBf
  simp only at HW HLen HBf
  clear hR hz G
  by_cases hg : g = 0
  · obtain ⟨hj, M, hM, hkey⟩ := HBf.out hg
    have HJ := Lib.hid (fun v S W h hS => join_any v L S W h hS (by omega) HLen.out)
    have HW2 := Lib.hid (fun W G => words_any ⟨(joinW L).toArray⟩ W (by rw [Lib.size_eq]; simpa using (by omega : (joinW L).length ≤ 1000000)) G)
    rw [show (⟨(joinW L).toArray⟩ : ByteArray).data.toList = joinW L by simp, hM] at HW2
    have hlen : M.length = L.length := by have := congrArg List.length hkey; simpa using this
    have HKey := Lib.hid (fun k hk hk' => key_at hkey k hk hk')
    have HLn := Lib.hid hlen
    obtain ⟨J, hJ⟩ : ∃ J : ByteArray, J = ⟨(joinW L).toArray⟩ := ⟨_, rfl⟩
    rw [← hJ] at HW2 HJ
    subst hg
    clear hj hM hkey hJ HBf hlen
    go_enter Tryd.func7, Tryd.ntmps7
    go_wp2_with (first
      | (go_at_call 13; refine (awake_true w HG.out).mono ?_; rintro e w0 ⟨rfl, hb⟩; have HB0 := Lib.hid hb; clear hb)
      | (go_at_call 9; refine (HC.out _).mono ?_; rintro e w1 ⟨rfl, rfl⟩)
      | (have h2 := HB2.out; go_at_call 10; refine (HW2.out _ (HG.out.below HB2.out)).mono ?_; rintro e w3 ⟨⟨v3, rfl, ho⟩, hb⟩; have HB3 := Lib.hid (HB2.out.trans (hb.mono HB2.out.size)); have HI3 := Lib.hid (ownW_in ho); have HI4 := Lib.hid (HI2.out.keep hb.size (S' := fun k => k < w3.heap.size) (fun k e hk => ⟨Nat.lt_of_lt_of_le hk hb.size, hb.block k hk⟩)); obtain ⟨p1, c1, e1, -⟩ := HI2.out; subst e1; obtain ⟨p3, c3, e3, -⟩ := HI3.out; rw [HLn.out] at e3; subst e3; clear ho hb h2)
      | (go_at_call 16; refine (HJ.out _ _ _ HI1.out (fun k e => e.2)).mono ?_; rintro e w2 ⟨rfl, hb⟩; have HB2 := Lib.hid (HB1.out.trans (hb.mono HB1.out.size)); have HI2 := Lib.hid (HI1.out.far hb); clear hb)
      | (go_at_call 10; refine (HW.out _ (HG.out.below HB0.out)).mono ?_; rintro e w1 ⟨⟨v1, rfl, ho⟩, hb⟩; have HB1 := Lib.hid (HB0.out.trans (hb.mono HB0.out.size)); have HI1 := Lib.hid (ownW_in ho); clear ho hb))
    have HS3 := Lib.hid (Below.refl w3.heap.size w3)
    have hL' : (L.length : Int) ≤ 1000000 := by have := HLen.out; omega
    go_loopw [9] (fun i wr => ∃ k : Nat, k ≤ L.length ∧ i = .int .i64 k ∧ Hid (Below w3.heap.size w3 wr)) (fun i _ => L.length - (intOf i).toNat)
    case atStart => exact ⟨0, Nat.zero_le _, rfl, HS3⟩
    case round =>
      obtain ⟨k, hk, rfl, HB⟩ := hrel
      by_cases hlt : k < L.length
      · have hlt' : (k : Int) < (L.length : Int) := by omega
        obtain ⟨b, off, c0, e1, h1, h2, hb1, -, q1⟩ := HI4.out.at_ (by omega)
        obtain ⟨b', off', c0', e2, h1', h2', hb2, -, q2⟩ := HI3.out.at_ (by rw [HLn.out]; omega)
        cases e1
        rw [HLn.out] at e2 h1'
        cases e2
        have HX := Lib.hid (HKey.out k hlt (by rw [HLn.out]; exact hlt))
        have r1 := q1 k hlt
        have r2 := q2 k (by rw [HLn.out]; exact hlt)
        obtain ⟨x, hx⟩ : ∃ x, x = L[k] := ⟨_, rfl⟩
        obtain ⟨y, hy⟩ : ∃ y, y = M[k]'(by rw [HLn.out]; exact hlt) := ⟨_, rfl⟩
        rw [← hx] at r1 HX
        rw [← hy] at r2 HX
        obtain ⟨a0, a1, a2, a3, a4, a5⟩ := r1
        obtain ⟨d0, d1, d2, d3, d4, d5⟩ := r2
        have hr : Row12 b off b' off' k x y wr := (show Row12 b off b' off' k x y w3 from ⟨a0, a1, a2, a3, a4, a5, d0, d1, d2, d3, d4, d5⟩).keep hb1 hb2 HB.out
        have HR := Lib.hid hr.drew
        have hb1 : b < wr.heap.size := Nat.lt_of_lt_of_le hb1 HB.out.size
        have hb2 : b' < wr.heap.size := Nat.lt_of_lt_of_le hb2 HB.out.size
        have HSm := Lib.hid (fun W => rsame_yes x y HX.out W)
        clear hx hy q1 q2 a0 a1 a2 a3 a4 a5 d0 d1 d2 d3 d4 d5
        obtain ⟨a0, a1, a2, a3, a4, a5, d0, d1, d2, d3, d4, d5⟩ := hr
        unfold maxLen at h2 h2'
        unfold wordV at HSm
        go_wp2_with fail
        go_region_held3 (fun X => X.cell? ⟨b, off + k * 6, none⟩ = some (.int .i64 x.kind) ∧ X.cell? ⟨b, off + k * 6 + 1, none⟩ = some (.string ⟨x.text.toArray⟩) ∧ X.cell? ⟨b, off + k * 6 + 2, none⟩ = some (.int .i64 x.val.1) ∧ X.cell? ⟨b, off + k * 6 + 3, none⟩ = some (.int .i64 x.val.2.1) ∧ X.cell? ⟨b, off + k * 6 + 4, none⟩ = some (.string x.val.2.2) ∧ X.cell? ⟨b, off + k * 6 + 5, none⟩ = some (.int .i64 x.pos) ∧ X.cell? ⟨b', off' + k * 6, none⟩ = some (.int .i64 y.kind) ∧ X.cell? ⟨b', off' + k * 6 + 1, none⟩ = some (.string ⟨y.text.toArray⟩) ∧ X.cell? ⟨b', off' + k * 6 + 2, none⟩ = some (.int .i64 y.val.1) ∧ X.cell? ⟨b', off' + k * 6 + 3, none⟩ = some (.int .i64 y.val.2.1) ∧ X.cell? ⟨b', off' + k * 6 + 4, none⟩ = some (.string y.val.2.2) ∧ X.cell? ⟨b', off' + k * 6 + 5, none⟩ = some (.int .i64 y.pos))
          (first | exact ⟨a0, a1, a2, a3, a4, a5, d0, d1, d2, d3, d4, d5⟩ | exact HS1.out)
          ((go_at_call 19; refine (HSm.out _).mono ?_; rintro e w4 ⟨rfl, hb⟩; have HB4 := Lib.hid hb; have HS1 := Lib.hid (HR.out.keep hb1 hb2 hb)))
        all_goals
          go_wp2_with fail
          go_roundw
        case rel => exact ⟨k + 1, by omega, by go_num, Lib.hid (HB.out.drew.trans (HB4.out.mono HB.out.size))⟩
        case measure => simp [intOf]; omega
      · have hge : ¬ (k : Int) < (L.length : Int) := by omega
        go_wp2_with fail
        go_ret
        exact ⟨rfl, HB3.out.trans (HB.out.mono HB3.out.size)⟩
  · have hg1 : (g != 0) = true := by simpa using hg
    have hg2 : (g == 0) = false := by simpa using hg
    clear HBf hg
    go_enter Tryd.func7, Tryd.ntmps7
    go_wp2_with (first
      | (go_at_call 13; refine (awake_true w HG.out).mono ?_; rintro e w0 ⟨rfl, hb⟩; have HB0 := Lib.hid hb; clear hb)
      | (go_at_call 9; refine (HC.out _).mono ?_; rintro e w1 ⟨rfl, rfl⟩)
      | (go_at_call 10; refine (HW.out _ (HG.out.below HB0.out)).mono ?_; rintro e w1 ⟨⟨v1, rfl, ho⟩, hb⟩; have HB1 := Lib.hid (HB0.out.trans (hb.mono HB0.out.size)); clear ho hb))
    go_ret
    exact ⟨rfl, HB1.out⟩
end Go.Proofs.YtiokdlomfmkkoaaDoor
