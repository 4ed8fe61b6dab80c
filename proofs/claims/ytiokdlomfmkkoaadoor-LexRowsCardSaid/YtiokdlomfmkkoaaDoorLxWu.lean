/-
  Walk of the law LexRows.
-/
import Derived.Test.YtiokdlomfmkkoaaDoorLxWs
import Derived.Test.YtiokdlomfmkkoaaDoorLxAw
import Derived.Deep.RegionHeld3
namespace Go.Proofs.YtiokdlomfmkkoaaDoor
open Go Go.RowKit

/-- The tokens that are looked at. -/
def fewZ (L : List Wz) : List Wz := L.filter (fun x => decide (x.text.length ≤ 300))
theorem fewZ_step (L : List Wz) (k : Nat) (h : k < L.length) : fewZ (L.take (k + 1)) = fewZ (L.take k) ++ (if L[k].text.length ≤ 300 then [L[k]] else []) := by
  unfold fewZ
  rw [List.take_succ_eq_append_getElem h, List.filter_append]
  by_cases e : L[k].text.length ≤ 300
  · rw [if_pos e]; simp [e]
  · rw [if_neg e]; simp [e]
theorem joinZ_sum : ∀ L : List Wz, (∀ x ∈ L, x.text.length ≤ 300) → (joinZ L).length ≤ L.length * 301
  | [], _ => by simp [joinZ, joinB]
  | w :: ws, h => by
    have i := joinZ_sum ws (fun x hx => h x (List.mem_cons_of_mem _ hx))
    have h0 := h w List.mem_cons_self
    unfold joinZ at i ⊢
    rw [List.map_cons, joinB_cons]
    by_cases e : ws.map Wz.text = []
    · rw [if_pos e]
      simp
      omega
    · rw [if_neg e]
      simp only [List.length_append, List.length_cons]
      omega
theorem fewZ_facts (L : List Wz) (k : Nat) (hk : k ≤ 40) : (fewZ (L.take k)).length ≤ 40 ∧ (joinZ (fewZ (L.take k))).length ≤ 12040 := by
  have h1 : (fewZ (L.take k)).length ≤ 40 := by
    unfold fewZ
    have := List.length_filter_le (fun x : Wz => decide (x.text.length ≤ 300)) (L.take k)
    rw [List.length_take] at this
    omega
  have h2 := joinZ_sum (fewZ (L.take k)) (fun x hx => by
    have := (List.mem_filter.1 hx).2
    simpa using this)
  exact ⟨h1, by omega⟩
/-- Two boxes with tokens. -/
def Two (n : Nat) (x y : Wz) (W : World) : Prop :=
  W.cell? ⟨n, 0, none⟩ = some (.int .i64 x.kind) ∧ W.cell? ⟨n, 1, none⟩ = some (.string ⟨x.text.toArray⟩) ∧ W.cell? ⟨n, 2, none⟩ = some (.int .i64 x.val.1) ∧ W.cell? ⟨n, 3, none⟩ = some (.int .i64 x.val.2.1) ∧ W.cell? ⟨n, 4, none⟩ = some (.string x.val.2.2) ∧ W.cell? ⟨n, 5, none⟩ = some (.int .i64 x.pos) ∧
  W.cell? ⟨n + 1, 0, none⟩ = some (.int .i64 y.kind) ∧ W.cell? ⟨n + 1, 1, none⟩ = some (.string ⟨y.text.toArray⟩) ∧ W.cell? ⟨n + 1, 2, none⟩ = some (.int .i64 y.val.1) ∧ W.cell? ⟨n + 1, 3, none⟩ = some (.int .i64 y.val.2.1) ∧ W.cell? ⟨n + 1, 4, none⟩ = some (.string y.val.2.2) ∧ W.cell? ⟨n + 1, 5, none⟩ = some (.int .i64 y.pos)
theorem Two.keep {n m : Nat} {x y : Wz} {W W' : World} (h : Two n x y W) (hm : n + 2 ≤ m) (hw : Below m W W') : Two n x y W' := by
  obtain ⟨a0, a1, a2, a3, a4, a5, d0, d1, d2, d3, d4, d5⟩ := h
  have f : ∀ o, W'.cell? ⟨n, o, none⟩ = W.cell? ⟨n, o, none⟩ := fun o => hw.cell (p := ⟨n, o, none⟩) (show n < m by omega)
  have g : ∀ o, W'.cell? ⟨n + 1, o, none⟩ = W.cell? ⟨n + 1, o, none⟩ := fun o => hw.cell (p := ⟨n + 1, o, none⟩) (show n + 1 < m by omega)
  exact ⟨(f _).trans a0, (f _).trans a1, (f _).trans a2, (f _).trans a3, (f _).trans a4, (f _).trans a5, (g _).trans d0, (g _).trans d1, (g _).trans d2, (g _).trans d3, (g _).trans d4, (g _).trans d5⟩
theorem Two.drew {n : Nat} {x y : Wz} {W : World} (h : Two n x y W) : Two n x y W.drew := by
  unfold Two at h ⊢
  simp only [World.cell?_drew]
  exact h
theorem Two.new (w : World) (x y : Wz) : Two w.heap.size x y ((w.alloc (.cells #[.int .i64 x.kind, .string ⟨x.text.toArray⟩, .int .i64 x.val.1, .int .i64 x.val.2.1, .string x.val.2.2, .int .i64 x.pos] 37)).alloc (.cells #[.int .i64 y.kind, .string ⟨y.text.toArray⟩, .int .i64 y.val.1, .int .i64 y.val.2.1, .string y.val.2.2, .int .i64 y.pos] 37)) := by
  have h1 := heap_alloc_new w (.cells #[.int .i64 x.kind, .string ⟨x.text.toArray⟩, .int .i64 x.val.1, .int .i64 x.val.2.1, .string x.val.2.2, .int .i64 x.pos] 37)
  have h1' := (Below.heap_alloc _ (.cells #[.int .i64 y.kind, .string ⟨y.text.toArray⟩, .int .i64 y.val.1, .int .i64 y.val.2.1, .string y.val.2.2, .int .i64 y.pos] 37) _ (Array.getElem?_eq_some_iff.1 h1).1).trans h1
  have h2 := heap_alloc_new (w.alloc (.cells #[.int .i64 x.kind, .string ⟨x.text.toArray⟩, .int .i64 x.val.1, .int .i64 x.val.2.1, .string x.val.2.2, .int .i64 x.pos] 37)) (.cells #[.int .i64 y.kind, .string ⟨y.text.toArray⟩, .int .i64 y.val.1, .int .i64 y.val.2.1, .string y.val.2.2, .int .i64 y.pos] 37)
  rw [World.size_alloc] at h2
  exact ⟨cell_of_row _ _ 0 _ _ (0, 0) h1', cell_of_row _ _ 1 _ _ (0, 0) h1', cell_of_row _ _ 2 _ _ (0, 0) h1', cell_of_row _ _ 3 _ _ (0, 0) h1', cell_of_row _ _ 4 _ _ (0, 0) h1', cell_of_row _ _ 5 _ _ (0, 0) h1',
    cell_of_row _ _ 0 _ _ (0, 0) h2, cell_of_row _ _ 1 _ _ (0, 0) h2, cell_of_row _ _ 2 _ _ (0, 0) h2, cell_of_row _ _ 3 _ _ (0, 0) h2, cell_of_row _ _ 4 _ _ (0, 0) h2, cell_of_row _ _ 5 _ _ (0, 0) h2⟩
/-- What both Where answer. -/
theorem both_where (s : ByteArray) (x : Int) (hm : s.size ≤ 3000) : ∃ a b g : Int, (∀ w, Calls Tryd.prog 14 #[.string s, .int .i64 x] w fun e w' => e = .returned (.tuple #[.int .i64 a, .int .i64 b, .int .i64 g]) ∧ w' = w) ∧
    ∀ w, Calls Tryd.prog 15 #[.string s, .int .i64 x] w fun e w' => e = .returned (.tuple #[.int .i64 a, .int .i64 b, .int .i64 g]) ∧ w' = w := by
  by_cases h : noWhere s x
  · exact ⟨0, 0, 5, fun w => where_no s x w h, fun w => rwhere_no s x w h⟩
  · unfold noWhere at h
    obtain ⟨p, rfl⟩ := Int.eq_ofNat_of_zero_le (show 0 ≤ x by omega)
    exact ⟨lineN s p, colN s p, 0, fun w => where_in s p w hm (by omega), fun w => rwhere_in s p w hm (by omega)⟩
set_option maxHeartbeats 8000000 in
set_option maxRecDepth 100000 in
theorem lexRows_walk (v0 : Value) (L : List Wz) (s : ByteArray) (x : Int) (a b : Wz) (w : World) (h0 : ZIn (fun k => k < w.heap.size) w v0 L) (hm : s.size ≤ maxLen) (_ : I64 x) (G : Glob w) :
    Calls Tryd.prog 5 #[v0, .string s, .int .i64 x, wzV a, wzV b] w fun e w' => e = .returned (.bool true) ∧ Below w.heap.size w w' := by
  have HC := Lib.hid (fun W => lcut_any s W hm)
  obtain ⟨C, hC⟩ : ∃ C, C = cutX s := ⟨_, rfl⟩
  have hz := cutX_size s
  rw [← hC] at HC hz
  clear hC
  have HG := Lib.hid G
  obtain ⟨y1, y2, y3, hw1, hw2⟩ := both_where C x hz
  have HW1 := Lib.hid hw1
  have HW2 := Lib.hid hw2
  have HI := Lib.hid h0
  have HTw := Lib.hid (Two.new w a b)
  have HS1 := Lib.hid (fun W => same_any a b W)
  have HS2 := Lib.hid (fun W => rsamez_any a b W)
  have HS3 := Lib.hid (fun W => (sameK_self a) ▸ same_any a a W)
  obtain ⟨p, c, rfl, hc1, hc2, -⟩ := h0
  unfold maxLen at hc2
  clear hw1 hw2 G hm
  unfold wzV at HS1 HS2 HS3 ⊢
  obtain ⟨sk, hsk⟩ : ∃ sk, sk = sameK a b := ⟨_, rfl⟩
  rw [← hsk] at HS1 HS2
  clear hsk
  go_enter Tryd.func5, Tryd.ntmps5
  go_wp2_with (go_at_call 9; refine (HC.out _).mono ?_; rintro e w1 ⟨rfl, rfl⟩)
  obtain ⟨W0, hW0⟩ : ∃ W0, W0 = (w.alloc (.cells #[.int .i64 a.kind, .string ⟨a.text.toArray⟩, .int .i64 a.val.1, .int .i64 a.val.2.1, .string a.val.2.2, .int .i64 a.pos] 37)).alloc (.cells #[.int .i64 b.kind, .string ⟨b.text.toArray⟩, .int .i64 b.val.1, .int .i64 b.val.2.1, .string b.val.2.2, .int .i64 b.pos] 37) := ⟨_, rfl⟩
  have HB0 := Lib.hid (show Below w.heap.size w W0 by rw [hW0]; exact below_2 _ _ _)
  have hs0 : W0.heap.size = w.heap.size + 2 := by rw [hW0]; simp
  rw [← hW0] at HTw ⊢
  have HS0 := Lib.hid hs0
  clear hW0 hs0
  have HR0 := Lib.hid (Below.refl W0.heap.size W0)
  go_loopw [11, 12] (fun v i wr => ∃ k : Nat, k ≤ L.length ∧ k ≤ 40 ∧ i = .int .i64 k ∧ Hid (OwnZ W0.heap.size wr v (fewZ (L.take k))) ∧ Hid (Below W0.heap.size W0 wr)) (fun _ i _ => 40 - (intOf i).toNat)
  case atStart => exact ⟨0, Nat.zero_le _, Nat.zero_le _, rfl, Lib.hid (OwnZ.nil _ _), HR0⟩
  case round =>
    obtain ⟨k, hk, hk40, rfl, HO, HB⟩ := hrel
    obtain ⟨p0, c0, e0, -⟩ := HO.out.in_ (fun _ => True) (fun _ _ => trivial)
    subst e0
    have hbs := HB.out.size
    by_cases hmain : k < L.length ∧ k < 40
    · obtain ⟨hlt, h40⟩ := hmain
      have hlt' : (k : Int) < (L.length : Int) := by omega
      have h40' : (k : Int) < 40 := by omega
      obtain ⟨bq, off, cq, e, h1, h2, hbl, -, hat⟩ := HI.out.at_ (by omega)
      cases e
      have hcell : ∀ o, wr.cell? ⟨bq, o, none⟩ = w.cell? ⟨bq, o, none⟩ := fun o => (HB.out.cell (p := ⟨bq, o, none⟩) (show bq < W0.heap.size by have := HS0.out; omega)).trans (HB0.out.cell (p := ⟨bq, o, none⟩) hbl)
      obtain ⟨a0, a1, a2, a3, a4, a5⟩ := hat k hlt
      rw [← hcell] at a0 a1 a2 a3 a4 a5
      have hst := fewZ_step L k hlt
      obtain ⟨X, hX⟩ : ∃ X, X = L[k] := ⟨_, rfl⟩
      rw [← hX] at a0 a1 a2 a3 a4 a5 hst
      have hFl := (fewZ_facts L k hk40).1
      clear hcell hat hX
      by_cases h300 : X.text.length ≤ 300
      · have h300' : (X.text.length : Int) ≤ 300 := by omega
        rw [if_pos h300] at hst
        have HSt := Lib.hid hst
        have hlit := litZ_in wr X
        have HLit := Lib.hid hlit
        have HFl := Lib.hid (show (fewZ (L.take k)).length ≤ 1000000 by omega)
        clear hst hlit hFl
        go_wp2_with (at_builtin; refine wpList_appZ rfl (.tmp 38) (.tmp 43) rfl W0.heap.size _ (fewZ (L.take k)) X wr.heap.size 1 rfl rfl (HO.out.alloc _) HLit.out HFl.out (by simp; omega) ?_)
        intro v5 w5 ho5 hg5 _
        have HB5 := Lib.hid ((HB.out.alloc hbs _).grown hg5 (by simp; omega) (fun k e => (HO.out.lt k e).1))
        rw [← HSt.out] at ho5
        have HO5 := Lib.hid ho5
        obtain ⟨p5, c5, e5, -⟩ := HO5.out.in_ (fun _ => True) (fun _ _ => trivial)
        subst e5
        clear ho5 hg5
        go_wp2_with fail
        go_roundw
        case rel => exact ⟨k + 1, by omega, by omega, by go_num, HO5, HB5⟩
        case measure => simp [intOf]; omega
      · have h300' : ¬ (X.text.length : Int) ≤ 300 := by omega
        have h300'' : (300 : Int) < (X.text.length : Int) := by omega
        rw [if_neg h300, List.append_nil] at hst
        have HO5 := Lib.hid (show OwnZ W0.heap.size wr _ (fewZ (L.take (k + 1))) by rw [hst]; exact HO.out)
        clear hst
        go_wp2_with fail
        go_roundw
        case rel => exact ⟨k + 1, by omega, by omega, by go_num, HO5, HB⟩
        case measure => simp [intOf]; omega
    · obtain ⟨hFl, hJl⟩ := fewZ_facts L k hk40
      obtain ⟨F, hF⟩ : ∃ F, F = fewZ (L.take k) := ⟨_, rfl⟩
      rw [← hF] at hFl hJl HO
      rw [← hF]
      clear hF
      have HZ := Lib.hid (HO.out.in_ (fun j => W0.heap.size ≤ j ∧ j < wr.heap.size) (fun j e => HO.out.lt j e))
      have HJ := Lib.hid (fun v S W h hS => joinz_any v F S W h hS (by omega) (by omega))
      have HRJ := Lib.hid (fun v S W h hS => rjoinz_any v F S W h hS (by omega) (by omega))
      obtain ⟨J, hJ⟩ : ∃ J : ByteArray, J = ⟨(joinZ F).toArray⟩ := ⟨_, rfl⟩
      rw [← hJ] at HJ HRJ
      have hsb : (sk == sk) = true := by simp
      have HT0 := Lib.hid ((HTw.out.keep (by have := HS0.out; omega) HB.out).drew)
      obtain ⟨a0, a1, a2, a3, a4, a5, d0, d1, d2, d3, d4, d5⟩ := HTw.out.keep (by have := HS0.out; omega) HB.out
      have HBw := Lib.hid (HB0.out.trans (HB.out.mono (by have := HS0.out; omega)))
      have HN0 := Lib.hid (show w.heap.size + 2 ≤ wr.heap.size by have := HS0.out; omega)
      have HZd := Lib.hid (show ZIn _ wr.drew _ F from HZ.out)
      clear hJ hFl hJl
      rcases (show ¬ k < L.length ∨ (k < L.length ∧ ¬ k < 40) by omega) with hn | ⟨hn, hn4⟩
      case' inl => have hn' : ¬ (k : Int) < (L.length : Int) := by omega
      case' inr => have hn' : (k : Int) < (L.length : Int) := by omega
      case' inr => have hn4' : ¬ (k : Int) < 40 := by omega
      all_goals
        go_wp2_with (first
          | (go_at_call 14; refine (HW1.out _).mono ?_; rintro e w1 ⟨rfl, hw⟩; subst w1)
          | (go_at_call 15; refine (HW2.out _).mono ?_; rintro e w1 ⟨rfl, hw⟩; subst w1))
        go_region_held3 (fun X => X.cell? ⟨w.heap.size, 0, none⟩ = some (.int .i64 a.kind) ∧ X.cell? ⟨w.heap.size, 1, none⟩ = some (.string ⟨a.text.toArray⟩) ∧ X.cell? ⟨w.heap.size, 2, none⟩ = some (.int .i64 a.val.1) ∧ X.cell? ⟨w.heap.size, 3, none⟩ = some (.int .i64 a.val.2.1) ∧ X.cell? ⟨w.heap.size, 4, none⟩ = some (.string a.val.2.2) ∧ X.cell? ⟨w.heap.size, 5, none⟩ = some (.int .i64 a.pos) ∧ X.cell? ⟨w.heap.size + 1, 0, none⟩ = some (.int .i64 b.kind) ∧ X.cell? ⟨w.heap.size + 1, 1, none⟩ = some (.string ⟨b.text.toArray⟩) ∧ X.cell? ⟨w.heap.size + 1, 2, none⟩ = some (.int .i64 b.val.1) ∧ X.cell? ⟨w.heap.size + 1, 3, none⟩ = some (.int .i64 b.val.2.1) ∧ X.cell? ⟨w.heap.size + 1, 4, none⟩ = some (.string b.val.2.2) ∧ X.cell? ⟨w.heap.size + 1, 5, none⟩ = some (.int .i64 b.pos))
          (first | exact ⟨a0, a1, a2, a3, a4, a5, d0, d1, d2, d3, d4, d5⟩ | exact KT6.out | exact KT5.out | exact KT4.out | exact KT3.out | exact KT2.out | exact KT1.out)
          ((first
            | (go_at_call 13; refine (awake_true _ (HG.out.below KG.out)).mono ?_; rintro e q6 ⟨rfl, hb⟩; have KB6 := Lib.hid hb; have KT6 := Lib.hid (KT5.out.keep KN5.out hb); clear hb)
            | (have h9 := KT4.out; go_at_call 18; refine (HS3.out _).mono ?_; rintro e q5 ⟨rfl, hb⟩; have KB5 := Lib.hid hb; have KT5 := Lib.hid (KT4.out.keep KN4.out hb); have KN5 := Lib.hid (Nat.le_trans KN4.out hb.size); have KG := Lib.hid ((((((HBw.out.drew.trans (KB1.out.mono HBw.out.size)).trans (KB2.out.mono (Nat.le_trans HBw.out.size KB1.out.size))).trans (KB3.out.mono (Nat.le_trans (Nat.le_trans HBw.out.size KB1.out.size) KB2.out.size))).trans (KB4.out.mono (Nat.le_trans (Nat.le_trans (Nat.le_trans HBw.out.size KB1.out.size) KB2.out.size) KB3.out.size))).trans (hb.mono (Nat.le_trans (Nat.le_trans (Nat.le_trans (Nat.le_trans HBw.out.size KB1.out.size) KB2.out.size) KB3.out.size) KB4.out.size)))); clear hb h9)
            | (have h9 := KT3.out; go_at_call 19; refine (HS2.out _).mono ?_; rintro e q4 ⟨rfl, hb⟩; have KB4 := Lib.hid hb; have KT4 := Lib.hid (KT3.out.keep KN3.out hb); have KN4 := Lib.hid (Nat.le_trans KN3.out hb.size); clear hb h9)
            | (have h9 := KT2.out; go_at_call 18; refine (HS1.out _).mono ?_; rintro e q3 ⟨rfl, hb⟩; have KB3 := Lib.hid hb; have KT3 := Lib.hid (KT2.out.keep KN2.out hb); have KN3 := Lib.hid (Nat.le_trans KN2.out hb.size); clear hb h9)
            | (have h9 := KT1.out; go_at_call 17; refine (HRJ.out _ _ _ KZ1.out (fun j e => Nat.lt_of_lt_of_le e.2 KB1.out.size)).mono ?_; rintro e q2 ⟨rfl, hb⟩; have KB2 := Lib.hid hb; have KT2 := Lib.hid (KT1.out.keep KN1.out hb); have KN2 := Lib.hid (Nat.le_trans KN1.out hb.size); clear hb h9)
            | (go_at_call 16; refine (HJ.out _ _ _ HZd.out (fun j e => e.2)).mono ?_; rintro e q1 ⟨rfl, hb⟩; have KB1 := Lib.hid hb; have KN1 := Lib.hid (show w.heap.size + 2 ≤ q1.heap.size from Nat.le_trans HN0.out hb.size); have KT1 := Lib.hid (HT0.out.keep HN0.out hb); have KZ1 := Lib.hid (HZd.out.keep hb.size (S' := fun j => W0.heap.size ≤ j ∧ j < wr.heap.size) (fun j e _ => ⟨e, hb.block j e.2⟩)); clear hb)))
      all_goals
        go_wp2_with fail
      all_goals
        go_ret
        exact ⟨rfl, KG.out.trans (KB6.out.mono KG.out.size)⟩
end Go.Proofs.YtiokdlomfmkkoaaDoor
