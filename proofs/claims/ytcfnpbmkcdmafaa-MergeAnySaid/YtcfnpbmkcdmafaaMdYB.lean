/-
  The document's Compare at wide tuples; Same at equal counted tuples.
-/
import Derived.Test.YtcfnpbmkcdmafaaMcTX
import Derived.Shelf.SlSortCmp.QuietGrown
import Derived.BigQuiet
import Derived.IntWalk
import Derived.Laws.MakeOwn
import Derived.Laws.OwnMore
import Derived.Deep.RegionHeld3
namespace Go.Proofs.Ytcfnpbmkcdmafaa
section
open Go Go.RowKit

set_option maxHeartbeats 400000 in
theorem ref_compare_grown (k n : Int) (s : ByteArray) (k' n' : Int) (s' : ByteArray) (w : World) :
    Calls Try.prog 63 #[.agg #[.int .i64 k, .int .i64 n, .string s], .agg #[.int .i64 k', .int .i64 n', .string s']] w fun e w' => e = .returned (.int .i64 (cmpV k n s k' n' s')) ∧ Grown w w' := by
  go_enter Try.func63, Try.ntmps63
  go_wp2
  all_goals
    go_ret
    refine ⟨ret_int ?_, ((Grown.refl _).alloc _).alloc _⟩
    first
    | exact way1 (by first | assumption | rfl) (by first | assumption | rfl) (by assumption)
    | exact way2 (by first | assumption | rfl) (by first | assumption | rfl) (by assumption)
    | exact way3 (by first | assumption | rfl) (by first | assumption | rfl) (by assumption) (by assumption)
    | exact way4 (by first | assumption | rfl) (by assumption) (by assumption)
    | exact way5 (by first | assumption | rfl) (by assumption)
    | exact way6 (by assumption) (by assumption)
    | exact way7 (by assumption)
theorem TupS.some {S : Nat → Prop} {w : World} {v : Value} {T : List V3} (h : TupS S w v T) {k : Nat} (hk : k < T.length) : ∃ b off cap, v = .slice (some ⟨b, off, none⟩) T.length cap ∧ S b ∧ CellsAt w b off T := by
  obtain ⟨p, cap, rfl, -, h | ⟨b, off, rfl, hb, hc⟩⟩ := h
  · subst h
    simp at hk
  · exact ⟨b, off, cap, rfl, hb, hc⟩
set_option maxHeartbeats 2000000 in
set_option maxRecDepth 100000 in
theorem rcompareS_any (v1 v2 : Value) (T1 T2 : List V3) (w : World) (h1 : TupS (fun k => k < w.heap.size) w v1 T1) (h2 : TupS (fun k => k < w.heap.size) w v2 T2) :
    Calls Try.prog 43 #[v1, v2] w fun e w' => e = .returned (.int .i64 (cmpT T1 T2)) ∧ Grown w w' := by
  have H1 := Lib.hid h1
  have H2 := Lib.hid h2
  obtain ⟨p1, c1, rfl, l1, q1⟩ := h1
  obtain ⟨p2, c2, rfl, l2, q2⟩ := h2
  clear q1 q2
  have mixed : Try.prog.follows .mixedOrders = true := by kernel_rfl
  go_enter Try.func43, Try.ntmps43
  go_wp2_with fail
  go_loopw [5] (fun i wr => ∃ k : Nat, k ≤ T1.length ∧ k ≤ T2.length ∧ i = .int .i64 k ∧ Hid (cmpT T1 T2 = cmpT (T1.drop k) (T2.drop k)) ∧ Hid (Grown w wr)) (fun i _ => T1.length - (intOf i).toNat)
  case atStart => exact ⟨0, Nat.zero_le _, Nat.zero_le _, rfl, Lib.hid rfl, Lib.hid (Grown.refl _)⟩
  case round =>
    obtain ⟨k, hk, hk2, rfl, hrest, hg⟩ := hrel
    have h0 : (0 : Int) ≤ (k : Int) := by omega
    by_cases hlt : k < T1.length
    · have hlt' : (k : Int) < (T1.length : Int) := by omega
      by_cases hlt2 : k < T2.length
      · have hlt2' : (k : Int) < (T2.length : Int) := by omega
        obtain ⟨b1, o1, cc1, hv1, hb1, hc1⟩ := H1.out.some hlt
        obtain ⟨b2, o2, cc2, hv2, hb2, hc2⟩ := H2.out.some hlt2
        injection hv1 with hp1 _ hcap1
        injection hv2 with hp2 _ hcap2
        subst hp1 hcap1 hp2 hcap2
        have hsz := hg.out.size
        have cell1 : ∀ n os, (Sort.grow (wr.drewN n) os).cell? ⟨b1, o1 + k * 3, none⟩ = some (.int .i64 T1[k].k) ∧ (Sort.grow (wr.drewN n) os).cell? ⟨b1, o1 + k * 3 + 1, none⟩ = some (.int .i64 T1[k].n) ∧ (Sort.grow (wr.drewN n) os).cell? ⟨b1, o1 + k * 3 + 2, none⟩ = some (.string T1[k].s) := fun n os => (hc1.below (hg.out.trans ⟨n, os, rfl⟩).below (by omega)) k hlt
        have cell2 : ∀ n os, (Sort.grow (wr.drewN n) os).cell? ⟨b2, o2 + k * 3, none⟩ = some (.int .i64 T2[k].k) ∧ (Sort.grow (wr.drewN n) os).cell? ⟨b2, o2 + k * 3 + 1, none⟩ = some (.int .i64 T2[k].n) ∧ (Sort.grow (wr.drewN n) os).cell? ⟨b2, o2 + k * 3 + 2, none⟩ = some (.string T2[k].s) := fun n os => (hc2.below (hg.out.trans ⟨n, os, rfl⟩).below (by omega)) k hlt2
        have x0 := fun n os => (cell1 n os).1
        have x1 := fun n os => (cell1 n os).2.1
        have x2 := fun n os => (cell1 n os).2.2
        have y0 := fun n os => (cell2 n os).1
        have y1 := fun n os => (cell2 n os).2.1
        have y2 := fun n os => (cell2 n os).2.2
        clear cell1 cell2 hc1 hc2
        obtain ⟨c, hc⟩ : ∃ c, c = cmp3 T1[k] T2[k] := ⟨_, rfl⟩
        have HC : Hid (∀ n os, Calls Try.prog 63 #[.agg #[.int .i64 T1[k].k, .int .i64 T1[k].n, .string T1[k].s], .agg #[.int .i64 T2[k].k, .int .i64 T2[k].n, .string T2[k].s]] (Sort.grow (wr.drewN n) os) fun e w' => e = .returned (.int .i64 c) ∧ ∃ q os', w' = Sort.grow ((Sort.grow (wr.drewN n) os).drewN q) os') := Lib.hid (by rw [hc]; exact fun n os => ref_compare_grown _ _ _ _ _ _ _)
        have HR := Lib.hid (cmpT_drop_lt hlt hlt2)
        rw [← hc] at HR
        clear hc
        cases h0c : (c != 0) with
        | true =>
          have hc0 : c ≠ 0 := by simpa using h0c
          rw [if_neg hc0] at HR
          go_wp2_with fail
          go_quiet_grown ((go_at_call 63; exact Calls.grown_of (HC.out _ _)))
          go_wp2
          go_ret
          exact ⟨ret_int (hrest.out.trans HR.out).symm, hg.out.trans ⟨nq, osq, rfl⟩⟩
        | false =>
          have hc0 : c = 0 := by simpa using h0c
          rw [if_pos hc0] at HR
          have HN := Lib.hid (hrest.out.trans HR.out)
          clear hc0
          go_wp2_with fail
          go_quiet_grown ((go_at_call 63; exact Calls.grown_of (HC.out _ _)))
          go_wp2
          go_roundw
          case rel => exact ⟨k + 1, by omega, by omega, by go_num, HN, Lib.hid (hg.out.trans ⟨nq, osq, rfl⟩)⟩
          case measure => simp [intOf]; omega
      · obtain rfl : k = T2.length := by omega
        have hge : (T2.length : Int) ≤ (T2.length : Int) := by omega
        have HR := Lib.hid (hrest.out.trans (cmpT_drop_over hlt (Nat.le_refl _)))
        go_wp2_with fail
        go_ret
        exact ⟨ret_int HR.out.symm, hg.out⟩
    · obtain rfl : k = T1.length := by omega
      have HR := Lib.hid (hrest.out.trans (cmpT_drop_end (b := T2) rfl))
      by_cases hlen : T1.length < T2.length
      · have hlen' : (T1.length : Int) < (T2.length : Int) := by omega
        rw [if_pos hlen] at HR
        go_wp2_with fail
        go_ret
        exact ⟨ret_int HR.out.symm, hg.out⟩
      · have hlen' : (T2.length : Int) ≤ (T1.length : Int) := by omega
        have hlen2 : (T1.length : Int) ≤ (T2.length : Int) := by omega
        rw [if_neg hlen] at HR
        go_wp2_with fail
        go_ret
        exact ⟨ret_int HR.out.symm, hg.out⟩
end
section
open Go Go.RowKit

set_option maxHeartbeats 2000000 in
set_option maxRecDepth 100000 in
theorem rsame_like {S1 S2 : Nat → Prop} (v1 v2 : Value) (H1 H2 : List Raw) (L : List Ct) (w : World) (h1 : RawIn S1 w v1 H1) (h2 : RawIn S2 w v2 H2) (hLl : L.length ≤ 1000000) (k1 : LikeC (fun _ => True) w H1 L) (k2 : LikeC (fun _ => True) w H2 L) :
    Calls Try.prog 39 #[v1, v2] w fun e w' => e = .returned (.bool true) ∧ Grown w w' := by
  obtain ⟨p1, cap1, rfl, l1, m1, d1⟩ := h1
  obtain ⟨p2, cap2, rfl, l2, m2, d2⟩ := h2
  have el1 : H1.length = L.length := k1.1
  have el2 : H2.length = L.length := k2.1
  have HK := Lib.hid (And.intro k1.2 k2.2)
  have HD := Lib.hid (And.intro d1 d2)
  have HL := Lib.hid (And.intro el1 el2)
  rw [el1, el2]
  clear d1 d2 k1 k2 el1 el2 l1 l2 m1 m2
  have mixed : Try.prog.follows .mixedOrders = true := by kernel_rfl
  go_enter Try.func39, Try.ntmps39
  go_wp2_with fail
  go_loopw [5] (fun i wr => ∃ k : Nat, k ≤ L.length ∧ i = .int .i64 k ∧ Hid (Grown w wr)) (fun i _ => L.length - (intOf i).toNat)
  case atStart => exact ⟨0, Nat.zero_le _, rfl, Lib.hid (Grown.refl _)⟩
  case round =>
    obtain ⟨k, hk, rfl, hg⟩ := hrel
    have h0 : (0 : Int) ≤ (k : Int) := by omega
    by_cases hlt : k < L.length
    · have hlt' : (k : Int) < (L.length : Int) := by omega
      have hlt1 : k < H1.length := by have := HL.out.1; omega
      have hlt2 : k < H2.length := by have := HL.out.2; omega
      obtain ⟨b1, o1, hp1, hb1, hc1⟩ : ∃ b off, p1 = some ⟨b, off, none⟩ ∧ b < w.heap.size ∧ (w.cell? ⟨b, off + k * 2, none⟩ = some (rawS H1[k]) ∧ w.cell? ⟨b, off + k * 2 + 1, none⟩ = some (.int .i64 H1[k].2)) := by
        rcases HD.out.1 with h | ⟨b, off, e, -, hl, h⟩
        · rw [h] at hlt1; simp at hlt1
        · exact ⟨b, off, e, hl, h k hlt1⟩
      obtain ⟨b2, o2, hp2, hb2, hc2⟩ : ∃ b off, p2 = some ⟨b, off, none⟩ ∧ b < w.heap.size ∧ (w.cell? ⟨b, off + k * 2, none⟩ = some (rawS H2[k]) ∧ w.cell? ⟨b, off + k * 2 + 1, none⟩ = some (.int .i64 H2[k].2)) := by
        rcases HD.out.2 with h | ⟨b, off, e, -, hl, h⟩
        · rw [h] at hlt2; simp at hlt2
        · exact ⟨b, off, e, hl, h k hlt2⟩
      subst hp1 hp2
      have hsz := hg.out.size
      have hT1 := HK.out.1 k hlt1 hlt
      have hT2 := HK.out.2 k hlt2 hlt
      obtain ⟨⟨⟨xp, xl, xc⟩, xn⟩, hx⟩ : ∃ q : Raw, q = H1[k] := ⟨_, rfl⟩
      obtain ⟨⟨⟨yp, yl, yc⟩, yn⟩, hy⟩ : ∃ q : Raw, q = H2[k] := ⟨_, rfl⟩
      obtain ⟨⟨T, n⟩, hT⟩ : ∃ q : Ct, q = L[k] := ⟨_, rfl⟩
      rw [← hx] at hc1 hT1
      rw [← hy] at hc2 hT2
      rw [← hT] at hT1 hT2
      obtain ⟨e1, t1⟩ := hT1
      obtain ⟨e2, t2⟩ := hT2
      have e1' : xn = n := e1
      have e2' : yn = n := e2
      subst e1' e2'
      obtain ⟨u1, u2⟩ := hc1
      obtain ⟨u3, u4⟩ := hc2
      have hbel : ∀ n os, Below w.heap.size w (Sort.grow (wr.drewN n) os) := fun n os => (hg.out.trans ⟨n, os, rfl⟩).below
      have x0 : ∀ n os, (Sort.grow (wr.drewN n) os).cell? ⟨b1, o1 + k * 2, none⟩ = some (.slice xp xl xc) := fun n os => ((hbel n os).cell (p := ⟨b1, _, none⟩) hb1).trans u1
      have x1 : ∀ n os, (Sort.grow (wr.drewN n) os).cell? ⟨b1, o1 + k * 2 + 1, none⟩ = some (.int .i64 yn) := fun n os => ((hbel n os).cell (p := ⟨b1, _, none⟩) hb1).trans u2
      have y0 : ∀ n os, (Sort.grow (wr.drewN n) os).cell? ⟨b2, o2 + k * 2, none⟩ = some (.slice yp yl yc) := fun n os => ((hbel n os).cell (p := ⟨b2, _, none⟩) hb2).trans u3
      have y1 : ∀ n os, (Sort.grow (wr.drewN n) os).cell? ⟨b2, o2 + k * 2 + 1, none⟩ = some (.int .i64 yn) := fun n os => ((hbel n os).cell (p := ⟨b2, _, none⟩) hb2).trans u4
      have up : ∀ {v : Value}, TupS (fun _ => True) w v T → ∀ n os, TupS (fun k => k < (Sort.grow (wr.drewN n) os).heap.size) (Sort.grow (wr.drewN n) os) v T := fun ht n os => ht.inside.same (fun k hk => Nat.lt_of_lt_of_le hk.2 (hbel n os).size) (fun b o hb => (hbel n os).cell (p := ⟨b, o, none⟩) hb.2)
      have HC : Hid (∀ n os, Calls Try.prog 43 #[.slice xp xl xc, .slice yp yl yc] (Sort.grow (wr.drewN n) os) fun e w' => e = .returned (.int .i64 0) ∧ ∃ q os', w' = Sort.grow ((Sort.grow (wr.drewN n) os).drewN q) os') := Lib.hid (fun n os => by
        have := rcompareS_any _ _ T T _ (up t1 n os) (up t2 n os)
        rw [cmpT_self] at this
        exact this)
      clear u1 u2 u3 u4 t1 t2 hx hy hT hbel up hlt1 hlt2 e1 e2
      go_wp2_with fail
      go_quiet_grown ((go_at_call 43; exact Calls.grown_of (HC.out _ _)))
      go_wp2
      go_roundw
      case rel => exact ⟨k + 1, by omega, by go_num, Lib.hid (hg.out.trans ⟨nq, osq, rfl⟩)⟩
      case measure => simp [intOf]; omega
    · obtain rfl : k = L.length := by omega
      go_wp2_with fail
      go_ret
      exact ⟨rfl, hg.out⟩
end
section
open Go Go.RowKit Go.Shelf

/-- What is left of rows behind their heads. -/
def leftsC (LL : List (List Ct)) (H : List Nat) : List (List Ct) := List.zipWith (fun L h => L.drop h) LL H
theorem leftsC_len {LL : List (List Ct)} {H : List Nat} (h : H.length = LL.length) : (leftsC LL H).length = LL.length := by unfold leftsC; rw [List.length_zipWith]; omega
theorem leftsC_at {LL : List (List Ct)} {H : List Nat} {n : Nat} (hn : n < LL.length) (hn' : n < H.length) : (leftsC LL H)[n]? = some (LL[n].drop H[n]) := by
  unfold leftsC
  rw [List.getElem?_zipWith, List.getElem?_eq_getElem hn, List.getElem?_eq_getElem hn']
theorem leftsC_zero (LL : List (List Ct)) : leftsC LL (List.replicate LL.length 0) = LL := by
  induction LL with
  | nil => rfl
  | cons L r ih =>
    unfold leftsC at ih ⊢
    rw [List.length_cons, List.replicate_succ, List.zipWith_cons_cons, ih, List.drop_zero]
theorem leftsC_set : ∀ {LL : List (List Ct)} {H : List Nat} (m : Nat) (_ : H.length = LL.length) (hm : m < H.length), leftsC LL (H.set m (H[m] + 1)) = (leftsC LL H).set m ((leftsC LL H).getD m []).tail
  | [], H, m, h, hm => by rw [List.length_nil] at h; omega
  | L :: LL, [], m, h, hm => by simp at hm
  | L :: LL, a :: H, 0, h, hm => by
    unfold leftsC
    simp [List.getD]
  | L :: LL, a :: H, m + 1, h, hm => by
    have ih := leftsC_set (LL := LL) (H := H) m (by simpa using h) (by simpa using hm)
    unfold leftsC at ih ⊢
    simp only [List.set_cons_succ, List.getElem_cons_succ, List.zipWith_cons_cons, ih]
    simp [List.getD]
theorem len_le_totC : ∀ (LL : List (List Ct)) (m : Nat) (hm : m < LL.length), LL[m].length ≤ totC LL
  | [], m, hm => by simp at hm
  | L :: r, 0, _ => by simp [totC]
  | L :: r, m + 1, hm => by
    have := len_le_totC r m (by simpa using hm)
    simp only [totC, List.getElem_cons_succ, List.map_cons, List.sum_cons] at this ⊢
    omega
theorem totC_le : ∀ (LL : List (List Ct)) (m : Nat), (∀ L ∈ LL, L.length ≤ m) → totC LL ≤ LL.length * m
  | [], m, _ => by simp [totC]
  | L :: r, m, h => by
    have h1 := totC_le r m (fun M e => h M (List.mem_cons_of_mem _ e))
    have h2 := h L (List.mem_cons_self ..)
    simp only [totC, List.map_cons, List.sum_cons, List.length_cons] at h1 ⊢
    rw [Nat.add_mul]; omega
/-- The index that Merge keeps. -/
def bestIC : Option (Nat × Ct) → Int
  | none => -1
  | some (m, _) => m
theorem totC_lefts_le : ∀ (LL : List (List Ct)) (H : List Nat), totC (leftsC LL H) ≤ totC LL
  | [], H => by cases H <;> simp [leftsC, totC]
  | L :: LL, [] => by simp [leftsC, totC]
  | L :: LL, a :: H => by
    have := totC_lefts_le LL H
    unfold leftsC at this ⊢
    simp only [totC, List.zipWith_cons_cons, List.map_cons, List.sum_cons, List.length_drop] at this ⊢
    omega
theorem mergeLC_len (Ls : List (List Ct)) : (mergeLC Ls).length = totC Ls := by
  have : ∀ n (Ls : List (List Ct)), totC Ls = n → (mergeLC Ls).length = n := by
    intro n
    induction n with
    | zero =>
      intro Ls h
      rcases hb : bestC Ls Ls.length with _ | ⟨m, y⟩
      · rw [mergeLC_none hb]; rfl
      · obtain ⟨r, hr, -⟩ := mergeLC_some hb
        have := totC_set hr
        omega
    | succ n ih =>
      intro Ls h
      rcases hb : bestC Ls Ls.length with _ | ⟨m, y⟩
      · exfalso
        have hall : ∀ k, k ≤ Ls.length → bestC Ls k = none → ∀ i, i < k → ∃ hi : i < Ls.length, Ls[i] = [] := by
          intro k
          induction k with
          | zero => intro _ _ i hi; omega
          | succ k ih2 =>
            intro hk hb i hi
            have hkl : k < Ls.length := by omega
            unfold bestC at hb
            rw [List.getElem?_eq_getElem hkl] at hb
            rcases hl : Ls[k] with _ | ⟨x, r⟩
            · rw [hl] at hb
              by_cases e : i = k
              · subst e; exact ⟨hkl, hl⟩
              · exact ih2 (by omega) hb i (by omega)
            · rw [hl] at hb
              simp only at hb
              split at hb
              · cases hb
              · split at hb <;> cases hb
        have hz : ∀ (Ms : List (List Ct)), (∀ i (hi : i < Ms.length), Ms[i] = []) → totC Ms = 0 := by
          intro Ms
          induction Ms with
          | nil => intro _; rfl
          | cons M r ih3 =>
            intro hM
            have h0 := hM 0 (by simp)
            simp at h0
            have := ih3 (fun i hi => by have := hM (i + 1) (by simpa using hi); simpa using this)
            simp only [totC, List.map_cons, List.sum_cons] at this ⊢
            rw [h0, this]; rfl
        have := hz Ls (fun i hi => (hall Ls.length (Nat.le_refl _) hb i hi).2)
        omega
      · obtain ⟨r, hr, e⟩ := mergeLC_some hb
        have := totC_set hr
        rw [e, List.length_cons, ih _ (by omega)]
  exact this _ Ls rfl
theorem leftsC_hd {LL : List (List Ct)} {H : List Nat} (h : H.length = LL.length) {k m : Nat} {y : Ct} (hb : bestC (leftsC LL H) k = some (m, y)) : ∃ (h1 : m < LL.length) (h2 : m < H.length) (h3 : H[m] < LL[m].length), m < k ∧ y = LL[m][H[m]] := by
  obtain ⟨hmk, r, hr⟩ := bestC_some hb
  have h1 : m < LL.length := by
    have := (List.getElem?_eq_some_iff.1 hr).1
    rwa [leftsC_len h] at this
  have h2 : m < H.length := by omega
  rw [leftsC_at (LL := LL) h1 h2] at hr
  injection hr with hr
  have h3 : H[m] < LL[m].length := by
    have e := congrArg List.length hr
    simp at e; omega
  rw [List.drop_eq_getElem_cons h3] at hr
  injection hr with e1 e2
  exact ⟨h1, h2, h3, hmk, e1.symm⟩
/-- The document's Sum at what comes in order: what has come, the last one where it is not ended. -/
def docS : List Ct → Option Ct → List Ct → List Ct
  | P, none, [] => P
  | P, some x, [] => if x.2 = 0 then P else P ++ [x]
  | P, none, c :: M => docS P (some c) M
  | P, some x, c :: M => if cmpT x.1 c.1 = 0 then docS P (some (x.1, wrap64 (x.2 + c.2))) M else docS (if x.2 = 0 then P else P ++ [x]) (some c) M
theorem cmpT_swap0 (a b : List V3) : cmpT a b = 0 ↔ cmpT b a = 0 := by rw [cmpT_neg a b]; omega
theorem docS_some : ∀ (M P : List Ct) (x : Ct), docS P (some x) M = P ++ ((sumHead x M).1 :: sumL (sumHead x M).2).filter pN0
  | [], P, x => by
    simp only [docS, sumHead]
    by_cases h : x.2 = 0
    · rw [if_pos h]; simp [sumL, sumF, pN0, h]
    · rw [if_neg h]
      have hp : pN0 x = true := by unfold pN0; simpa using h
      simp [sumL, sumF, hp]
  | c :: M, P, x => by
    simp only [docS, sumHead]
    by_cases h : cmpT x.1 c.1 = 0
    · rw [if_pos h, if_pos ((cmpT_swap0 _ _).1 h)]
      exact docS_some M P _
    · rw [if_neg h, if_neg (fun e => h ((cmpT_swap0 _ _).2 e)), docS_some M _ c, sumL_cons]
      by_cases h0 : x.2 = 0
      · rw [if_pos h0]; simp [pN0, h0]
      · rw [if_neg h0]
        have hp : pN0 x = true := by unfold pN0; simpa using h0
        rw [List.filter_cons (x := x), if_pos hp, List.append_assoc, List.singleton_append]
/-- The document's Sum tells what merge.Sum tells. -/
theorem docS_none (M : List Ct) : docS [] none M = (sumL M).filter pN0 := by
  cases M with
  | nil => rfl
  | cons c M => rw [docS, docS_some, sumL_cons, List.nil_append]
/-- The best one goes: what is merged, and the measure. -/
theorem leftsC_next {LL : List (List Ct)} {H : List Nat} {m : Nat} {y : Ct} (h : H.length = LL.length) (hm : m < H.length) (hb : bestC (leftsC LL H) LL.length = some (m, y)) :
    mergeLC (leftsC LL H) = y :: mergeLC (leftsC LL (H.set m (H[m] + 1))) ∧ totC (leftsC LL (H.set m (H[m] + 1))) + 1 = totC (leftsC LL H) := by
  obtain ⟨r, hr, he⟩ := mergeLC_some (Ls := leftsC LL H) (by rw [leftsC_len h]; exact hb)
  have hs : leftsC LL (H.set m (H[m] + 1)) = (leftsC LL H).set m r := by
    rw [leftsC_set m h hm]
    simp [List.getD, hr]
  exact ⟨by rw [he, hs], by rw [hs]; exact totC_set hr⟩
end
section
open Go Go.RowKit Go.Shelf

/-- The heads in memory. -/
def headsA (H : List Nat) : Array Value := (H.map fun n : Nat => Value.int .i64 (n : Int)).toArray
theorem heads_at {w : World} {b : Nat} {H : List Nat} (h : w.heap[b]? = some (.cells (headsA H) 3 (0, 0))) {n : Nat} (hn : n < H.length) : w.cell? ⟨b, n, none⟩ = some (.int .i64 (H[n] : Int)) := by
  rw [cell_of_row _ _ n _ _ (0, 0) h]
  unfold headsA
  simp [hn]
theorem heads_set (H : List Nat) (m k : Nat) : (headsA H).setIfInBounds m (.int .i64 (k : Int)) = headsA (H.set m k) := by
  unfold headsA
  simp [List.map_set]
theorem infoInt : (Try.prog.info? 3).map (fun i => (i.zero, i.size, i.bytes)) = some (some (.int .i64 0), 1, 8) := by kernel_rfl
theorem make_ints (n : Nat) (hn : n ≤ 1000000) (w : World) : (Instr.makeSlice 52 (.int .i64 (n : Int)) (.int .i64 (n : Int))).run Try.prog w = .ok (.slice (some ⟨w.heap.size, 0, none⟩) n n) (w.alloc (.cells (headsA (List.replicate n 0)) 3)) := by
  obtain ⟨i, hi, hz, hs, hb⟩ := info_parts infoInt
  have h := run_make (P := Try.prog) w 52 3 i _ Try.underlying52 hi hz .i64 .i64 n n (by omega) (Int.le_refl _) (by rw [hb]; omega) (by omega)
  rw [Int.toNat_natCast, hs, Nat.mul_one] at h
  rw [h]
  have e : madeCells (Value.int .i64 0).cells n = headsA (List.replicate n 0) := by
    unfold headsA
    rw [List.map_replicate]
    exact Array.toList_inj.1 ((toList_madeCells_one _ n).trans rfl)
  rw [e]
theorem RawIn.row {S : Nat → Prop} {w : World} {p : Option Addr} {n c : Nat} {H : List Raw} (h : RawIn S w (.slice p n c) H) (hs : H ≠ []) : ∃ b off, p = some ⟨b, off, none⟩ ∧ b < w.heap.size ∧ ∀ j (h : j < H.length), w.cell? ⟨b, off + j * 2, none⟩ = some (rawS H[j]) ∧ w.cell? ⟨b, off + j * 2 + 1, none⟩ = some (.int .i64 H[j].2) := by
  obtain ⟨p', c', e, -, -, h⟩ := h
  injection e with e1 e2 e3
  subst e1
  rcases h with h | ⟨b, off, rfl, -, hl, h⟩
  · exact absurd h hs
  · exact ⟨b, off, rfl, hl, h⟩
/-- An entry of a row. -/
theorem CtIn.at_ {S : Nat → Prop} {w : World} {p : Option Addr} {n c : Nat} {L : List Ct} (h : CtIn S w (.slice p n c) L) {a : Nat} (ha : a < L.length) : ∃ (b off : Nat) (x : Raw), p = some ⟨b, off, none⟩ ∧ b < w.heap.size ∧ w.cell? ⟨b, off + a * 2, none⟩ = some (rawS x) ∧ w.cell? ⟨b, off + a * 2 + 1, none⟩ = some (.int .i64 x.2) ∧ x.2 = L[a].2 ∧ TupS S w (rawS x) L[a].1 := by
  obtain ⟨H, h1, h2, h3⟩ := h
  have haH : a < H.length := by omega
  obtain ⟨b, off, rfl, hb, hc⟩ := h1.row (by rintro rfl; simp at haH)
  exact ⟨b, off, H[a], rfl, hb, (hc a haH).1, (hc a haH).2, (h3 a haH ha).1, (h3 a haH ha).2⟩
def SixS (b off n m hb a a2 b1 o1 b2 o2 : Nat) (pu : Option Addr) (nL cu : Nat) (pm : Option Addr) (nM cm : Nat) (x y : Option Addr × Nat × Nat) (X : World) : Prop :=
  X.cell? ⟨b, off + n, none⟩ = some (.slice pu nL cu) ∧ X.cell? ⟨b, off + m, none⟩ = some (.slice pm nM cm) ∧ X.cell? ⟨hb, n, none⟩ = some (.int .i64 (a : Int)) ∧ X.cell? ⟨hb, m, none⟩ = some (.int .i64 (a2 : Int)) ∧
  X.cell? ⟨b1, o1 + a * 2, none⟩ = some (.slice x.1 x.2.1 x.2.2) ∧ X.cell? ⟨b2, o2 + a2 * 2, none⟩ = some (.slice y.1 y.2.1 y.2.2)
theorem SixS.below {b off n m hb a a2 b1 o1 b2 o2 : Nat} {pu : Option Addr} {nL cu : Nat} {pm : Option Addr} {nM cm : Nat} {x y : Option Addr × Nat × Nat} {W W' : World} (hbl : Below W.heap.size W W') (h : SixS b off n m hb a a2 b1 o1 b2 o2 pu nL cu pm nM cm x y W) : SixS b off n m hb a a2 b1 o1 b2 o2 pu nL cu pm nM cm x y W' := by
  obtain ⟨h1, h2, h3, h4, h5, h6⟩ := h
  have g : ∀ {b o v}, W.cell? ⟨b, o, none⟩ = some v → W'.cell? ⟨b, o, none⟩ = some v := fun {b o v} e => (hbl.cell (p := ⟨b, o, none⟩) (World.block_lt_of_cell? W _ e)).trans e
  exact ⟨g h1, g h2, g h3, g h4, g h5, g h6⟩
/-- What the loops of the document's Sum keep. -/
def RmS (LL : List (List Ct)) (w : World) (H : List Nat) (P : List Ct) (ox : Option Ct) (v : Value) (W : World) : Prop :=
  H.length = LL.length ∧ docS [] none (mergeLC LL) = docS P ox (mergeLC (leftsC LL H)) ∧ (∃ HR, OwnRw (w.heap.size + 1) W v HR ∧ LikeC (fun k => k < w.heap.size) W HR (P ++ ox.toList)) ∧ W.heap[w.heap.size]? = some (.cells (headsA H) 3 (0, 0)) ∧ Below w.heap.size w W
/-- What the document's Sum leaves. -/
def RsumEnd (LL : List (List Ct)) (w : World) (e : Ending) (w' : World) : Prop := ∃ v' HR, e = .returned v' ∧ OwnRw w.heap.size w' v' HR ∧ LikeC (fun k => k < w.heap.size) w' HR (sumsL LL) ∧ Below w.heap.size w w'
theorem RmS.below {LL : List (List Ct)} {w : World} {H : List Nat} {P : List Ct} {ox : Option Ct} {v : Value} {W W' : World} (h : RmS LL w H P ox v W) (hb : Below W.heap.size W W') : RmS LL w H P ox v W' := by
  obtain ⟨h1, h2, ⟨HR, h3, h3'⟩, h4, h5⟩ := h
  exact ⟨h1, h2, ⟨HR, h3.keep fun k e => hb.block k (h3.lt k e).2, h3'.keep (fun _ e _ => e) (fun k _ hk => hb.block k hk)⟩, (hb.block _ (Array.getElem?_eq_some_iff.1 h4).1).trans h4, h5.trans (hb.mono h5.size)⟩
theorem World.ownsRow.mono {w : World} {B B' sz n : Nat} {t : TypeId} {v : Value} {us : List Value} (h : w.ownsRow B t sz v n us) (hB : B' ≤ B) : w.ownsRow B' t sz v n us := by
  refine ⟨h.1, ?_⟩
  rcases h.2 with hn | ⟨g, cap, cur, rfl, hb, rest⟩
  · exact .inl hn
  · exact .inr ⟨g, cap, cur, rfl, by omega, rest⟩
theorem OwnRw.cut {B : Nat} {W : World} {g cap n : Nat} {HP : List Raw} {r : Raw} (h : OwnRw B W (.slice (some ⟨g, 0, none⟩) (n + 1) cap) (HP ++ [r])) (hn : HP.length = n) : OwnRw B W (.slice (some ⟨g, 0, none⟩) n cap) HP := by
  subst hn
  refine ⟨by rw [cellsRw_len], ?_⟩
  rcases h.2 with ⟨e, -⟩ | ⟨g', cap', cur, e, hB, hg, hnc, hcm, hcs, htk⟩
  · cases e
  · injection e with e1 e2 e3
    injection e1 with e1
    injection e1 with e1
    subst e1 e3
    refine .inr ⟨g, cap, cur, rfl, hB, hg, by simp at hnc; omega, hcm, hcs, ?_⟩
    have h2 := congrArg (List.take (HP.length * 2)) htk
    have h3 : (cellsRw (HP ++ [r])).take (HP.length * 2) = cellsRw HP := by
      rw [cellsRw_append, List.take_append_of_le_length (by rw [cellsRw_len]; exact Nat.le_refl _)]
      exact List.take_of_length_le (by rw [cellsRw_len]; exact Nat.le_refl _)
    have h4 : min (HP.length * 2) ((HP ++ [r]).length * 2) = HP.length * 2 := by rw [List.length_append]; omega
    rw [List.take_take, h3, h4] at h2
    exact h2
theorem RmS.form {LL : List (List Ct)} {w : World} {H : List Nat} {P : List Ct} {ox : Option Ct} {v : Value} {W : World} (h : RmS LL w H P ox v W) : ∃ p c, v = .slice p (P ++ ox.toList).length c := by
  obtain ⟨-, -, ⟨HR, h3, h4, -⟩, -⟩ := h
  rcases h3.2 with ⟨rfl, e⟩ | ⟨g, cap, cur, rfl, -⟩
  · exact ⟨none, 0, by rw [← h4, e]⟩
  · exact ⟨_, cap, by rw [h4]⟩
theorem LikeC.front {St : Nat → Prop} {w : World} {HP : List Raw} {r : Raw} {P : List Ct} {x : Ct} (h : LikeC St w (HP ++ [r]) (P ++ [x])) : LikeC St w HP P ∧ r.2 = x.2 ∧ TupS St w (rawS r) x.1 := by
  obtain ⟨h1, h2⟩ := h
  have hl : HP.length = P.length := by simpa using h1
  refine ⟨⟨hl, fun j a b => ?_⟩, ?_⟩
  · have := h2 j (by simp; omega) (by simp; omega)
    rwa [List.getElem_append_left a, List.getElem_append_left b] at this
  · have := h2 HP.length (by simp) (by simp; omega)
    rw [List.getElem_append_right (Nat.le_refl _), List.getElem_append_right (by omega)] at this
    simpa [hl] using this
theorem own_last {B : Nat} {St : Nat → Prop} {P : List Ct} {x : Ct} {v : Value} {W : World} {HR : List Raw} (h3 : OwnRw B W v HR) (h4 : LikeC St W HR (P ++ [x])) : ∃ (HP : List Raw) (r : Raw) (g cap : Nat), HR = HP ++ [r] ∧ v = .slice (some ⟨g, 0, none⟩) (P.length + 1) cap ∧ (P.length + 1 ≤ cap ∧ cap ≤ maxLen) ∧ LikeC St W HP P ∧ r.2 = x.2 ∧ TupS St W (rawS r) x.1 ∧
    W.cell? ⟨g, P.length * 2, none⟩ = some (rawS r) ∧ W.cell? ⟨g, P.length * 2 + 1, none⟩ = some (.int .i64 r.2) ∧ W.frozen? ⟨g, P.length * 2 + 1, none⟩ = false ∧ B ≤ g ∧ g < W.heap.size ∧ HP.length = P.length := by
  have hl : HR.length = P.length + 1 := by have := h4.1; simpa using this
  obtain ⟨HP, r, rfl⟩ : ∃ HP r, HR = HP ++ [r] := by
    have hne : HR ≠ [] := by rintro rfl; simp at hl
    exact ⟨HR.dropLast, HR.getLast hne, (List.dropLast_concat_getLast hne).symm⟩
  have hHP : HP.length = P.length := by simpa using hl
  obtain ⟨k1, k2, k3⟩ := LikeC.front h4
  rcases id h3.2 with ⟨-, e⟩ | ⟨g, cap, cur, rfl, hB, hg, hnc, hcm, hcs, htk⟩
  · simp at e
  · have hx := h3.in_ (fun _ => True) (fun _ _ => trivial)
    obtain ⟨p', c', e, -, -, hcell⟩ := hx
    injection e with e1 e2 e3
    subst e1
    rcases hcell with hcell | ⟨b, off, e, -, hb, hcell⟩
    · simp at hcell
    · injection e with e
      injection e with e0 e1
      subst e0 e1
      have hc := hcell P.length (by simp [hHP])
      simp only [Nat.zero_add, ← hHP, List.getElem_append_right (Nat.le_refl _), Nat.sub_self, List.getElem_cons_zero] at hc
      rw [hHP] at hc
      exact ⟨HP, r, g, cap, rfl, by rw [← hHP]; simp, ⟨by rw [← hHP]; simpa using hnc, hcm⟩, k1, k2, k3, hc.1, hc.2, frozen_of_row _ _ _ _ _ hg, hB, hb, hHP⟩
theorem RmS.last {LL : List (List Ct)} {w : World} {H : List Nat} {P : List Ct} {x : Ct} {v : Value} {W : World} (h : RmS LL w H P (some x) v W) : ∃ (HP : List Raw) (r : Raw) (g cap : Nat), v = .slice (some ⟨g, 0, none⟩) (P.length + 1) cap ∧ (P.length + 1 ≤ cap ∧ cap ≤ maxLen) ∧ OwnRw (w.heap.size + 1) W v (HP ++ [r]) ∧ LikeC (fun k => k < w.heap.size) W HP P ∧ r.2 = x.2 ∧ TupS (fun k => k < w.heap.size) W (rawS r) x.1 ∧
    W.cell? ⟨g, P.length * 2, none⟩ = some (rawS r) ∧ W.cell? ⟨g, P.length * 2 + 1, none⟩ = some (.int .i64 r.2) ∧ W.frozen? ⟨g, P.length * 2 + 1, none⟩ = false ∧ w.heap.size + 1 ≤ g ∧ g < W.heap.size ∧ HP.length = P.length := by
  obtain ⟨-, -, ⟨HR, h3, h4⟩, -, -⟩ := h
  obtain ⟨HP, r, g, cap, rfl, e1, e2, e4, e5, e6, e7, e8, e9, e10, e11, e12⟩ := own_last h3 (show LikeC _ W HR (P ++ [x]) from h4)
  exact ⟨HP, r, g, cap, e1, e2, h3, e4, e5, e6, e7, e8, e9, e10, e11, e12⟩
theorem sumF_len : ∀ (f : Nat) (L : List Ct), (sumF f L).length ≤ L.length
  | 0, _ => Nat.zero_le _
  | _ + 1, [] => Nat.le_refl _
  | f + 1, x :: r => by
    have h1 := sumF_len f (sumHead x r).2
    have h2 := sumHead_len x r
    simp only [sumF, List.length_cons]; omega
theorem sumsL_len (LL : List (List Ct)) : (sumsL LL).length ≤ totC LL := by
  unfold sumsL
  have h1 := List.length_filter_le pN0 (sumL (mergeLC LL))
  have h2 : (sumL (mergeLC LL)).length ≤ (mergeLC LL).length := sumF_len _ _
  have h3 := mergeLC_len LL
  omega
theorem docS_len : ∀ (P : List Ct) (ox : Option Ct) (M : List Ct), P.length ≤ (docS P ox M).length
  | P, none, [] => by simp [docS]
  | P, some x, M => by rw [docS_some]; simp
  | P, none, c :: M => by rw [docS, docS_some]; simp
theorem RmS.short {LL : List (List Ct)} {w : World} {H : List Nat} {P : List Ct} {ox : Option Ct} {v : Value} {W : World} (h : RmS LL w H P ox v W) : P.length ≤ totC LL := by
  have h2 := docS_len P ox (mergeLC (leftsC LL H))
  rw [← h.2.1, docS_none] at h2
  exact Nat.le_trans h2 (sumsL_len LL)
/-- Ahead of an append: Pn are what comes before it, HR lies in the row. -/
def RmA (LL : List (List Ct)) (w : World) (H : List Nat) (Pn : List Ct) (y : Ct) (HR : List Raw) (v : Value) (W : World) : Prop :=
  H.length = LL.length ∧ docS [] none (mergeLC LL) = docS Pn (some y) (mergeLC (leftsC LL H)) ∧ OwnRw (w.heap.size + 1) W v HR ∧ LikeC (fun k => k < w.heap.size) W HR Pn ∧ W.heap[w.heap.size]? = some (.cells (headsA H) 3 (0, 0)) ∧ Below w.heap.size w W
theorem RmA.put {LL : List (List Ct)} {w : World} {H : List Nat} {Pn : List Ct} {y : Ct} {HR : List Raw} {v v' : Value} {W W' : World} {r : Raw} {o : Obj} (h : RmA LL w H Pn y HR v W) (hr : r.2 = y.2) (ht : TupS (fun k => k < w.heap.size) W (rawS r) y.1) (ho : OwnRw (w.heap.size + 1) W' v' (HR ++ [r])) (hg : (W.alloc o).grownBy W' v.ownBlock) :
    RmS LL w H Pn (some y) v' W' := by
  obtain ⟨h1, h2, h3, h4, h5, h6⟩ := h
  have hb5 := (Array.getElem?_eq_some_iff.1 h5).1
  have hv : ∀ k, v.ownBlock = some k → w.heap.size + 1 ≤ k := fun k e => (h3.lt k e).1
  have off : ∀ k, k < W.heap.size → k ≤ w.heap.size → W'.heap[k]? = W.heap[k]? := fun k hk hn =>
    (hg.block k (by simp; omega) (fun e => by have := hv k e.symm; omega)).trans (Below.heap_alloc W o k hk)
  refine ⟨h1, h2, ⟨HR ++ [r], ho, (h4.keep (fun _ e _ => e) (fun k hk hk' => off k hk' (Nat.le_of_lt hk))).snoc hr (ht.keep (fun _ e _ => e) (fun k hk hk' => off k hk' (Nat.le_of_lt hk)))⟩, (off _ hb5 (Nat.le_refl _)).trans h5, ?_⟩
  exact (h6.alloc (Nat.le_of_lt hb5) o).grown hg (by simp; omega) (fun k e => by have := hv k e; omega)
/-- Behind the head that went. -/
def RmT (LL : List (List Ct)) (w : World) (H : List Nat) (P : List Ct) (ox : Option Ct) (y : Ct) (HR : List Raw) (v : Value) (W : World) : Prop :=
  H.length = LL.length ∧ docS [] none (mergeLC LL) = docS P ox (y :: mergeLC (leftsC LL H)) ∧ OwnRw (w.heap.size + 1) W v HR ∧ LikeC (fun k => k < w.heap.size) W HR (P ++ ox.toList) ∧ W.heap[w.heap.size]? = some (.cells (headsA H) 3 (0, 0)) ∧ Below w.heap.size w W
theorem RmT.below {LL : List (List Ct)} {w : World} {H : List Nat} {P : List Ct} {ox : Option Ct} {y : Ct} {HR : List Raw} {v : Value} {W W' : World} (h : RmT LL w H P ox y HR v W) (hb : Below W.heap.size W W') : RmT LL w H P ox y HR v W' := by
  obtain ⟨h1, h2, h3, h3', h4, h5⟩ := h
  exact ⟨h1, h2, h3.keep fun k e => hb.block k (h3.lt k e).2, h3'.keep (fun _ e _ => e) (fun k _ hk => hb.block k hk), (hb.block _ (Array.getElem?_eq_some_iff.1 h4).1).trans h4, h5.trans (hb.mono h5.size)⟩
theorem RmS.next {LL : List (List Ct)} {w : World} {H : List Nat} {P : List Ct} {ox : Option Ct} {y : Ct} {v : Value} {wr : World} {m a : Nat} (h : RmS LL w H P ox v wr) (hm : m < H.length) (ha : a = H[m]) (hb : bestC (leftsC LL H) LL.length = some (m, y)) :
    (∃ HR, RmT LL w (H.set m (a + 1)) P ox y HR v (wr.setCell ⟨w.heap.size, m, none⟩ (.int .i64 ((a : Int) + 1)))) ∧ totC (leftsC LL (H.set m (a + 1))) + 1 = totC (leftsC LL H) := by
  obtain ⟨h1, h2, ⟨HR, h3, h3'⟩, h4, h5⟩ := h
  subst ha
  obtain ⟨e1, e2⟩ := leftsC_next h1 hm hb
  refine ⟨⟨HR, by rw [List.length_set]; exact h1, by rw [h2, e1], ?_, ?_, ?_, ?_⟩, e2⟩
  · exact h3.keep (fun k e => Below.heap_setCell _ _ _ _ (by have := (h3.lt k e).1; show k ≠ w.heap.size; omega))
  · exact h3'.keep (fun _ e _ => e) (fun k e _ => Below.heap_setCell _ _ _ _ (by show k ≠ w.heap.size; omega))
  · rw [show ((H[m] : Int) + 1) = ((H[m] + 1 : Nat) : Int) by simp, Go.heap_setCell_same _ _ _ _ _ _ h4, heads_set]
  · exact h5.setCell (Nat.le_refl _) _
theorem new_cells (W : World) (h : Raw) : (W.alloc (.cells #[.slice h.1.1 h.1.2.1 h.1.2.2, .int .i64 h.2] 68)).cell? ⟨W.heap.size, 0, none⟩ = some (rawS h) ∧ (W.alloc (.cells #[.slice h.1.1 h.1.2.1 h.1.2.2, .int .i64 h.2] 68)).cell? ⟨W.heap.size, 1, none⟩ = some (.int .i64 h.2) := by
  constructor <;> (rw [cell_of_row _ W.heap.size _ _ _ (0, 0) (heap_alloc_new W _)]; rfl)
/-- Behind the head that went, which lies in a block of its own. -/
def NxC (LL : List (List Ct)) (w : World) (H : List Nat) (P : List Ct) (ox : Option Ct) (y : Ct) (r : Raw) (b : Nat) (HR : List Raw) (v : Value) (W : World) : Prop :=
  RmT LL w H P ox y HR v W ∧ (W.cell? ⟨b, 0, none⟩ = some (rawS r) ∧ W.cell? ⟨b, 1, none⟩ = some (.int .i64 r.2)) ∧ r.2 = y.2 ∧ TupS (fun k => k < w.heap.size) W (rawS r) y.1 ∧ b < W.heap.size
theorem NxC.below {LL : List (List Ct)} {w : World} {H : List Nat} {P : List Ct} {ox : Option Ct} {y : Ct} {r : Raw} {b : Nat} {HR : List Raw} {v : Value} {W W' : World} (h : NxC LL w H P ox y r b HR v W) (hb : Below W.heap.size W W') : NxC LL w H P ox y r b HR v W' := by
  obtain ⟨h1, ⟨h2, h2'⟩, h3, h4, h5⟩ := h
  have hw : w.heap.size < W.heap.size := (Array.getElem?_eq_some_iff.1 h1.2.2.2.2.1).1
  exact ⟨h1.below hb, ⟨(hb.cell (p := ⟨b, 0, none⟩) h5).trans h2, (hb.cell (p := ⟨b, 1, none⟩) h5).trans h2'⟩, h3, h4.keep (fun _ e _ => e) (fun k _ hk => hb.block k hk), Nat.lt_of_lt_of_le h5 hb.size⟩
theorem RmS.nextC {LL : List (List Ct)} {w : World} {H : List Nat} {P : List Ct} {ox : Option Ct} {y : Ct} {v : Value} {wr : World} {m a : Nat} {r : Raw} {S : Nat → Prop} (h : RmS LL w H P ox v wr) (hm : m < H.length) (ha : a = H[m]) (hb : bestC (leftsC LL H) LL.length = some (m, y)) (hr : r.2 = y.2 ∧ TupS (fun k => S k ∧ k < w.heap.size) wr (rawS r) y.1) :
    (∃ HR, NxC LL w (H.set m (a + 1)) P ox y r wr.heap.size HR v ((wr.setCell ⟨w.heap.size, m, none⟩ (.int .i64 ((a : Int) + 1))).alloc (.cells #[.slice r.1.1 r.1.2.1 r.1.2.2, .int .i64 r.2] 68))) ∧ totC (leftsC LL (H.set m (a + 1))) + 1 = totC (leftsC LL H) := by
  obtain ⟨⟨HR, h1⟩, h2⟩ := h.next hm ha hb
  have hsz : (wr.setCell ⟨w.heap.size, m, none⟩ (.int .i64 ((a : Int) + 1))).heap.size = wr.heap.size := by simp
  have hc := new_cells (wr.setCell ⟨w.heap.size, m, none⟩ (.int .i64 ((a : Int) + 1))) r
  rw [hsz] at hc
  have hw : w.heap.size < wr.heap.size := (Array.getElem?_eq_some_iff.1 h.2.2.2.1).1
  refine ⟨⟨HR, h1.below ((Below.refl _ _).alloc (Nat.le_refl _) _), hc, hr.1, hr.2.keep (fun _ e _ => e.2) (fun k e hk => ?_), by simp⟩, h2⟩
  exact (Below.heap_alloc _ _ _ (by rw [hsz]; exact hk)).trans (Below.heap_setCell _ _ _ _ (by show k ≠ w.heap.size; omega))
theorem RmT.first {LL : List (List Ct)} {w : World} {H : List Nat} {P : List Ct} {y : Ct} {HR : List Raw} {v : Value} {W : World} (h : RmT LL w H P none y HR v W) : RmA LL w H P y HR v W := by
  obtain ⟨h1, h2, h3, h3', h4, h5⟩ := h
  exact ⟨h1, h2, h3, by simpa using h3', h4, h5⟩
theorem OwnRw.mark {B : Nat} {w : World} {v : Value} {HP : List Raw} {r : Raw} {g cap n : Nat} (h : OwnRw B w v (HP ++ [r])) (hn : HP.length = n) (hv : v = .slice (some ⟨g, 0, none⟩) (n + 1) cap) (m : Int) : OwnRw B (w.setCell ⟨g, n * 2 + 1, none⟩ (.int .i64 m)) v (HP ++ [(r.1, m)]) := by
  subst hv hn
  have e2 : cellsRw (HP ++ [(r.1, m)]) = (cellsRw (HP ++ [r])).set (HP.length * 2 + 1) (.int .i64 m) := by
    rw [cellsRw_append, cellsRw_append, List.set_append_right _ _ (by rw [cellsRw_len]; omega), cellsRw_len]
    rw [show HP.length * 2 + 1 - HP.length * 2 = 1 by omega]
    rfl
  have el : (HP ++ [(r.1, m)]).length = (HP ++ [r]).length := by simp
  rcases h.2 with ⟨e, -⟩ | ⟨g', cap', cur, e, hB, hg, hnc, hcm, hcs, htk⟩
  · cases e
  · injection e with e e3 e4
    injection e with e
    injection e with e
    subst e e4
    unfold OwnRw
    refine ⟨by rw [cellsRw_len], .inr ⟨g, cap, cur.setIfInBounds (HP.length * 2 + 1) (.int .i64 m), by simp, hB, ?_, by rw [el]; exact hnc, hcm, by simpa using hcs, ?_⟩⟩
    · exact Go.heap_setCell_same _ _ _ _ _ _ hg
    · rw [el, Array.toList_setIfInBounds, List.take_set, htk, ← e2]
theorem RmT.like {LL : List (List Ct)} {w : World} {H : List Nat} {P : List Ct} {x y : Ct} {HP : List Raw} {r : Raw} {v : Value} {W : World} {g cap : Nat} (h : RmT LL w H P (some x) y (HP ++ [r]) v W) (hn : HP.length = P.length) (hv : v = .slice (some ⟨g, 0, none⟩) (P.length + 1) cap) (hz : cmpT x.1 y.1 = 0) :
    RmS LL w H P (some (x.1, wrap64 (x.2 + y.2))) v (W.setCell ⟨g, P.length * 2 + 1, none⟩ (.int .i64 (wrap64 (x.2 + y.2)))) := by
  obtain ⟨h1, h2, h3, h3', h4, h5⟩ := h
  have hg : w.heap.size + 1 ≤ g := (h3.lt g (by rw [hv]; rfl)).1
  obtain ⟨k1, -, k3⟩ := LikeC.front (show LikeC _ W (HP ++ [r]) (P ++ [x]) from h3')
  have off : ∀ k, k ≤ w.heap.size → (W.setCell ⟨g, P.length * 2 + 1, none⟩ (.int .i64 (wrap64 (x.2 + y.2)))).heap[k]? = W.heap[k]? := fun k hk => Below.heap_setCell _ _ _ _ (by show k ≠ g; omega)
  refine ⟨h1, by rw [h2, docS, if_pos hz], ⟨_, h3.mark hn hv _, ?_⟩, (off _ (Nat.le_refl _)).trans h4, h5.setCell (show w.heap.size ≤ g by omega) _⟩
  exact (k1.keep (fun _ e _ => e) (fun k e _ => off k (Nat.le_of_lt e))).snoc rfl (k3.keep (fun _ e _ => e) (fun k e _ => off k (Nat.le_of_lt e)))
theorem RmT.other {LL : List (List Ct)} {w : World} {H : List Nat} {P : List Ct} {x y : Ct} {HR : List Raw} {v : Value} {W : World} (h : RmT LL w H P (some x) y HR v W) (hz : ¬ cmpT x.1 y.1 = 0) (hx : ¬ x.2 = 0) : RmA LL w H (P ++ [x]) y HR v W := by
  obtain ⟨h1, h2, h3, h3', h4, h5⟩ := h
  exact ⟨h1, by rw [h2, docS, if_neg hz, if_neg hx], h3, h3', h4, h5⟩
theorem RmT.none_ {LL : List (List Ct)} {w : World} {H : List Nat} {P : List Ct} {x y : Ct} {HP : List Raw} {r : Raw} {W : World} {g cap : Nat} (h : RmT LL w H P (some x) y (HP ++ [r]) (.slice (some ⟨g, 0, none⟩) (P.length + 1) cap) W) (hn : HP.length = P.length) (hz : ¬ cmpT x.1 y.1 = 0) (hx : x.2 = 0) : RmA LL w H P y HP (.slice (some ⟨g, 0, none⟩) P.length cap) W := by
  obtain ⟨h1, h2, h3, h3', h4, h5⟩ := h
  exact ⟨h1, by rw [h2, docS, if_neg hz, if_pos hx], OwnRw.cut h3 hn, (LikeC.front (show LikeC _ W (HP ++ [r]) (P ++ [x]) from h3')).1, h4, h5⟩
/-- The last one of the row, as it lies. -/
theorem RmT.cells {LL : List (List Ct)} {w : World} {H : List Nat} {P : List Ct} {x y : Ct} {HP : List Raw} {r : Raw} {W : World} {g cap : Nat} (h : RmT LL w H P (some x) y (HP ++ [r]) (.slice (some ⟨g, 0, none⟩) (P.length + 1) cap) W) (_ : HP.length = P.length) :
    W.cell? ⟨g, P.length * 2, none⟩ = some (rawS r) ∧ W.cell? ⟨g, P.length * 2 + 1, none⟩ = some (.int .i64 r.2) ∧ W.frozen? ⟨g, P.length * 2 + 1, none⟩ = false ∧ TupS (fun k => k < w.heap.size) W (rawS r) x.1 ∧ r.2 = x.2 := by
  obtain ⟨-, -, h3, h4, -⟩ := h
  obtain ⟨HP', r', g', cap', e1, e2, -, -, e5, e6, e7, e8, e9, -⟩ := own_last h3 (show LikeC _ W (HP ++ [r]) (P ++ [x]) from h4)
  have er : r = r' := (List.append_inj' e1 rfl).2 |> List.singleton_inj.1
  injection e2 with e2 _ _
  injection e2 with e2
  injection e2 with e2
  subst er e2
  exact ⟨e7, e8, e9, e6, e5⟩
def TwoR (g n b : Nat) (x y : Option Addr × Nat × Nat) (X : World) : Prop :=
  X.cell? ⟨g, n * 2, none⟩ = some (.slice x.1 x.2.1 x.2.2) ∧ X.cell? ⟨b, 0, none⟩ = some (.slice y.1 y.2.1 y.2.2)
theorem TwoR.below {g n b : Nat} {x y : Option Addr × Nat × Nat} {W W' : World} (hbl : Below W.heap.size W W') (h : TwoR g n b x y W) : TwoR g n b x y W' := by
  obtain ⟨h1, h2⟩ := h
  have g : ∀ {b o v}, W.cell? ⟨b, o, none⟩ = some v → W'.cell? ⟨b, o, none⟩ = some v := fun {b o v} e => (hbl.cell (p := ⟨b, o, none⟩) (World.block_lt_of_cell? W _ e)).trans e
  exact ⟨g h1, g h2⟩
end
end Go.Proofs.Ytcfnpbmkcdmafaa
