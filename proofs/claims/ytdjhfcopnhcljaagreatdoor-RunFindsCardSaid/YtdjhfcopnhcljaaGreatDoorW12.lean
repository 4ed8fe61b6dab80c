/-
  Contracts of the document's own Is, Compare and Same at tuples (layer 3), and the sign of life of the pack laws.
  Contracts of the document's own Tuple and Key, of pack.Counted and of the document's Counted.
  Contract of the document's own Key.
-/
import Derived.Test.YtdjhfcopnhcljaaGreatDoorW11
namespace Go.Proofs.YtdjhfcopnhcljaaGreatDoor
section
open Go Go.RowKit

set_option maxHeartbeats 1000000 in
set_option maxRecDepth 100000 in
theorem ris_any (v : Value) (T : List V3) (n₀ : Nat) (w : World) (h : TupIn n₀ w v T) (hn : n₀ ≤ w.heap.size) :
    Calls Tryz.prog 98 #[v] w fun e w' => ((OkT T ∧ e = .returned (.bool true)) ∨ (¬ OkT T ∧ e = .returned (.bool false))) ∧ Below w.heap.size w w' := by
  have HT := Lib.hid h
  obtain ⟨p, cap, rfl, l1, q1⟩ := h
  clear q1
  go_enter Tryz.func98, Tryz.ntmps98
  go_wp2_with fail
  go_loopw [3] (fun i wr => ∃ k : Nat, k ≤ T.length ∧ i = .int .i64 k ∧ Hid (AllV (T.take k)) ∧ Hid (Below w.heap.size w wr)) (fun i _ => T.length - (intOf i).toNat)
  case atStart => exact ⟨0, Nat.zero_le _, rfl, Lib.hid (fun x hx => by cases hx), Lib.hid (Below.refl _ _)⟩
  case round =>
    obtain ⟨k, hk, rfl, hall, hB⟩ := hrel
    have h0 : (0 : Int) ≤ (k : Int) := by omega
    by_cases hlt : k < T.length
    · have hlt' : (k : Int) < (T.length : Int) := by omega
      obtain ⟨b, off, cap', hv, hb, hc⟩ := HT.out.some hlt
      injection hv with hp _ hcap
      subst hp hcap
      have hbw : b < w.heap.size := by omega
      have hbs := hB.out.size
      have hb' : b < wr.heap.size := by omega
      obtain ⟨x0, x1, x2⟩ := (hc.below hB.out hbw) k hlt
      clear hc
      by_cases hx : IsV T[k].k T[k].n T[k].s
      · have HA := Lib.hid (allV_take hall.out hlt hx)
        have HX := Lib.hid hx
        clear hx
        go_wp2_with fail
        refine (is_yes _ _ _ _ HX.out).mono ?_
        rintro e w1 ⟨rfl, hb1⟩
        go_wp2_with fail
        go_roundw
        case rel => exact ⟨k + 1, by omega, by go_num, HA, Lib.hid (hB.out.trans (hb1.mono hbs))⟩
        case measure => simp [intOf]; omega
      · have HN : Hid (¬ OkT T) := Lib.hid fun h => hx (h.2 _ (List.getElem_mem hlt))
        have HX := Lib.hid hx
        clear hx
        go_wp2_with fail
        refine (is_no _ _ _ _ HX.out).mono ?_
        rintro e w1 ⟨rfl, hb1⟩
        go_wp2_with fail
        go_ret
        exact ⟨.inr ⟨HN.out, rfl⟩, hB.out.trans (hb1.mono hbs)⟩
    · have hlt' : (T.length : Int) ≤ (k : Int) := by omega
      obtain rfl : k = T.length := by omega
      have HO : Hid (AllV T) := Lib.hid (by have := hall.out; rwa [List.take_length] at this)
      by_cases h8 : T.length ≤ 8
      · have h8' : (T.length : Int) ≤ 8 := by omega
        have HY : Hid (OkT T) := Lib.hid ⟨h8, HO.out⟩
        go_wp2_with fail
        go_ret
        exact ⟨.inl ⟨HY.out, by simp⟩, hB.out⟩
      · have h8' : (8 : Int) < (T.length : Int) := by omega
        have HY : Hid (¬ OkT T) := Lib.hid fun h => h8 h.1
        go_wp2_with fail
        go_ret
        exact ⟨.inr ⟨HY.out, by simp [*]⟩, hB.out⟩

/-- The tuple of the sign of life. -/
def lifeT : List V3 := [⟨1, 5, ⟨#[]⟩⟩, ⟨2, 0, ⟨#[97]⟩⟩]
theorem life_ok : OkT lifeT ∧ AllI lifeT := by
  refine ⟨⟨by decide, fun x hx => ?_⟩, fun x hx => ?_⟩
  · simp only [lifeT, List.mem_cons, List.not_mem_nil, or_false] at hx
    rcases hx with rfl | rfl
    · exact .inl ⟨rfl, by rw [Lib.toList_data]⟩
    · exact .inr ⟨rfl, rfl, by decide⟩
  · simp only [lifeT, List.mem_cons, List.not_mem_nil, or_false] at hx
    rcases hx with rfl | rfl <;> decide
theorem life_in (w : World) : TupIn (w.heap.size + 1) (w.alloc (.cells #[.int .i64 1, .int .i64 5, .string ⟨#[]⟩, .int .i64 2, .int .i64 0, .string ⟨#[97]⟩] 92)) (.slice (some ⟨w.heap.size, 0, none⟩) 2 2) lifeT := by
  refine ⟨_, 2, rfl, by decide, .inr ⟨w.heap.size, 0, rfl, by omega, fun j hj => ?_⟩⟩
  have hj' : j < 2 := hj
  rcases (by omega : j = 0 ∨ j = 1) with rfl | rfl <;> (refine ⟨?_, ?_, ?_⟩ <;> (rw [cell_of_row _ w.heap.size _ _ _ (0, 0) (heap_alloc_new w _)]; rfl))
theorem numL_ten : numL 10 = [10] := numL_lt (by decide)
theorem numL_one : numL 1 = [1] := numL_lt (by decide)
theorem life_tup : tupL lifeT = [2, 1, 10, 2, 1, 97] := by
  show UInt8.ofNat 2 :: (1 :: numL 10 ++ (2 :: (numL 1 ++ [97]) ++ [])) = _
  rw [numL_ten, numL_one]
  rfl
theorem life_key : keyT lifeT = [1, 128, 0, 0, 0, 0, 0, 0, 5, 2, 97, 0, 1] := by decide +kernel
theorem life_int : intL (-1) = [1] := numL_lt (by decide)

end
section
open Go Go.RowKit

set_option maxHeartbeats 2000000 in
set_option maxRecDepth 100000 in
theorem rtuple_any (v : Value) (T : List V3) (n₀ : Nat) (w : World) (h : TupIn n₀ w v T) (hn : n₀ ≤ w.heap.size) (hI : AllI T) :
    Calls Tryz.prog 146 #[v] w (EndT tupL T w) := by
  have HT := Lib.hid h
  have HI := Lib.hid hI
  clear hI
  obtain ⟨p, cap, rfl, l1, q1⟩ := h
  clear q1
  go_enter Tryz.func146, Tryz.ntmps146
  go_wp2_with fail
  refine (ris_any _ T n₀ w HT.out hn).mono ?_
  rintro e w1 ⟨⟨hok, rfl⟩ | ⟨hok, rfl⟩, hb1⟩
  case inr =>
    have HK := Lib.hid hok
    clear hok
    go_wp2_with fail
    go_ret2
    exact ⟨hb1, .inr ⟨HK.out, rfl⟩⟩
  have HK := Lib.hid hok
  have h8 : (T.length : Int) ≤ 8 := by have := hok.1; omega
  have h08 : (0 : Int) ≤ (T.length : Int) := by omega
  have HH := Lib.hid (head_of w w1 _ _ (len_byte hok.1) hb1)
  have HF : Hid (∀ x ∈ T, (oneL x).length ≤ 600) := Lib.hid fun x hx => oneL_len (HK.out.2 x hx) (HI.out x hx)
  clear hok hb1
  go_wp2_with fail
  go_loopw [4, 5] (fun b i wr => ∃ k : Nat, k ≤ T.length ∧ i = .int .i64 k ∧ Hid (OwnB w.heap.size wr b (UInt8.ofNat T.length :: (T.take k).flatMap oneL) ∧ Below w.heap.size w wr)) (fun _ i _ => T.length - (intOf i).toNat)
  case atStart => exact ⟨0, Nat.zero_le _, rfl, Lib.hid HH.out⟩
  case round =>
    obtain ⟨k, hk, rfl, H⟩ := hrel
    have h0 : (0 : Int) ≤ (k : Int) := by omega
    by_cases hlt : k < T.length
    · have hlt' : (k : Int) < (T.length : Int) := by omega
      obtain ⟨b, off, cap', hv, hb, hc⟩ := (HT.out.below (H.out.2.mono hn)).some hlt
      injection hv with hp _ hcap
      subst hp hcap
      have hbs := H.out.2.size
      have hb' : b < wr.heap.size := by omega
      obtain ⟨x0, x1, x2⟩ := hc k hlt
      clear hc
      have HS := Lib.hid (flat_take (f := oneL) hlt)
      have HR := Lib.hid (flat_room HF.out HK.out.1 hlt)
      have HZ := Lib.hid (isV_size (HK.out.2 _ (List.getElem_mem hlt)))
      go_wp2_with fail
      refine (rone_any _ _ _ _ (HI.out _ (List.getElem_mem hlt)) (by have := HZ.out; omega)).mono ?_
      rintro e w2 ⟨vk, rfl, ho, hb2⟩
      have HO := Lib.hid ho
      have HB2 := Lib.hid hb2
      clear ho hb2
      go_wp2_with (at_builtin; refine wpList_app rfl (.tmp 19) (.tmp 24) rfl w.heap.size w2.heap.size w _ _ (UInt8.ofNat T.length :: (T.take k).flatMap oneL) (oneL T[k]) rfl rfl (H.out.1.below HB2.out) HO.out.in_ (by have := HR.out; rw [List.length_cons]; omega) (below_2 H.out.2 HB2.out) (Nat.le_refl _) ?_; intro v3 w3 ho hb3)
      go_roundw
      case rel => exact ⟨k + 1, by omega, by go_num, Lib.hid ⟨by rw [HS.out]; exact ho, hb3⟩⟩
      case measure => simp [intOf]; omega
    · have hlt' : (T.length : Int) ≤ (k : Int) := by omega
      obtain rfl : k = T.length := by omega
      have HE : Hid (UInt8.ofNat T.length :: (T.take T.length).flatMap oneL = tupL T) := Lib.hid (by rw [List.take_length]; rfl)
      go_wp2_with fail
      go_ret2
      exact ⟨H.out.2, .inl ⟨HK.out, _, rfl, by rw [← HE.out]; exact H.out.1⟩⟩

theorem tupL_room {T : List V3} {n : Int} (h : OkT T) (hI : AllI T) (hx : -9223372036854775808 ≤ n ∧ n ≤ 9223372036854775807) : (tupL T).length + (intL n).length ≤ 100000000000000 := by
  have h1 := flat_len (f := oneL) (T := T) fun x hx => oneL_len (h.2 x hx) (hI x hx)
  have h2 := numL_len10 (zigN_lt hx)
  have h3 := h.1
  unfold tupL intL
  rw [List.length_cons]
  omega

set_option maxHeartbeats 2000000 in
set_option maxRecDepth 100000 in
theorem counted_any (v : Value) (T : List V3) (n : Int) (n₀ : Nat) (w : World) (h : TupIn n₀ w v T) (hn : n₀ ≤ w.heap.size) (hI : AllI T) (hx : -9223372036854775808 ≤ n ∧ n ≤ 9223372036854775807) :
    Calls Tryz.prog 102 #[.agg #[v, .int .i64 n]] w (EndT (fun T => tupL T ++ intL n) T w) := by
  have HT := Lib.hid h
  have HI := Lib.hid hI
  have HX := Lib.hid hx
  clear hI hx
  obtain ⟨p, cap, rfl, l1, q1⟩ := h
  clear q1
  have HB0 := Lib.hid (below_box w (.cells #[.slice p T.length cap, .int .i64 n] 66))
  have HT0 := Lib.hid (HT.out.below (HB0.out.mono hn))
  have HZ0 := Lib.hid (Nat.le_trans hn HB0.out.size)
  have HC0 : Hid ((w.alloc (.cells #[.slice p T.length cap, .int .i64 n] 66)).cell? ⟨w.heap.size, 1, none⟩ = some (.int .i64 n)) := Lib.hid (by rw [cell_of_row _ w.heap.size _ _ _ (0, 0) (heap_alloc_new w _)]; rfl)
  have HL0 : Hid (w.heap.size < (w.alloc (.cells #[.slice p T.length cap, .int .i64 n] 66)).heap.size) := Lib.hid (by simp)
  go_enter Tryz.func102, Tryz.ntmps102
  go_wp2_with fail
  refine (tuple_any _ T n₀ _ HT0.out HZ0.out HI.out).mono ?_
  rintro e w1 ⟨hb1, ⟨hok, v1, rfl, ho1⟩ | ⟨hok, rfl⟩⟩
  case inr =>
    have HK := Lib.hid hok
    have HB1 := Lib.hid (below_2 HB0.out hb1)
    clear hok hb1
    go_wp2_with fail
    go_ret2
    exact ⟨HB1.out, .inr ⟨HK.out, rfl⟩⟩
  have HK := Lib.hid hok
  have HB1 := Lib.hid (below_2 HB0.out hb1)
  have HO1 := Lib.hid ho1
  have hc1 : w1.cell? ⟨w.heap.size, 1, none⟩ = some (.int .i64 n) := (hb1.cell (p := ⟨w.heap.size, 1, none⟩) HL0.out).trans HC0.out
  have HL := Lib.hid (tupL_room HK.out HI.out HX.out)
  clear hok hb1 ho1
  go_wp2_with fail
  refine (int_any _ _ HX.out).mono ?_
  rintro e w2 ⟨v2, rfl, ho2, hb2⟩
  have HO2 := Lib.hid ho2
  have HB2 := Lib.hid (below_2 HB1.out hb2)
  have HO12 := Lib.hid ((HO1.out.below hb2).mono HB0.out.size)
  clear ho2 hb2 hc1
  go_wp2_with (at_builtin; refine wpList_app rfl (.tmp 15) (.tmp 18) rfl w.heap.size w2.heap.size w _ _ (tupL T) (intL n) rfl rfl HO12.out HO2.out.in_ HL.out HB2.out (Nat.le_refl _) ?_; intro v3 w3 ho hb3)
  go_ret2
  exact ⟨hb3, .inl ⟨HK.out, _, rfl, ho⟩⟩

set_option maxHeartbeats 2000000 in
set_option maxRecDepth 100000 in
theorem rcounted_any (v : Value) (T : List V3) (n : Int) (n₀ : Nat) (w : World) (h : TupIn n₀ w v T) (hn : n₀ ≤ w.heap.size) (hI : AllI T) (hx : -9223372036854775808 ≤ n ∧ n ≤ 9223372036854775807) :
    Calls Tryz.prog 108 #[.agg #[v, .int .i64 n]] w (EndT (fun T => tupL T ++ intL n) T w) := by
  have HT := Lib.hid h
  have HI := Lib.hid hI
  have HX := Lib.hid hx
  clear hI hx
  obtain ⟨p, cap, rfl, l1, q1⟩ := h
  clear q1
  have HB0 := Lib.hid (below_box w (.cells #[.slice p T.length cap, .int .i64 n] 66))
  have HT0 := Lib.hid (HT.out.below (HB0.out.mono hn))
  have HZ0 := Lib.hid (Nat.le_trans hn HB0.out.size)
  have HC0 : Hid ((w.alloc (.cells #[.slice p T.length cap, .int .i64 n] 66)).cell? ⟨w.heap.size, 1, none⟩ = some (.int .i64 n)) := Lib.hid (by rw [cell_of_row _ w.heap.size _ _ _ (0, 0) (heap_alloc_new w _)]; rfl)
  have HL0 : Hid (w.heap.size < (w.alloc (.cells #[.slice p T.length cap, .int .i64 n] 66)).heap.size) := Lib.hid (by simp)
  go_enter Tryz.func108, Tryz.ntmps108
  go_wp2_with fail
  refine (rtuple_any _ T n₀ _ HT0.out HZ0.out HI.out).mono ?_
  rintro e w1 ⟨hb1, ⟨hok, v1, rfl, ho1⟩ | ⟨hok, rfl⟩⟩
  case inr =>
    have HK := Lib.hid hok
    have HB1 := Lib.hid (below_2 HB0.out hb1)
    clear hok hb1
    go_wp2_with fail
    go_ret2
    exact ⟨HB1.out, .inr ⟨HK.out, rfl⟩⟩
  have HK := Lib.hid hok
  have HB1 := Lib.hid (below_2 HB0.out hb1)
  have HO1 := Lib.hid ho1
  have hc1 : w1.cell? ⟨w.heap.size, 1, none⟩ = some (.int .i64 n) := (hb1.cell (p := ⟨w.heap.size, 1, none⟩) HL0.out).trans HC0.out
  have HL := Lib.hid (tupL_room HK.out HI.out HX.out)
  clear hok hb1 ho1
  go_wp2_with fail
  refine (rint_any _ _ HX.out).mono ?_
  rintro e w2 ⟨v2, rfl, ho2, hb2⟩
  have HO2 := Lib.hid ho2
  have HB2 := Lib.hid (below_2 HB1.out hb2)
  have HO12 := Lib.hid ((HO1.out.below hb2).mono HB0.out.size)
  clear ho2 hb2 hc1
  go_wp2_with (at_builtin; refine wpList_app rfl (.tmp 15) (.tmp 18) rfl w.heap.size w2.heap.size w _ _ (tupL T) (intL n) rfl rfl HO12.out HO2.out.in_ HL.out HB2.out (Nat.le_refl _) ?_; intro v3 w3 ho hb3)
  go_ret2
  exact ⟨hb3, .inl ⟨HK.out, _, rfl, ho⟩⟩
end
section
open Go Go.RowKit

theorem rkey_start {n : Int} (hx : -9223372036854775808 ≤ n ∧ n ≤ 9223372036854775807) : IntKind.u64.wrap (IntKind.u64.wrap n + 9223372036854775808) = (((n + 9223372036854775808).toNat : Nat) : Int) ∧ (n + 9223372036854775808).toNat < 18446744073709551616 := by
  rw [wrap_u64', wrap_u64']
  omega
theorem rkey_step {X Y q m : Nat} (h : m + (q + 1) = 8) (hY : Y = X % 256 ^ (q + 1) * 256 ^ m) :
    (∃ B : Nat, IntKind.u64.wrap ((Y : Int) / 72057594037927936) = (B : Int) ∧ B = X / 256 ^ q % 256 ∧ (B : Int) < 256) ∧ ∃ Z : Nat, IntKind.u64.wrap ((Y : Int) * 256) = (Z : Int) ∧ Z = X % 256 ^ q * 256 ^ (m + 1) := by
  have hq : q ≤ 7 := by omega
  obtain rfl : m = 7 - q := by omega
  rw [wrap_u64', wrap_u64']
  refine ⟨⟨X / 256 ^ q % 256, ?_, rfl, by have := Nat.mod_lt (X / 256 ^ q) (show 0 < 256 by decide); omega⟩, ⟨X % 256 ^ q * 256 ^ (7 - q + 1), ?_, rfl⟩⟩
  all_goals
    subst hY
    rcases (by omega : q = 0 ∨ q = 1 ∨ q = 2 ∨ q = 3 ∨ q = 4 ∨ q = 5 ∨ q = 6 ∨ q = 7) with rfl | rfl | rfl | rfl | rfl | rfl | rfl | rfl <;> simp only [Nat.reduceAdd, Nat.reduceSub, Nat.reducePow] <;> omega

set_option maxHeartbeats 4000000 in
set_option maxRecDepth 100000 in
theorem rkey_any (v : Value) (T : List V3) (n₀ : Nat) (w : World) (h : TupIn n₀ w v T) (hn : n₀ ≤ w.heap.size) (hI : AllI T) :
    Calls Tryz.prog 38 #[v] w (EndT keyT T w) := by
  have HT := Lib.hid h
  have HI := Lib.hid hI
  clear hI
  obtain ⟨p, cap, rfl, l1, q1⟩ := h
  clear q1
  go_enter Tryz.func38, Tryz.ntmps38
  go_wp2_with fail
  refine (ris_any _ T n₀ w HT.out hn).mono ?_
  rintro e w1 ⟨⟨hok, rfl⟩ | ⟨hok, rfl⟩, hb1⟩
  case inr =>
    have HK := Lib.hid hok
    clear hok
    go_wp2_with fail
    go_ret2
    exact ⟨hb1, .inr ⟨HK.out, rfl⟩⟩
  have HK := Lib.hid hok
  have HB1 := Lib.hid hb1
  have HF : Hid (∀ x ∈ T, (keyV x).length ≤ 600) := Lib.hid fun x hx => keyV_len (HK.out.2 x hx)
  clear hok hb1
  go_wp2_with fail
  go_loopw [4, 5] (fun b i wr => ∃ k : Nat, k ≤ T.length ∧ i = .int .i64 k ∧ Hid (OwnB w.heap.size wr b ((T.take k).flatMap keyV) ∧ Below w.heap.size w wr)) (fun _ i _ => T.length - (intOf i).toNat)
  case atStart => exact ⟨0, Nat.zero_le _, rfl, Lib.hid ⟨OwnB.nil _ _, HB1.out⟩⟩
  case round =>
    obtain ⟨k, hk, rfl, H⟩ := hrel
    obtain ⟨wo, hwo⟩ : ∃ wo : World, wo = wr := ⟨_, rfl⟩
    subst hwo
    have h0 : (0 : Int) ≤ (k : Int) := by omega
    by_cases hlt : k < T.length
    · have hlt' : (k : Int) < (T.length : Int) := by omega
      obtain ⟨b, off, cap', hv, hb, hc⟩ := HT.out.some hlt
      injection hv with hp _ hcap
      subst hp hcap
      have hbw : b < w.heap.size := by omega
      have HCW : Hid (∀ W, Below w.heap.size w W → W.cell? ⟨b, off + k * 3, none⟩ = some (.int .i64 T[k].k) ∧ W.cell? ⟨b, off + k * 3 + 1, none⟩ = some (.int .i64 T[k].n) ∧ W.cell? ⟨b, off + k * 3 + 2, none⟩ = some (.string T[k].s)) := Lib.hid fun W hB => (hc.below hB hbw) k hlt
      clear hc
      have hbs := H.out.2.size
      have hb' : b < wo.heap.size := by omega
      obtain ⟨x0, x1, x2⟩ := HCW.out _ H.out.2
      have HS := Lib.hid (flat_take (f := keyV) hlt)
      have HR := Lib.hid (flat_room HF.out HK.out.1 hlt)
      have HZ := Lib.hid (isV_size (HK.out.2 _ (List.getElem_mem hlt)))
      have HRR : Hid (((T.take k).flatMap keyV).length + [(0 : UInt8)].length ≤ 100000000000000) := Lib.hid (by have := HR.out; simp only [List.length_singleton]; omega)
      by_cases hk1 : T[k].k = 1
      · have hk2 : (T[k].k == 1) = true := by simpa using hk1
        have HV : Hid (keyV T[k] = keyI T[k].n) := Lib.hid (by unfold keyV; rw [if_pos hk1])
        clear hk1
        go_wp2_with (at_builtin; refine wpList_app rfl (.tmp 24) (.tmp 25) rfl w.heap.size (wo.heap.size + 1) w _ _ ((T.take k).flatMap keyV) [1] rfl rfl (H.out.1.alloc _) (BytIn.lit wo _ _ 1 rfl (bytesV_single rfl)) HRR.out (H.out.2.alloc H.out.2.size _) (Nat.le_refl _) ?_; intro v1 w2 ho hb2; obtain ⟨y0, y1, y2⟩ := HCW.out _ hb2; have HO2 := Lib.hid ho; have HB2 := Lib.hid hb2; clear ho hb2)
        have HX0 := Lib.hid (rkey_start (HI.out _ (List.getElem_mem hlt)))
        go_loopw [4, 6, 7] (fun v x i wr => ∃ j m Y : Nat, i = .int .i64 m ∧ x = .int .u64 Y ∧ ∃ l : List UInt8, Hid (m + j = 8 ∧ Y = (T[k].n + 9223372036854775808).toNat % 256 ^ j * 256 ^ m ∧ keyI T[k].n = l ++ beL j (T[k].n + 9223372036854775808).toNat ∧ OwnB w.heap.size wr v ((T.take k).flatMap keyV ++ l) ∧ Below w.heap.size w wr)) (fun _ _ i _ => 8 - (intOf i).toNat)
        case atStart => exact ⟨8, 0, _, rfl, by rw [HX0.out.1], [1], Lib.hid ⟨rfl, by rw [Nat.pow_zero, Nat.mul_one, Nat.mod_eq_of_lt HX0.out.2], rfl, HO2.out, HB2.out⟩⟩
        case round =>
          obtain ⟨j, m, Y, rfl, rfl, l, H2⟩ := hrel
          have h0m : (0 : Int) ≤ (m : Int) := by omega
          by_cases hm : m < 8
          · have hm' : (m : Int) < 8 := by omega
            obtain ⟨q, hq⟩ : ∃ q, j = q + 1 := ⟨j - 1, by have := H2.out.1; omega⟩
            subst hq
            obtain ⟨⟨B, hw1, hB, hB'⟩, Z, hw2, hZ⟩ := rkey_step H2.out.1 H2.out.2.1
            have HBB := Lib.hid hB
            have HZZ := Lib.hid hZ
            have HCb : Hid (((UInt8.ofNat B).toNat : Int) = (B : Int)) := Lib.hid (by rw [UInt8.toNat_ofNat', Nat.mod_eq_of_lt (by omega)])
            have HS2 := Lib.hid (keyI_step H2.out.2.2.1)
            have HL2 : Hid (((T.take k).flatMap keyV ++ l).length + [(0 : UInt8)].length ≤ 100000000000000) := Lib.hid (by have h1 := HR.out; have h2 := H2.out.2.2.1; rw [← HV.out.symm, h2] at h1; simp only [List.length_append, List.length_singleton] at h1 ⊢; omega)
            clear hB hZ
            go_wp2_with (at_builtin; refine wpList_app rfl (.tmp 38) (.tmp 42) rfl w.heap.size (wr.heap.size + 1) w _ _ ((T.take k).flatMap keyV ++ l) [UInt8.ofNat B] rfl rfl (H2.out.2.2.2.1.alloc _) (BytIn.lit wr _ _ 1 rfl (bytesV_single HCb.out)) HL2.out (H2.out.2.2.2.2.alloc H2.out.2.2.2.2.size _) (Nat.le_refl _) ?_; intro v3 w3 ho hb3)
            go_roundw
            case rel => exact ⟨q, m + 1, Z, by go_num, rfl, l ++ [UInt8.ofNat B], Lib.hid ⟨by have := H2.out.1; omega, HZZ.out, by rw [HBB.out]; exact HS2.out, by rw [← List.append_assoc]; exact ho, hb3⟩⟩
            case measure => simp [intOf]; omega
          · have hm' : (8 : Int) ≤ (m : Int) := by omega
            have HE : Hid ((T.take k).flatMap keyV ++ l = (T.take (k + 1)).flatMap keyV) := Lib.hid (by
              have h1 := H2.out.1
              obtain rfl : j = 0 := by omega
              have h2 := H2.out.2.2.1
              rw [show beL 0 (T[k].n + 9223372036854775808).toNat = [] from rfl, List.append_nil] at h2
              rw [HS.out, HV.out, h2])
            go_wp2_with fail
            go_roundw
            case rel => exact ⟨k + 1, by omega, by go_num, Lib.hid ⟨by rw [← HE.out]; exact H2.out.2.2.2.1, H2.out.2.2.2.2⟩⟩
            case measure => simp [intOf]; omega
      · have hk2 : (T[k].k == 1) = false := by simpa using hk1
        have HV : Hid (keyV T[k] = keyS T[k].s.data.toList) := Lib.hid (by unfold keyV; rw [if_neg hk1])
        clear hk1
        obtain ⟨s, hs⟩ : ∃ s, s = T[k].s := ⟨_, rfl⟩
        rw [← hs] at HV HCW HZ x2
        clear hs
        have hsz : (s.size : Int) ≤ 256 := by have := HZ.out; omega
        go_wp2_with (at_builtin; refine wpList_app rfl (.tmp 46) (.tmp 47) rfl w.heap.size (wo.heap.size + 1) w _ _ ((T.take k).flatMap keyV) [2] rfl rfl (H.out.1.alloc _) (BytIn.lit wo _ _ 1 rfl (bytesV_single rfl)) HRR.out (H.out.2.alloc H.out.2.size _) (Nat.le_refl _) ?_; intro v1 w2 ho hb2; have HO2 := Lib.hid ho; have HB2 := Lib.hid hb2; clear ho hb2)
        go_loopw [4, 8] (fun v i wr => ∃ m : Nat, m ≤ s.size ∧ i = .int .i64 m ∧ ∃ l : List UInt8, Hid (l = 2 :: (s.data.toList.take m).flatMap escB ∧ OwnB w.heap.size wr v ((T.take k).flatMap keyV ++ l) ∧ Below w.heap.size w wr)) (fun _ i _ => s.size - (intOf i).toNat)
        case atStart => exact ⟨0, Nat.zero_le _, rfl, [2], Lib.hid ⟨rfl, HO2.out, HB2.out⟩⟩
        case round =>
          obtain ⟨m, hm, rfl, l, H2⟩ := hrel
          have h0m : (0 : Int) ≤ (m : Int) := by omega
          obtain ⟨y0, y1, y2⟩ := HCW.out _ H2.out.2.2
          have hbs2 := H2.out.2.2.size
          have hb2' : b < wr.heap.size := by omega
          have HLL : Hid (((T.take k).flatMap keyV ++ l).length ≤ 3000000) := Lib.hid (by
            have h1 := keyS_room (l := l) (k := m) (Nat.le_trans HZ.out (by decide)) H2.out.1
            have h2 := HRR.out
            have h3 := HR.out
            rw [List.length_append]
            omega)
          have HL2 : Hid (((T.take k).flatMap keyV ++ l).length + [(0 : UInt8)].length ≤ 100000000000000) := Lib.hid (Nat.le_trans (Nat.add_le_add_right HLL.out _) (by decide))
          by_cases hltm : m < s.size
          · have hltm' : (m : Int) < (s.size : Int) := by omega
            cases hcz : ((s[m].toNat : Int) == 0) with
            | true =>
              have HE := Lib.hid (escB_zero hcz)
              have HS2 := Lib.hid (keyS_step hltm H2.out.1)
              go_wp2_with (first
                | (at_builtin; refine wpList_app rfl (.tmp 59) (.tmp 67) rfl w.heap.size (wr.heap.size + 1) w _ _ ((T.take k).flatMap keyV ++ l) [s[m]] rfl rfl (H2.out.2.1.alloc _) (BytIn.lit wr _ _ 1 rfl (bytesV_single rfl)) HL2.out (H2.out.2.2.alloc H2.out.2.2.size _) (Nat.le_refl _) ?_; intro v3 w3 ho hb3; obtain ⟨z0, z1, z2⟩ := HCW.out _ hb3; have HO3 := Lib.hid ho; have HB3 := Lib.hid hb3; clear ho hb3)
                | (at_builtin; refine wpList_app rfl (.tmp 77) (.tmp 78) rfl w.heap.size (w3.heap.size + 1) w _ _ ((T.take k).flatMap keyV ++ l ++ [s[m]]) [255] rfl rfl (HO3.out.alloc _) (BytIn.lit w3 _ _ 1 rfl (bytesV_single rfl)) (by have := HLL.out; simp only [List.length_append, List.length_singleton] at this ⊢; omega) (HB3.out.alloc HB3.out.size _) (Nat.le_refl _) ?_; intro v4 w4 ho hb4))
              go_roundw
              case rel => exact ⟨m + 1, by omega, by go_num, _, Lib.hid ⟨HS2.out, by rw [HE.out.1, ← List.append_assoc, ← List.append_assoc]; exact ho, hb4⟩⟩
              case measure => simp [intOf]; omega
            | false =>
              have HE := Lib.hid (escB_other hcz)
              have HS2 := Lib.hid (keyS_step hltm H2.out.1)
              go_wp2_with (at_builtin; refine wpList_app rfl (.tmp 59) (.tmp 67) rfl w.heap.size (wr.heap.size + 1) w _ _ ((T.take k).flatMap keyV ++ l) [s[m]] rfl rfl (H2.out.2.1.alloc _) (BytIn.lit wr _ _ 1 rfl (bytesV_single rfl)) HL2.out (H2.out.2.2.alloc H2.out.2.2.size _) (Nat.le_refl _) ?_; intro v3 w3 ho hb3; obtain ⟨z0, z1, z2⟩ := HCW.out _ hb3)
              go_roundw
              case rel => exact ⟨m + 1, by omega, by go_num, _, Lib.hid ⟨HS2.out, by rw [HE.out, ← List.append_assoc]; exact ho, hb3⟩⟩
              case measure => simp [intOf]; omega
          · have hltm' : (s.size : Int) ≤ (m : Int) := by omega
            have HE : Hid ((T.take k).flatMap keyV ++ l ++ [0, 1] = (T.take (k + 1)).flatMap keyV) := Lib.hid (by
              have ht : s.data.toList.take m = s.data.toList := List.take_of_length_le (by rw [← Lib.size_eq]; omega)
              rw [HS.out, HV.out, H2.out.1, ht, List.append_assoc]
              rfl)
            go_wp2_with (at_builtin; refine wpList_app rfl (.tmp 80) (.tmp 81) rfl w.heap.size (wr.heap.size + 1) w _ _ ((T.take k).flatMap keyV ++ l) [0, 1] rfl rfl (H2.out.2.1.alloc _) (BytIn.lit wr _ _ 2 rfl rfl) (Nat.le_trans (Nat.add_le_add_right HLL.out _) (by decide)) (H2.out.2.2.alloc H2.out.2.2.size _) (Nat.le_refl _) ?_; intro v3 w3 ho hb3)
            go_roundw
            case rel => exact ⟨k + 1, by omega, by go_num, Lib.hid ⟨by rw [← HE.out]; exact ho, hb3⟩⟩
            case measure => simp [intOf]; omega
    · have hlt' : (T.length : Int) ≤ (k : Int) := by omega
      obtain rfl : k = T.length := by omega
      have HE : Hid ((T.take T.length).flatMap keyV = keyT T) := Lib.hid (by rw [List.take_length]; rfl)
      go_wp2_with fail
      go_ret2
      exact ⟨H.out.2, .inl ⟨HK.out, _, rfl, by rw [← HE.out]; exact H.out.1⟩⟩
end
end Go.Proofs.YtdjhfcopnhcljaaGreatDoor
