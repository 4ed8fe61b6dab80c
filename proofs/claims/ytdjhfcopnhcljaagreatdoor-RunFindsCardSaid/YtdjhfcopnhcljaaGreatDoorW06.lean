/-
  Contracts of pack.encoded and of the document's own one.
  Contracts of tuple.Check, and of the document's own Compare at two values.
  Contracts of pack.Key and pack.Tuple.
-/
import Derived.Test.YtdjhfcopnhcljaaGreatDoorW05
import Derived.Test.YtdjhfcopnhcljaaGreatDoorW02
import Derived.Shelf.SlSortCmp.QuietGrown
import Derived.BigQuiet
import Derived.IntWalk
namespace Go.Proofs.YtdjhfcopnhcljaaGreatDoor
section
open Go Go.RowKit

/-- A text's bytes in a new row. -/
theorem run_bytes (w : World) (s : ByteArray) : ∃ h c W, (convert 9 24 (.string s)).run Tryz.prog w = .ok (.slice (some ⟨h, 0, none⟩) s.size c) W ∧ BytIn (w.heap.size + 1) W (.slice (some ⟨h, 0, none⟩) s.size c) s.data.toList ∧ Below w.heap.size w W ∧ w.heap.size + 1 ≤ W.heap.size := by
  refine ⟨w.heap.size, _, _, run_bytes_of_string (P := Tryz.prog) w 9 24 5 s Tryz.underlying9 Tryz.underlying24 Tryz.underlying5, ?_, (Below.refl _ _).drew.alloc (Nat.le_refl _) _, by simp⟩
  refine .inr ⟨_, _, by rw [← Lib.size_eq], fun j hj => ⟨by simp, ?_⟩⟩
  have hadd : (⟨w.heap.size, 0, none⟩ : Addr).add j = ⟨w.heap.size, j, none⟩ := by unfold Addr.add; split <;> simp_all
  rw [hadd]
  have h := World.cell?_alloc_mark w.drew (bytesRow s (grownCap w s.size 0 5)) 5 ((bytesRow s (grownCap w s.size 0 5)).size, (bytesRow s (grownCap w s.size 0 5)).size + 1) j
  refine h.trans ?_
  have hj' : j < s.data.size := by simpa using hj
  rw [bytesRow_at s _ j hj']
  simp
theorem below_2 {w w1 w2 : World} (h : Below w.heap.size w w1) (h2 : Below w1.heap.size w1 w2) : Below w.heap.size w w2 := h.trans (h2.mono h.size)

theorem tag_of (w : World) (o : Obj) (n : Int) (c : UInt8) (h : (c.toNat : Int) = n) :
    OwnB w.heap.size ((w.alloc o).alloc (.cells #[.int .u8 n] 5)) (.slice (some ⟨w.heap.size + 1, 0, none⟩) 1 1) [c] ∧ Below w.heap.size w ((w.alloc o).alloc (.cells #[.int .u8 n] 5)) := by
  have e : (w.alloc o).heap.size = w.heap.size + 1 := by simp
  have h1 := OwnB.lit w.heap.size (w.alloc o) #[.int .u8 n] [c] 1 (by simp) rfl (by simp) (bytesV_single h)
  rw [e] at h1
  exact ⟨h1, below_box2 _ _ _⟩
theorem intL_room {n : Int} (h : -9223372036854775808 ≤ n ∧ n ≤ 9223372036854775807) : [(0 : UInt8)].length + (intL n).length ≤ 100000000000000 := by
  have := numL_len10 (zigN_lt h)
  simp only [List.length_singleton]
  unfold intL
  omega
theorem textL_room2 {s : ByteArray} (h : s.size ≤ 1000000) : [(0 : UInt8)].length + (textL s.data.toList).length ≤ 100000000000000 := by
  rw [Lib.size_eq] at h
  have := numL_len10 (x := s.data.toList.length) (by omega)
  simp only [List.length_singleton]
  unfold textL
  rw [List.length_append]
  omega

set_option maxHeartbeats 1000000 in
set_option maxRecDepth 100000 in
theorem enc_any (k n : Int) (s : ByteArray) (w : World) (hx : -9223372036854775808 ≤ n ∧ n ≤ 9223372036854775807) (hm : s.size ≤ 1000000) :
    Calls Tryz.prog 165 #[.agg #[.int .i64 k, .int .i64 n, .string s]] w (EndB (oneL ⟨k, n, s⟩) w) := by
  have HX := Lib.hid hx
  have HM := Lib.hid hm
  clear hx hm
  by_cases hk : k = 1
  · subst hk
    have HO : Hid (oneL ⟨1, n, s⟩ = [1] ++ intL n) := Lib.hid rfl
    have HL := Lib.hid (intL_room HX.out)
    have HT := Lib.hid (tag_of w (.cells #[.int .i64 1, .int .i64 n, .string s] 92) 1 1 rfl)
    go_enter Tryz.func165, Tryz.ntmps165
    go_wp2_with fail
    refine (int_any _ _ HX.out).mono ?_
    rintro e w1 ⟨v, rfl, ho, hb⟩
    have HV := Lib.hid ho
    have HB := Lib.hid (below_2 HT.out.2 hb)
    have HT1 := Lib.hid (HT.out.1.below hb)
    clear ho hb
    go_wp2_with (at_builtin; refine wpList_app rfl (.tmp 6) (.tmp 9) rfl w.heap.size w1.heap.size w _ _ [1] (intL n) rfl rfl HT1.out HV.out.in_ HL.out HB.out (Nat.le_refl _) ?_; intro v1 w2 ho hb)
    go_ret
    exact ⟨_, rfl, by rw [HO.out]; exact ho, hb⟩
  · have hk' : (k == 1) = false := by simpa using hk
    have HO : Hid (oneL ⟨k, n, s⟩ = [2] ++ textL s.data.toList) := Lib.hid (by unfold oneL; rw [if_neg hk]; rfl)
    have HL := Lib.hid (textL_room2 HM.out)
    have HT := Lib.hid (tag_of w (.cells #[.int .i64 k, .int .i64 n, .string s] 92) 2 2 rfl)
    obtain ⟨h, c, W, hcv, hin⟩ := run_bytes ((w.alloc (.cells #[.int .i64 k, .int .i64 n, .string s] 92)).alloc (.cells #[.int .u8 2] 5)) s
    have HI := Lib.hid hin
    clear hin
    go_enter Tryz.func165, Tryz.ntmps165
    go_wp2_with fail
    refine (text_any _ s.data.toList _ W HI.out.1 HI.out.2.2 (by rw [← Lib.size_eq]; exact HM.out)).mono ?_
    rintro e w1 ⟨v, rfl, ho, hb⟩
    have HV := Lib.hid ho
    have HB := Lib.hid (below_2 (below_2 HT.out.2 HI.out.2.1) hb)
    have HT1 := Lib.hid ((HT.out.1.below HI.out.2.1).below hb)
    clear ho hb
    go_wp2_with (at_builtin; refine wpList_app rfl (.tmp 11) (.tmp 15) rfl w.heap.size w1.heap.size w _ _ [2] (textL s.data.toList) rfl rfl HT1.out HV.out.in_ HL.out HB.out (Nat.le_refl _) ?_; intro v1 w2 ho hb)
    go_ret
    exact ⟨_, rfl, by rw [HO.out]; exact ho, hb⟩
set_option maxHeartbeats 1000000 in
set_option maxRecDepth 100000 in
theorem rone_any (k n : Int) (s : ByteArray) (w : World) (hx : -9223372036854775808 ≤ n ∧ n ≤ 9223372036854775807) (hm : s.size ≤ 1000000) :
    Calls Tryz.prog 169 #[.agg #[.int .i64 k, .int .i64 n, .string s]] w (EndB (oneL ⟨k, n, s⟩) w) := by
  have HX := Lib.hid hx
  have HM := Lib.hid hm
  clear hx hm
  by_cases hk : k = 1
  · subst hk
    have HO : Hid (oneL ⟨1, n, s⟩ = [1] ++ intL n) := Lib.hid rfl
    have HL := Lib.hid (intL_room HX.out)
    have HT := Lib.hid (tag_of w (.cells #[.int .i64 1, .int .i64 n, .string s] 92) 1 1 rfl)
    go_enter Tryz.func169, Tryz.ntmps169
    go_wp2_with fail
    refine (rint_any _ _ HX.out).mono ?_
    rintro e w1 ⟨v, rfl, ho, hb⟩
    have HV := Lib.hid ho
    have HB := Lib.hid (below_2 HT.out.2 hb)
    have HT1 := Lib.hid (HT.out.1.below hb)
    clear ho hb
    go_wp2_with (at_builtin; refine wpList_app rfl (.tmp 6) (.tmp 9) rfl w.heap.size w1.heap.size w _ _ [1] (intL n) rfl rfl HT1.out HV.out.in_ HL.out HB.out (Nat.le_refl _) ?_; intro v1 w2 ho hb)
    go_ret
    exact ⟨_, rfl, by rw [HO.out]; exact ho, hb⟩
  · have hk' : (k == 1) = false := by simpa using hk
    have HO : Hid (oneL ⟨k, n, s⟩ = [2] ++ textL s.data.toList) := Lib.hid (by unfold oneL; rw [if_neg hk]; rfl)
    have HL := Lib.hid (textL_room2 HM.out)
    have HT := Lib.hid (tag_of w (.cells #[.int .i64 k, .int .i64 n, .string s] 92) 2 2 rfl)
    obtain ⟨h, c, W, hcv, hin⟩ := run_bytes ((w.alloc (.cells #[.int .i64 k, .int .i64 n, .string s] 92)).alloc (.cells #[.int .u8 2] 5)) s
    have HI := Lib.hid hin
    clear hin
    go_enter Tryz.func169, Tryz.ntmps169
    go_wp2_with fail
    refine (rtext_any _ s.data.toList _ W HI.out.1 HI.out.2.2 (by rw [← Lib.size_eq]; exact HM.out)).mono ?_
    rintro e w1 ⟨v, rfl, ho, hb⟩
    have HV := Lib.hid ho
    have HB := Lib.hid (below_2 (below_2 HT.out.2 HI.out.2.1) hb)
    have HT1 := Lib.hid ((HT.out.1.below HI.out.2.1).below hb)
    clear ho hb
    go_wp2_with (at_builtin; refine wpList_app rfl (.tmp 11) (.tmp 15) rfl w.heap.size w1.heap.size w _ _ [2] (textL s.data.toList) rfl rfl HT1.out HV.out.in_ HL.out HB.out (Nat.le_refl _) ?_; intro v1 w2 ho hb)
    go_ret
    exact ⟨_, rfl, by rw [HO.out]; exact ho, hb⟩
end
section
open Go Go.RowKit

/-- The values of a row may be. -/
def AllV (T : List V3) : Prop := ∀ x ∈ T, IsV x.k x.n x.s
/-- A tuple may be. -/
def OkT (T : List V3) : Prop := T.length ≤ 8 ∧ AllV T
theorem TupIn.some {n₀ : Nat} {w : World} {v : Value} {T : List V3} (h : TupIn n₀ w v T) {k : Nat} (hk : k < T.length) : ∃ b off cap, v = .slice (some ⟨b, off, none⟩) T.length cap ∧ b < n₀ ∧ CellsAt w b off T := by
  obtain ⟨p, cap, rfl, -, h | ⟨b, off, rfl, hb, hc⟩⟩ := h
  · subst h
    simp at hk
  · exact ⟨b, off, cap, rfl, hb, hc⟩
theorem allV_take {T : List V3} {k : Nat} (h : AllV (T.take k)) (hk : k < T.length) (g : IsV T[k].k T[k].n T[k].s) : AllV (T.take (k + 1)) := by
  intro x hx
  rw [List.take_succ_eq_append_getElem hk] at hx
  rcases List.mem_append.1 hx with hx | hx
  · exact h x hx
  · obtain rfl := List.mem_singleton.1 hx
    exact g

set_option maxHeartbeats 1000000 in
set_option maxRecDepth 100000 in
theorem tcheck_any (v : Value) (T : List V3) (n₀ : Nat) (w : World) (h : TupIn n₀ w v T) (hn : n₀ ≤ w.heap.size) :
    Calls Tryz.prog 44 #[v] w fun e w' => ((OkT T ∧ e = .returned (.int .i64 0)) ∨ (¬ OkT T ∧ e = .returned (.int .i64 20))) ∧ Below w.heap.size w w' := by
  have HT := Lib.hid h
  obtain ⟨p, cap, rfl, l1, q1⟩ := h
  by_cases h8 : T.length ≤ 8
  case neg =>
    have h8' : (8 : Int) < (T.length : Int) := by omega
    have HN : Hid (¬ OkT T) := Lib.hid fun h => h8 h.1
    clear q1 h8
    go_enter Tryz.func44, Tryz.ntmps44
    go_wp2_with fail
    go_ret
    exact ⟨.inr ⟨HN.out, rfl⟩, Below.refl _ _⟩
  have h8' : (T.length : Int) ≤ 8 := by omega
  clear q1
  go_enter Tryz.func44, Tryz.ntmps44
  go_wp2_with fail
  go_loopw [10] (fun i wr => ∃ k : Nat, k ≤ T.length ∧ i = .int .i64 k ∧ Hid (AllV (T.take k)) ∧ Hid (Below w.heap.size w wr)) (fun i _ => T.length - (intOf i).toNat)
  case atStart => exact ⟨0, Nat.zero_le _, rfl, Lib.hid (fun x hx => by cases hx), Lib.hid (Below.refl _ _)⟩
  case round =>
    obtain ⟨k, hk, rfl, hall, hB⟩ := hrel
    have h0 : (0 : Int) ≤ (k : Int) := by omega
    by_cases hlt : k < T.length
    · have hlt' : (k : Int) < (T.length : Int) := by omega
      obtain ⟨b, off, cap', hv, hb, hc⟩ := HT.out.some hlt
      injection hv with hp _ hcap
      subst hp hcap
      have hbw : b < w.heap.size := by omega
      have hbs := hB.out.size
      have hb' : b < wr.heap.size := by omega
      obtain ⟨x0, x1, x2⟩ := (hc.below hB.out hbw) k hlt
      clear hc
      by_cases hx : IsV T[k].k T[k].n T[k].s
      · have HA := Lib.hid (allV_take hall.out hlt hx)
        have HX := Lib.hid hx
        clear hx
        go_wp2_with fail
        refine (check_yes _ _ _ _ HX.out).mono ?_
        rintro e w1 ⟨rfl, hb1⟩
        go_wp2_with fail
        go_roundw
        case rel => exact ⟨k + 1, by omega, by go_num, HA, Lib.hid (hB.out.trans (((below_box _ _).trans (hb1.mono (by simp))).mono hbs))⟩
        case measure => simp [intOf]; omega
      · have HN : Hid (¬ OkT T) := Lib.hid fun h => hx (h.2 _ (List.getElem_mem hlt))
        have HX := Lib.hid hx
        clear hx
        go_wp2_with fail
        refine (check_no _ _ _ _ HX.out).mono ?_
        rintro e w1 ⟨rfl, hb1⟩
        go_wp2_with fail
        go_ret
        exact ⟨.inr ⟨HN.out, rfl⟩, hB.out.trans (((below_box _ _).trans (hb1.mono (by simp))).mono hbs)⟩
    · have hlt' : (T.length : Int) ≤ (k : Int) := by omega
      obtain rfl : k = T.length := by omega
      have HO : Hid (OkT T) := Lib.hid ⟨h8, by have := hall.out; rwa [List.take_length] at this⟩
      go_wp2_with fail
      go_ret
      exact ⟨.inl ⟨HO.out, rfl⟩, hB.out⟩

set_option maxHeartbeats 400000 in
theorem ref_compare_grown (k n : Int) (s : ByteArray) (k' n' : Int) (s' : ByteArray) (w : World) :
    Calls Tryz.prog 87 #[.agg #[.int .i64 k, .int .i64 n, .string s], .agg #[.int .i64 k', .int .i64 n', .string s']] w fun e w' => e = .returned (.int .i64 (cmpV k n s k' n' s')) ∧ Grown w w' := by
  go_enter Tryz.func87, Tryz.ntmps87
  go_wp2
  all_goals
    go_ret
    refine ⟨ret_int ?_, ((Grown.refl _).alloc _).alloc _⟩
    first
    | exact way1 (by first | assumption | rfl) (by first | assumption | rfl) (by assumption)
    | exact way2 (by first | assumption | rfl) (by first | assumption | rfl) (by assumption)
    | exact way3 (by first | assumption | rfl) (by first | assumption | rfl) (by assumption) (by assumption)
    | exact way4 (by first | assumption | rfl) (by assumption) (by assumption)
    | exact way5 (by first | assumption | rfl) (by assumption)
    | exact way6 (by assumption) (by assumption)
    | exact way7 (by assumption)
end
section
open Go Go.RowKit

/-- What answers bytes, or tells that the tuple may not be. -/
def EndT (L : List V3 → List UInt8) (T : List V3) (w : World) (e : Ending) (w' : World) : Prop :=
  Below w.heap.size w w' ∧ ((OkT T ∧ ∃ v, e = .returned (.tuple #[v, .int .i64 0]) ∧ OwnB w.heap.size w' v (L T)) ∨ (¬ OkT T ∧ e = .returned (.tuple #[.slice none 0 0, .int .i64 20])))
/-- Every number is one of 64 bits. -/
def AllI (T : List V3) : Prop := ∀ x ∈ T, -9223372036854775808 ≤ x.n ∧ x.n ≤ 9223372036854775807
theorem isV_size {x : V3} (h : IsV x.k x.n x.s) : x.s.size ≤ 256 := by
  rcases h with ⟨-, h⟩ | ⟨-, -, h⟩
  · rw [Lib.size_eq, ← Lib.toList_data, h]; simp
  · exact h
theorem isV_ok {x : V3} (h : IsV x.k x.n x.s) (hi : -9223372036854775808 ≤ x.n ∧ x.n ≤ 9223372036854775807) : OkV x := by
  rcases h with ⟨h1, h2⟩ | ⟨h1, h2, -⟩
  · exact .inl ⟨h1, h2, hi⟩
  · exact .inr ⟨h1, h2⟩
theorem keyV_len {x : V3} (h : IsV x.k x.n x.s) : (keyV x).length ≤ 600 := by
  have h1 := isV_size h
  rw [Lib.size_eq] at h1
  have h2 := esc_len x.s.data.toList
  unfold keyV keyI keyS
  split
  · rw [List.length_cons, beL_len]; omega
  · simp only [List.length_cons, List.length_append, List.length_nil]; omega
theorem oneL_len {x : V3} (h : IsV x.k x.n x.s) (hi : -9223372036854775808 ≤ x.n ∧ x.n ≤ 9223372036854775807) : (oneL x).length ≤ 600 := by
  have h1 := isV_size h
  rw [Lib.size_eq] at h1
  have h2 := numL_len10 (zigN_lt hi)
  have h3 := numL_len10 (x := x.s.data.toList.length) (by omega)
  unfold oneL intL textL
  split
  · rw [List.length_cons]; omega
  · rw [List.length_cons, List.length_append]; omega
theorem flat_take {f : V3 → List UInt8} {T : List V3} {k : Nat} (hk : k < T.length) : (T.take (k + 1)).flatMap f = (T.take k).flatMap f ++ f T[k] := by
  rw [List.take_succ_eq_append_getElem hk, List.flatMap_append]
  simp
theorem flat_len {f : V3 → List UInt8} : ∀ {T : List V3}, (∀ x ∈ T, (f x).length ≤ 600) → (T.flatMap f).length ≤ 600 * T.length
  | [], _ => by simp
  | a :: x, h => by
    have h1 := h a List.mem_cons_self
    have h2 := flat_len (T := x) fun y hy => h y (List.mem_cons_of_mem _ hy)
    simp only [List.flatMap_cons, List.length_append, List.length_cons]
    omega
theorem flat_room {f : V3 → List UInt8} {T : List V3} {k : Nat} (h : ∀ x ∈ T, (f x).length ≤ 600) (h8 : T.length ≤ 8) (hk : k < T.length) : ((T.take k).flatMap f).length + (f T[k]).length ≤ 5400 := by
  have h1 := flat_len (f := f) (T := T.take k) fun x hx => h x (List.mem_of_mem_take hx)
  have h2 := h _ (List.getElem_mem hk)
  have h3 := List.length_take_le k T
  omega

set_option maxHeartbeats 2000000 in
set_option maxRecDepth 100000 in
theorem key_any (v : Value) (T : List V3) (n₀ : Nat) (w : World) (h : TupIn n₀ w v T) (hn : n₀ ≤ w.heap.size) (hI : AllI T) :
    Calls Tryz.prog 136 #[v] w (EndT keyT T w) := by
  have HT := Lib.hid h
  have HI := Lib.hid hI
  clear hI
  obtain ⟨p, cap, rfl, l1, q1⟩ := h
  clear q1
  go_enter Tryz.func136, Tryz.ntmps136
  go_wp2_with fail
  refine (tcheck_any _ T n₀ w HT.out hn).mono ?_
  rintro e w1 ⟨⟨hok, rfl⟩ | ⟨hok, rfl⟩, hb1⟩
  case inr =>
    have HK := Lib.hid hok
    clear hok
    go_wp2_with fail
    go_ret2
    exact ⟨hb1, .inr ⟨HK.out, rfl⟩⟩
  have HK := Lib.hid hok
  have h8 : T.length ≤ 8 := hok.1
  have HB1 := Lib.hid hb1
  have HT1 := Lib.hid (HT.out.below (hb1.mono hn))
  have HF : Hid (∀ x ∈ T, (keyV x).length ≤ 600) := Lib.hid fun x hx => keyV_len (HK.out.2 x hx)
  clear hok hb1
  go_wp2_with fail
  go_loopw [5, 7, 15] (fun b _ i wr => ∃ k : Nat, k ≤ T.length ∧ i = .int .i64 k ∧ Hid (OwnB w.heap.size wr b ((T.take k).flatMap keyV) ∧ Below w.heap.size w wr)) (fun _ _ i _ => T.length - (intOf i).toNat)
  case atStart => exact ⟨0, Nat.zero_le _, rfl, Lib.hid ⟨OwnB.nil _ _, HB1.out⟩⟩
  case round =>
    obtain ⟨k, hk, rfl, H⟩ := hrel
    have h0 : (0 : Int) ≤ (k : Int) := by omega
    by_cases hlt : k < T.length
    · have hlt' : (k : Int) < (T.length : Int) := by omega
      obtain ⟨b, off, cap', hv, hb, hc⟩ := (HT.out.below (H.out.2.mono hn)).some hlt
      injection hv with hp _ hcap
      subst hp hcap
      have hbs := H.out.2.size
      have hb' : b < wr.heap.size := by omega
      obtain ⟨x0, x1, x2⟩ := hc k hlt
      clear hc
      have HS := Lib.hid (flat_take (f := keyV) hlt)
      have HR := Lib.hid (Nat.le_trans (flat_room HF.out HK.out.1 hlt) (by decide : 5400 ≤ 100000000000000))
      have HZ := Lib.hid (isV_size (HK.out.2 _ (List.getElem_mem hlt)))
      by_cases hk1 : T[k].k = 1
      · have hk2 : (T[k].k == 1) = true := by simpa using hk1
        have HV : Hid (keyV T[k] = keyI T[k].n) := Lib.hid (by unfold keyV; rw [if_pos hk1])
        clear hk1
        go_wp2_with fail
        refine (intKey_any _ _ (HI.out _ (List.getElem_mem hlt))).mono ?_
        rintro e w2 ⟨vk, rfl, ho, hb2⟩
        have HO := Lib.hid ho
        have HB2 := Lib.hid (below_then hb2)
        clear ho hb2
        go_wp2_with (at_builtin; refine wpList_app rfl (.tmp 22) (.tmp 25) rfl w.heap.size w2.heap.size w _ _ ((T.take k).flatMap keyV) (keyI T[k].n) rfl rfl (H.out.1.below HB2.out) HO.out.in_ (by rw [← HV.out]; exact HR.out) (below_2 H.out.2 HB2.out) (Nat.le_refl _) ?_; intro v3 w3 ho hb3)
        go_roundw
        case rel => exact ⟨k + 1, by omega, by go_num, Lib.hid ⟨by rw [HS.out, HV.out]; exact ho, hb3⟩⟩
        case measure => simp [intOf]; omega
      · have hk2 : (T[k].k == 1) = false := by simpa using hk1
        have HV : Hid (keyV T[k] = keyS T[k].s.data.toList) := Lib.hid (by unfold keyV; rw [if_neg hk1])
        clear hk1
        go_wp2_with fail
        refine (symKey_any _ _ (by have := HZ.out; omega)).mono ?_
        rintro e w2 ⟨vk, rfl, ho, hb2⟩
        have HO := Lib.hid ho
        have HB2 := Lib.hid (below_then hb2)
        clear ho hb2
        go_wp2_with (at_builtin; refine wpList_app rfl (.tmp 27) (.tmp 30) rfl w.heap.size w2.heap.size w _ _ ((T.take k).flatMap keyV) (keyS T[k].s.data.toList) rfl rfl (H.out.1.below HB2.out) HO.out.in_ (by rw [← HV.out]; exact HR.out) (below_2 H.out.2 HB2.out) (Nat.le_refl _) ?_; intro v3 w3 ho hb3)
        go_roundw
        case rel => exact ⟨k + 1, by omega, by go_num, Lib.hid ⟨by rw [HS.out, HV.out]; exact ho, hb3⟩⟩
        case measure => simp [intOf]; omega
    · have hlt' : (T.length : Int) ≤ (k : Int) := by omega
      obtain rfl : k = T.length := by omega
      have HE : Hid ((T.take T.length).flatMap keyV = keyT T) := Lib.hid (by rw [List.take_length]; rfl)
      go_wp2_with fail
      go_ret2
      exact ⟨H.out.2, .inl ⟨HK.out, _, rfl, by rw [← HE.out]; exact H.out.1⟩⟩

theorem len_byte {n : Nat} (h : n ≤ 8) : (((UInt8.ofNat n).toNat : Nat) : Int) = (n : Int) := by
  rw [UInt8.toNat_ofNat', Nat.mod_eq_of_lt (by omega)]
theorem head_of (w w1 : World) (n : Int) (c : UInt8) (h : (c.toNat : Int) = n) (hb : Below w.heap.size w w1) :
    OwnB w.heap.size (w1.alloc (.cells #[.int .u8 n] 5)) (.slice (some ⟨w1.heap.size, 0, none⟩) 1 1) [c] ∧ Below w.heap.size w (w1.alloc (.cells #[.int .u8 n] 5)) :=
  ⟨OwnB.lit w.heap.size w1 #[.int .u8 n] [c] 1 hb.size rfl (by simp) (bytesV_single h), hb.alloc hb.size _⟩

set_option maxHeartbeats 2000000 in
set_option maxRecDepth 100000 in
theorem tuple_any (v : Value) (T : List V3) (n₀ : Nat) (w : World) (h : TupIn n₀ w v T) (hn : n₀ ≤ w.heap.size) (hI : AllI T) :
    Calls Tryz.prog 141 #[v] w (EndT tupL T w) := by
  have HT := Lib.hid h
  have HI := Lib.hid hI
  clear hI
  obtain ⟨p, cap, rfl, l1, q1⟩ := h
  clear q1
  go_enter Tryz.func141, Tryz.ntmps141
  go_wp2_with fail
  refine (tcheck_any _ T n₀ w HT.out hn).mono ?_
  rintro e w1 ⟨⟨hok, rfl⟩ | ⟨hok, rfl⟩, hb1⟩
  case inr =>
    have HK := Lib.hid hok
    clear hok
    go_wp2_with fail
    go_ret2
    exact ⟨hb1, .inr ⟨HK.out, rfl⟩⟩
  have HK := Lib.hid hok
  have h8 : (T.length : Int) ≤ 8 := by have := hok.1; omega
  have h08 : (0 : Int) ≤ (T.length : Int) := by omega
  have HH := Lib.hid (head_of w w1 _ _ (len_byte hok.1) hb1)
  have HF : Hid (∀ x ∈ T, (oneL x).length ≤ 600) := Lib.hid fun x hx => oneL_len (HK.out.2 x hx) (HI.out x hx)
  clear hok hb1
  go_wp2_with fail
  go_loopw [5, 7, 19] (fun b _ i wr => ∃ k : Nat, k ≤ T.length ∧ i = .int .i64 k ∧ Hid (OwnB w.heap.size wr b (UInt8.ofNat T.length :: (T.take k).flatMap oneL) ∧ Below w.heap.size w wr)) (fun _ _ i _ => T.length - (intOf i).toNat)
  case atStart => exact ⟨0, Nat.zero_le _, rfl, Lib.hid HH.out⟩
  case round =>
    obtain ⟨k, hk, rfl, H⟩ := hrel
    have h0 : (0 : Int) ≤ (k : Int) := by omega
    by_cases hlt : k < T.length
    · have hlt' : (k : Int) < (T.length : Int) := by omega
      obtain ⟨b, off, cap', hv, hb, hc⟩ := (HT.out.below (H.out.2.mono hn)).some hlt
      injection hv with hp _ hcap
      subst hp hcap
      have hbs := H.out.2.size
      have hb' : b < wr.heap.size := by omega
      obtain ⟨x0, x1, x2⟩ := hc k hlt
      clear hc
      have HS := Lib.hid (flat_take (f := oneL) hlt)
      have HR := Lib.hid (flat_room HF.out HK.out.1 hlt)
      have HZ := Lib.hid (isV_size (HK.out.2 _ (List.getElem_mem hlt)))
      go_wp2_with fail
      refine (enc_any _ _ _ _ (HI.out _ (List.getElem_mem hlt)) (by have := HZ.out; omega)).mono ?_
      rintro e w2 ⟨vk, rfl, ho, hb2⟩
      have HO := Lib.hid ho
      have HB2 := Lib.hid (below_then hb2)
      clear ho hb2
      go_wp2_with (at_builtin; refine wpList_app rfl (.tmp 23) (.tmp 25) rfl w.heap.size w2.heap.size w _ _ (UInt8.ofNat T.length :: (T.take k).flatMap oneL) (oneL T[k]) rfl rfl (H.out.1.below HB2.out) HO.out.in_ (by have := HR.out; rw [List.length_cons]; omega) (below_2 H.out.2 HB2.out) (Nat.le_refl _) ?_; intro v3 w3 ho hb3)
      go_roundw
      case rel => exact ⟨k + 1, by omega, by go_num, Lib.hid ⟨by rw [HS.out]; exact ho, hb3⟩⟩
      case measure => simp [intOf]; omega
    · have hlt' : (T.length : Int) ≤ (k : Int) := by omega
      obtain rfl : k = T.length := by omega
      have HE : Hid (UInt8.ofNat T.length :: (T.take T.length).flatMap oneL = tupL T) := Lib.hid (by rw [List.take_length]; rfl)
      go_wp2_with fail
      go_ret2
      exact ⟨H.out.2, .inl ⟨HK.out, _, rfl, by rw [← HE.out]; exact H.out.1⟩⟩
end
end Go.Proofs.YtdjhfcopnhcljaaGreatDoor
