/-
  Contract of the document's own Text: the same text.
-/
import Derived.Test.YtnbaemfkpfmheaaGreatDoorRef
import Derived.Test.YtnbaemfkpfmheaaGreatDoorDec
import Derived.IntWalk
namespace Go.Proofs.YtnbaemfkpfmheaaGreatDoor
open Go Go.RowKit

theorem digits_int (x : Int) (h0 : 0 ≤ x) (hU : U64 x.toNat) (w : World) :
    Calls Tryz.prog 124 #[.int .u64 x] w fun e w' => e = .returned (.string ⟨(Lib.decDigits x.toNat).toArray⟩) ∧ Below w.heap.size w w' := by
  have h := digits_any x.toNat hU w
  rw [Int.toNat_of_nonneg h0] at h
  exact h

theorem bytes_one (l : List UInt8) : ∀ u ∈ Lib.byteCells l, u.oneCell' = true := by
  intro u hu
  simp [Lib.byteCells] at hu
  obtain ⟨c, _, rfl⟩ := hu
  rfl
theorem ownsRow_below {w w' : World} {base : Nat} {e : TypeId} {size : Nat} {v : Value} {n : Nat} {xs : List Value} (h : w.ownsRow base e size v n xs) (hb : Below w.heap.size w w') : w'.ownsRow base e size v n xs := by
  obtain ⟨hl, h0 | ⟨g, cap, cur, hv, hbb, hh, r⟩⟩ := h
  · exact ⟨hl, .inl h0⟩
  · have hg : g < w.heap.size := by
      rcases Nat.lt_or_ge g w.heap.size with h1 | h1
      · exact h1
      · rw [Array.getElem?_eq_none h1] at hh
        cases hh
    exact ⟨hl, .inr ⟨g, cap, cur, hv, hbb, by rw [hb.block g hg]; exact hh, r⟩⟩
theorem neg_wrap {n : Int} (hI : I64 n) (hn : n < 0) : IntKind.u64.wrap (IntKind.u64.wrap (wrap64 (-wrap64 (n + 1))) + 1) = -n := by
  have h1 : -9223372036854775808 ≤ n := hI.1
  have e1 : wrap64 (n + 1) = n + 1 := IntWalk.wrap64_in _ (by omega)
  have e2 : wrap64 (-(n + 1)) = -(n + 1) := IntWalk.wrap64_in _ (by omega)
  have e3 : IntKind.u64.wrap (-(n + 1)) = -(n + 1) := IntWalk.u64_in _ (by omega)
  have e4 : IntKind.u64.wrap (-(n + 1) + 1) = -(n + 1) + 1 := IntWalk.u64_in _ (by omega)
  rw [e1, e2, e3, e4]
  omega
theorem pos_wrap {n : Int} (hI : I64 n) (hn : 0 ≤ n) : IntKind.u64.wrap n = n := IntWalk.u64_in _ (by have : n ≤ 9223372036854775807 := hI.2; omega)
theorem neg_U64 {n : Int} (hI : I64 n) (hn : n < 0) : U64 (-n).toNat := by
  have h1 : -9223372036854775808 ≤ n := hI.1
  unfold U64
  omega
theorem pos_U64 {n : Int} (hI : I64 n) (hn : 0 ≤ n) : U64 n.toNat := by
  have h1 : n ≤ 9223372036854775807 := hI.2
  unfold U64
  omega
theorem textS_neg {n : Int} (s : ByteArray) (hn : n < 0) : textS 1 n s = (⟨#[45]⟩ : ByteArray) ++ ⟨(Lib.decDigits (-n).toNat).toArray⟩ := by
  have e : (-n).toNat = n.natAbs := by omega
  rw [show (⟨#[45]⟩ : ByteArray) = ⟨[45].toArray⟩ from rfl, str_append, e]
  unfold textS textL Lib.itoa
  rw [if_pos rfl, if_pos hn]
  rfl
theorem textS_pos {n : Int} (s : ByteArray) (hn : 0 ≤ n) : textS 1 n s = ⟨(Lib.decDigits n.toNat).toArray⟩ := by
  unfold textS textL Lib.itoa
  rw [if_pos rfl, if_neg (by omega)]

set_option maxHeartbeats 400000 in
set_option maxRecDepth 100000 in
theorem rtext_neg (n : Int) (s : ByteArray) (w : World) (h : IsV 1 n s) (hI : I64 n) (hn : n < 0) :
    Calls Tryz.prog 118 #[.agg #[.int .i64 1, .int .i64 n, .string s]] w fun e w' => e = .returned (.tuple #[.string (textS 1 n s), .int .i64 0]) ∧ Below w.heap.size w w' := by
  have HW := Lib.hid (neg_wrap hI hn)
  have HT := Lib.hid (textS_neg s hn)
  have hln := dec_len20 (neg_U64 hI hn)
  go_enter Tryz.func118, Tryz.ntmps118
  go_wp2_with (go_at_call 123; refine (is_yes _ _ _ _ h).mono ?_; rintro e w1 ⟨rfl, hb⟩; obtain ⟨hc, hf⟩ := bcell hb; have hz : w.heap.size < w1.heap.size := by have := hb.size; simp at this; omega)
  rw [HW.out]
  refine (digits_int (-n) (by omega) (neg_U64 hI hn) _).mono ?_
  rintro e w2 ⟨rfl, hb2⟩
  go_wp2
  go_ret2
  exact ⟨by rw [HT.out]; rfl, (below_then hb).trans (hb2.mono (by omega))⟩
set_option maxHeartbeats 400000 in
set_option maxRecDepth 100000 in
theorem rtext_pos (n : Int) (s : ByteArray) (w : World) (h : IsV 1 n s) (hI : I64 n) (hn : 0 ≤ n) :
    Calls Tryz.prog 118 #[.agg #[.int .i64 1, .int .i64 n, .string s]] w fun e w' => e = .returned (.tuple #[.string (textS 1 n s), .int .i64 0]) ∧ Below w.heap.size w w' := by
  have HW := Lib.hid (pos_wrap hI hn)
  have HT := Lib.hid (textS_pos s hn)
  go_enter Tryz.func118, Tryz.ntmps118
  go_wp2_with (go_at_call 123; refine (is_yes _ _ _ _ h).mono ?_; rintro e w1 ⟨rfl, hb⟩; obtain ⟨hc, hf⟩ := bcell hb; have hz : w.heap.size < w1.heap.size := by have := hb.size; simp at this; omega)
  rw [HW.out]
  refine (digits_int n hn (pos_U64 hI hn) _).mono ?_
  rintro e w2 ⟨rfl, hb2⟩
  go_wp2
  go_ret2
  exact ⟨by rw [HT.out]; rfl, (below_then hb).trans (hb2.mono (by omega))⟩
set_option maxHeartbeats 2000000 in
set_option maxRecDepth 100000 in
theorem rtext_sym (s : ByteArray) (w : World) (h : IsV 2 0 s) (hs : s.size ≤ 256) :
    Calls Tryz.prog 118 #[.agg #[.int .i64 2, .int .i64 0, .string s]] w fun e w' => e = .returned (.tuple #[.string (textS 2 0 s), .int .i64 0]) ∧ Below w.heap.size w w' := by
  obtain ⟨i0, hi, hz0, hz1, hz2⟩ := info_parts Tryz.infoByte
  go_enter Tryz.func118, Tryz.ntmps118
  go_wp2_with (go_at_call 123; refine (is_yes _ _ _ _ h).mono ?_; rintro e w1 ⟨rfl, hb⟩; obtain ⟨hc, hf⟩ := bcell hb; have hz : w.heap.size < w1.heap.size := by have := hb.size; simp at this; omega)
  obtain ⟨-, -, c2⟩ := kept3 hb (by simp)
  clear hc hf
  go_loopw [4, 5] (fun v i wr => ∃ k : Nat, k ≤ s.size ∧ i = .int .i64 k ∧ wr.ownsRow w1.heap.size 5 1 v (quoteTo (s.data.toList.take k)).length (Lib.byteCells (quoteTo (s.data.toList.take k))) ∧ Below w1.heap.size w1 wr) (fun _ i _ => s.size - (intOf i).toNat)
  case atStart => exact ⟨0, Nat.zero_le _, rfl, World.ownsRow_lit w1 #[.int .u8 34] 1 (Nat.le_refl _) (by decide) rfl, (Below.refl _ _).alloc (Nat.le_refl _) _⟩
  case round =>
    obtain ⟨k, hk, rfl, hown, hbr⟩ := hrel
    have hq : (quoteTo (s.data.toList.take k)).length ≤ 1025 := by
      have h1 := quoteTo_len (s.data.toList.take k)
      have h2 := List.length_take_le k s.data.toList
      omega
    have hbs : w1.heap.size ≤ wr.heap.size := hbr.size
    have d2 : wr.cell? ⟨w.heap.size, 2, none⟩ = some (.string s) := (hbr.cell (p := ⟨w.heap.size, 2, none⟩) hz).trans c2
    by_cases hlt : k < s.size
    · have hol := oneB_len s[k]
      go_wp2_with (first
        | (go_at_call 125; refine (one_any s[k] _).mono ?_; rintro e w2 ⟨g, rfl, hg, hcells, hb2⟩; have hown2 := ownsRow_below hown hb2; have hsz2 := hb2.size)
        | (at_builtin; refine wpList_append_own _ rfl (.tmp 35) (.tmp 40) 168 rfl w1.heap.size 5 i0 (.int .u8 0) 1 1 Tryz.underlying168 hi hz0 hz1 hz2 rfl (by decide) _ _ _ rfl hown2 ⟨g, 0, none⟩ _ _ (Lib.byteCells (oneB s[k])) rfl (by simp [Lib.byteCells]) hcells (bytes_one _) (by unfold maxLen; omega) (by omega) (by omega) ?_; intro v' w3 hown' hgrow _))
      have hb3 : Below w1.heap.size w1 w3 := (hbr.trans (hb2.mono hbs)).grown hgrow (by omega) (fun k hk => (hown.lt k hk).1)
      go_roundw
      case rel => exact ⟨k + 1, by omega, by go_num, own_step hown' (q_step hlt rfl) rfl rfl, hb3⟩
      case measure => simp [intOf]; omega
    · obtain rfl : k = s.size := by omega
      go_wp2_with (at_builtin; refine wpList_append_lies _ rfl (.tmp 42) (.tmp 43) 168 rfl w1.heap.size 5 i0 (.int .u8 0) 1 1 Tryz.underlying168 hi hz0 hz1 hz2 rfl (by decide) _ _ _ rfl (hown.alloc _) ⟨wr.heap.size, 0, none⟩ 1 1 [.int .u8 34] rfl rfl (lit_cells wr _ _) (one_cells rfl) (by omega) (by unfold maxLen; omega) (by omega) (by simp; omega) (wr.heap.size + 1) (by simp) ?_; intro gg cap w3 hown1 hgrow hat hltg; refine Hid.out ?_)
      refine Lib.hid ?_
      have hb3 : Below w1.heap.size w1 w3 := (hbr.alloc hbs _).grown hgrow (by simp; omega) (fun k hk => (hown.lt k hk).1)
      have htk : s.data.toList.take s.size = s.data.toList := List.take_of_length_le (by rw [Lib.size_eq]; exact Nat.le_refl _)
      have hq2 : quoteL s.data.toList = quoteTo (s.data.toList.take s.size) ++ [34] := by rw [htk]; rfl
      have hown2 := own_step hown1 hq2 rfl rfl
      have hln : (quoteTo (s.data.toList.take s.size)).length + 1 = (quoteL s.data.toList).length := by rw [hq2]; simp
      rw [← hln] at hown2
      have hcv := run_convert_bytes_back (P := Tryz.prog) w3 168 9 5 ⟨gg, 0, none⟩ cap (quoteL s.data.toList) Tryz.underlying168 Tryz.underlying5 Tryz.underlying9 (fun j hj => hown2.cells (g := gg) rfl j _ (by simp [Lib.byteCells, hj]))
      rw [← hln] at hcv
      clear hown2 hown1 hown hq2 hln htk
      go_wp2
      go_ret2
      exact ⟨rfl, (below_then hb).trans (hb3.mono (by omega))⟩
/-- The document's Text of a value that may be: the same text. -/
theorem rtext_yes (k n : Int) (s : ByteArray) (w : World) (h : IsV k n s) (hI : I64 n) :
    Calls Tryz.prog 118 #[.agg #[.int .i64 k, .int .i64 n, .string s]] w fun e w' => e = .returned (.tuple #[.string (textS k n s), .int .i64 0]) ∧ Below w.heap.size w w' := by
  have h' := h
  rcases h' with ⟨rfl, _⟩ | ⟨rfl, rfl, hs⟩
  · rcases Int.lt_or_le n 0 with hn | hn
    · exact rtext_neg n s w h hI hn
    · exact rtext_pos n s w h hI hn
  · exact rtext_sym s w h hs
set_option maxHeartbeats 400000 in
theorem rtext_no (k n : Int) (s : ByteArray) (w : World) (h : ¬ IsV k n s) :
    Calls Tryz.prog 118 #[.agg #[.int .i64 k, .int .i64 n, .string s]] w fun e w' => e = .returned (.tuple #[.string ⟨#[]⟩, .int .i64 10]) ∧ Below w.heap.size w w' := by
  go_enter Tryz.func118, Tryz.ntmps118
  go_wp2_with (go_at_call 123; refine (is_no _ _ _ _ h).mono ?_; rintro e w1 ⟨rfl, hb⟩; obtain ⟨hc, hf⟩ := bcell hb; have hz : w.heap.size < w1.heap.size := by have := hb.size; simp at this; omega)
  go_ret2
  exact ⟨rfl, below_then hb⟩
end Go.Proofs.YtnbaemfkpfmheaaGreatDoor
