/-
  Contract of value.quote: a symbol's bytes as they stand in its text.
-/
import Derived.Test.YtnbaemfkpfmheaaGreatDoorTxt
import Derived.Test.YtnbaemfkpfmheaaGreatDoorRows
import Derived.WalkKit
import Derived.WalkSpells
import Derived.WalkLawsBesides
import Derived.Lib.Hide
import Derived.BigQuiet
import Derived.Deep.QuietTactic
import Derived.Laws.OwnMore
import Derived.Laws.IdiomStrings
import Derived.Deep.AppendLies
import Derived.OwnWalk
import Derived.Outline
import Derived.Deep.RegionHeld3
namespace Go.Proofs.YtnbaemfkpfmheaaGreatDoor
open Go Go.RowKit

theorem Tryz.infoByte : (Tryz.prog.info? 5).map (fun i => (i.zero, i.size, i.bytes)) = some (some (.int .u8 0), 1, 1) := by kernel_rfl

/-- The cells of a written-out row that the call has just made. -/
theorem lit_cells (w : World) (cs : Array Value) (t : TypeId) : ∀ j u, cs.toList[j]? = some u → (w.alloc (.cells cs t)).cell? ((⟨w.heap.size, 0, none⟩ : Addr).add j) = some u := by
  intro j u hj
  have h : (⟨w.heap.size, 0, none⟩ : Addr).add j = ⟨w.heap.size, j, none⟩ := by
    unfold Addr.add
    split <;> simp_all
  rw [h, cell_of_row _ w.heap.size j cs t (0, 0) (heap_alloc_new w _)]
  simpa using hj
theorem one_cells {l : List Value} (h : l.all (fun u => u.oneCell') = true) : ∀ u ∈ l, u.oneCell' = true := fun u hu => List.all_eq_true.1 h u hu
theorem own_step {w1 : World} {B : Nat} {v : Value} {m : Nat} {q q' l : List UInt8} {news : List Value} (h : w1.ownsRow B 5 1 v (q.length + m) (Lib.byteCells q ++ news)) (hq : q' = q ++ l) (hm : l.length = m) (hn : news = Lib.byteCells l) :
    w1.ownsRow B 5 1 v q'.length (Lib.byteCells q') := by
  subst hq hm hn
  rw [List.length_append]
  have e : Lib.byteCells (q ++ l) = Lib.byteCells q ++ Lib.byteCells l := by simp [Lib.byteCells]
  rw [e]
  exact h
theorem q_step {s : ByteArray} {k : Nat} (h : k < s.size) {l : List UInt8} (e : oneB s[k] = l) : quoteTo (s.data.toList.take (k + 1)) = quoteTo (s.data.toList.take k) ++ l := by
  rw [take_snoc s k h, quoteTo_snoc, e]

theorem and_15n (c : UInt8) : ((c.toNat &&& 15 : Nat) : Int) = (c.toNat : Int) % 16 := by
  rw [show (15 : Nat) = 2 ^ 4 - 1 from rfl, Nat.and_two_pow_sub_one_eq_mod]; rfl
theorem and_15 (c : UInt8) : bits BinOp.and IntKind.u8 (c.toNat : Int) 15 = (c.toNat : Int) % 16 := by
  rw [show (15 : Int) = ((15 : Nat) : Int) from rfl, u8_and_nat _ _ (byte_lt c) (by decide)]
  exact and_15n c

theorem dig_at' {n m : Nat} (h : m < (⟨#[48, 49, 50, 51, 52, 53, 54, 55, 56, 57, 97, 98, 99, 100, 101, 102]⟩ : ByteArray).size) (e : m = n) (hn : n < 16) :
    (⟨#[48, 49, 50, 51, 52, 53, 54, 55, 56, 57, 97, 98, 99, 100, 101, 102]⟩ : ByteArray)[m]'h = hexD n := by
  subst e
  exact dig_at ⟨m, hn⟩
theorem hex_cells (c : UInt8) (h : ((c.toNat : Int) / 16).toNat < (⟨#[48, 49, 50, 51, 52, 53, 54, 55, 56, 57, 97, 98, 99, 100, 101, 102]⟩ : ByteArray).size) (h' : ((c.toNat : Int) % 16).toNat < (⟨#[48, 49, 50, 51, 52, 53, 54, 55, 56, 57, 97, 98, 99, 100, 101, 102]⟩ : ByteArray).size) :
    [Value.int .u8 92, .int .u8 120, .int .u8 ((⟨#[48, 49, 50, 51, 52, 53, 54, 55, 56, 57, 97, 98, 99, 100, 101, 102]⟩ : ByteArray)[((c.toNat : Int) / 16).toNat]'h).toNat, .int .u8 ((⟨#[48, 49, 50, 51, 52, 53, 54, 55, 56, 57, 97, 98, 99, 100, 101, 102]⟩ : ByteArray)[((c.toNat : Int) % 16).toNat]'h').toNat]
      = Lib.byteCells [92, 120, hexD (c.toNat / 16), hexD (c.toNat % 16)] := by
  have hb := byte_lt c
  rw [dig_at' h (n := c.toNat / 16) (by omega) (by omega), dig_at' h' (n := c.toNat % 16) (by omega) (by omega)]
  rfl

set_option maxHeartbeats 1000000 in
set_option maxRecDepth 100000 in
theorem quote_any (s : ByteArray) (w : World) (hs : s.size ≤ 256) :
    Calls Tryz.prog 130 #[.string s] w fun e w' => e = .returned (.string ⟨(quoteL s.data.toList).toArray⟩) ∧ Below w.heap.size w w' := by
  obtain ⟨i0, hi, hz0, hz1, hz2⟩ := info_parts Tryz.infoByte
  go_enter Tryz.func130, Tryz.ntmps130
  go_wp2
  go_loopw [3, 9] (fun v i wr => ∃ k : Nat, k ≤ s.size ∧ i = .int .i64 k ∧ wr.ownsRow w.heap.size 5 1 v (quoteTo (s.data.toList.take k)).length (Lib.byteCells (quoteTo (s.data.toList.take k))) ∧ Below w.heap.size w wr) (fun _ i _ => s.size - (intOf i).toNat)
  case atStart => exact ⟨0, Nat.zero_le _, rfl, World.ownsRow_lit w #[.int .u8 34] 1 (Nat.le_refl _) (by decide) rfl, (Below.refl _ _).alloc (Nat.le_refl _) _⟩
  case round =>
    obtain ⟨k, hk, rfl, hown, hb⟩ := hrel
    have hq : (quoteTo (s.data.toList.take k)).length ≤ 1025 := by
      have h1 := quoteTo_len (s.data.toList.take k)
      have h2 := List.length_take_le k s.data.toList
      omega
    have hbs : w.heap.size ≤ wr.heap.size := hb.size
    by_cases hlt : k < s.size
    · go_wp2_with (first
        | (at_builtin; refine wpList_append_own _ rfl (.tmp 31) (.tmp 33) 168 rfl w.heap.size 5 i0 (.int .u8 0) 1 1 Tryz.underlying168 hi hz0 hz1 hz2 rfl (by decide) _ _ _ rfl (hown.alloc _) ⟨wr.heap.size, 0, none⟩ 2 2 [.int .u8 92, .int .u8 s[k].toNat] rfl rfl (lit_cells wr _ _) (one_cells rfl) (by unfold maxLen; omega) (by omega) (by simp; omega) ?_; intro v' w1 hown' hgrow _)
        | (at_builtin; refine wpList_append_own _ rfl (.tmp 31) (.tmp 33) 168 rfl w.heap.size 5 i0 (.int .u8 0) 1 1 Tryz.underlying168 hi hz0 hz1 hz2 rfl (by decide) _ _ _ rfl (hown.alloc _) ⟨wr.heap.size, 0, none⟩ 2 2 [.int .u8 92, .int .u8 34] rfl rfl (lit_cells wr _ _) (one_cells rfl) (by unfold maxLen; omega) (by omega) (by simp; omega) ?_; intro v' w1 hown' hgrow _)
        | (at_builtin; refine wpList_append_own _ rfl (.tmp 38) (.tmp 39) 168 rfl w.heap.size 5 i0 (.int .u8 0) 1 1 Tryz.underlying168 hi hz0 hz1 hz2 rfl (by decide) _ _ _ rfl (hown.alloc _) ⟨wr.heap.size, 0, none⟩ 2 2 [.int .u8 92, .int .u8 110] rfl rfl (lit_cells wr _ _) (one_cells rfl) (by unfold maxLen; omega) (by omega) (by simp; omega) ?_; intro v' w1 hown' hgrow _)
        | (at_builtin; refine wpList_append_own _ rfl (.tmp 44) (.tmp 45) 168 rfl w.heap.size 5 i0 (.int .u8 0) 1 1 Tryz.underlying168 hi hz0 hz1 hz2 rfl (by decide) _ _ _ rfl (hown.alloc _) ⟨wr.heap.size, 0, none⟩ 2 2 [.int .u8 92, .int .u8 116] rfl rfl (lit_cells wr _ _) (one_cells rfl) (by unfold maxLen; omega) (by omega) (by simp; omega) ?_; intro v' w1 hown' hgrow _)
        | (at_builtin; refine wpList_append_own _ rfl (.tmp 54) (.tmp 56) 168 rfl w.heap.size 5 i0 (.int .u8 0) 1 1 Tryz.underlying168 hi hz0 hz1 hz2 rfl (by decide) _ _ _ rfl (hown.alloc _) ⟨wr.heap.size, 0, none⟩ 1 1 [.int .u8 s[k].toNat] rfl rfl (lit_cells wr _ _) (one_cells rfl) (by unfold maxLen; omega) (by omega) (by simp; omega) ?_; intro v' w1 hown' hgrow _))
      all_goals try
        case roundEnd =>
          have hb1 : Below w.heap.size w w1 := (hb.alloc hbs _).grown hgrow (by simp; omega) (fun k hk => (hown.lt k hk).1)
          go_roundw
          case measure => simp [intOf]; omega
          case rel =>
            first
            | exact ⟨k + 1, by omega, by go_num, own_step hown' (q_step hlt (oneB_34 (by assumption))) rfl rfl, hb1⟩
            | exact ⟨k + 1, by omega, by go_num, own_step hown' (q_step hlt (oneB_92 (by assumption) (by assumption))) rfl rfl, hb1⟩
            | exact ⟨k + 1, by omega, by go_num, own_step hown' (q_step hlt (oneB_10 (by assumption))) rfl rfl, hb1⟩
            | exact ⟨k + 1, by omega, by go_num, own_step hown' (q_step hlt (oneB_9 (by assumption))) rfl rfl, hb1⟩
            | exact ⟨k + 1, by omega, by go_num, own_step hown' (q_step hlt (oneB_plain (by assumption) (by assumption) (by assumption) (by assumption) (by assumption))) rfl rfl, hb1⟩
      all_goals
        have h0 : (0 : Int) ≤ (s[k].toNat : Int) / 16 := by omega
        have h1 : (s[k].toNat : Int) / 16 < 16 := by have := byte_lt s[k]; omega
        have h2 : (0 : Int) ≤ (s[k].toNat : Int) % 16 := by omega
        have h3 : (s[k].toNat : Int) % 16 < 16 := by omega
        have h4 : bits BinOp.and IntKind.u8 (s[k].toNat : Int) 15 = (s[k].toNat : Int) % 16 := and_15 s[k]
        have h5 : ((s[k].toNat &&& 15 : Nat) : Int) = (s[k].toNat : Int) % 16 := and_15n s[k]
        go_region_held3 (fun w' => True) (exact True.intro) ((refine step_append_lies _ (by rfl) _ _ _ (by rfl) w.heap.size 5 i0 _ 1 1 Tryz.underlying168 hi hz0 hz1 hz2 rfl (by omega) _ _ _ (by rfl) ((hown.alloc _).drew) ⟨wr.heap.size, 0, none⟩ 4 4 _ (by rfl) (by rfl) (lit_cells wr _ _) (one_cells rfl) (by omega) (by unfold maxLen; omega) (by omega) (by simp; omega) (wr.heap.size + 1) (by simp) ?_; intro gg cap w1 hown1 hgrow hat hltg))
        all_goals
          have hb1 : Below w.heap.size w w1 := ((hb.alloc hbs _).drew).grown hgrow (by simp; omega) (fun k hk => (hown.lt k hk).1)
          have ho : (s[k].toNat : Int) < 32 ∨ (126 : Int) < s[k].toNat := by first | exact .inl (by assumption) | exact .inr (by assumption)
          have e1 := oneB_hex (c := s[k]) (by assumption) (by assumption) (by assumption) ho
          have hownF := own_step hown1 (q_step hlt e1) rfl (hex_cells s[k] _ _)
          have HF := Lib.hid hownF
          clear hownF hown1 e1 ho h4 h5
          go_wp2
          go_roundw
          case measure => simp [intOf]; omega
          case rel => exact ⟨k + 1, by omega, by go_num, HF.out, hb1⟩
    · obtain rfl : k = s.size := by omega
      go_wp2_with (at_builtin; refine wpList_append_lies _ rfl (.tmp 59) (.tmp 60) 168 rfl w.heap.size 5 i0 (.int .u8 0) 1 1 Tryz.underlying168 hi hz0 hz1 hz2 rfl (by decide) _ _ _ rfl (hown.alloc _) ⟨wr.heap.size, 0, none⟩ 1 1 [.int .u8 34] rfl rfl (lit_cells wr _ _) (one_cells rfl) (by omega) (by unfold maxLen; omega) (by omega) (by simp; omega) (wr.heap.size + 1) (by simp) ?_; intro gg cap w1 hown1 hgrow hat hltg; refine Hid.out ?_)
      refine Lib.hid ?_
      have hb1 : Below w.heap.size w w1 := (hb.alloc hbs _).grown hgrow (by simp; omega) (fun k hk => (hown.lt k hk).1)
      have htk : s.data.toList.take s.size = s.data.toList := List.take_of_length_le (by rw [Lib.size_eq]; exact Nat.le_refl _)
      have hq2 : quoteL s.data.toList = quoteTo (s.data.toList.take s.size) ++ [34] := by rw [htk]; rfl
      have hown2 := own_step hown1 hq2 rfl rfl
      have hln : (quoteTo (s.data.toList.take s.size)).length + 1 = (quoteL s.data.toList).length := by rw [hq2]; simp
      rw [← hln] at hown2
      have hcv := run_convert_bytes_back (P := Tryz.prog) w1 168 9 5 ⟨gg, 0, none⟩ cap (quoteL s.data.toList) Tryz.underlying168 Tryz.underlying5 Tryz.underlying9 (fun j hj => hown2.cells (g := gg) rfl j _ (by simp [Lib.byteCells, hj]))
      rw [← hln] at hcv
      clear hown2 hown1 hown hq2 hln htk
      go_wp2
      go_ret
      exact ⟨rfl, hb1⟩
end Go.Proofs.YtnbaemfkpfmheaaGreatDoor
