/-
  Contract of value.Text: a value's text, for every value; the package-level variables that the library reads hold what they hold ('Glob').
-/
import Derived.Test.YtnbaemfkpfmheaaGreatDoorVal
import Derived.Test.YtnbaemfkpfmheaaGreatDoorQuote
import Derived.Test.YtnbaemfkpfmheaaGreatDoorShelf
import Derived.Lib.LaidTab
import Derived.Test.YtnbaemfkpfmheaaGreatDoorLxP
namespace Go.Proofs.YtnbaemfkpfmheaaGreatDoor
open Go Go.RowKit

/-- An int64. -/
def I64 (n : Int) : Prop := -9223372036854775808 ≤ n ∧ n ≤ 9223372036854775807
/-- The table of letters. -/
def letTab : List Int := [0, 0, 0, 0, 0, 0, 0, 0, 0, 0, 0, 0, 0, 0, 0, 0, 0, 0, 0, 0, 0, 0, 0, 0, 0, 0, 0, 0, 0, 0, 0, 0, 0, 0, 0, 0, 0, 0, 0, 0, 0, 0, 0, 0, 0, 0, 0, 0, 4, 4, 4, 4, 4, 4, 4, 4, 4, 4, 0, 0, 0, 0, 0, 0, 0, 2, 2, 2, 2, 2, 2, 2, 2, 2, 2, 2, 2, 2, 2, 2, 2, 2, 2, 2, 2, 2, 2, 2, 2, 2, 2, 0, 0, 0, 0, 8, 0, 1, 1, 1, 1, 1, 1, 1, 1, 1, 1, 1, 1, 1, 1, 1, 1, 1, 1, 1, 1, 1, 1, 1, 1, 1, 1]
theorem letTab_cls : ∀ i : Fin 123, letTab.getD i.val 0 = (cls (UInt8.ofNat i.val) : Int) := by decide
/-- The library's variables that are read hold what their initialisers laid. -/
structure Glob (w : World) : Prop where
  tab : Lib.TabIs Tryz.prog w "internal/strconv.uint64pow10" .u64 Lib.pow10Tab
  syn : ∃ tp p, w.var? Tryz.prog "strconv.ErrSyntax" = some #[.iface tp p]
  rng : ∃ tp p, w.var? Tryz.prog "strconv.ErrRange" = some #[.iface tp p]
  lett : Lib.TabIs Tryz.prog w "pedigree/lex.letters" .u8 letTab
  big : 6 ≤ w.heap.size
theorem gTab : Tryz.prog.globalNamed "internal/strconv.uint64pow10" = some 3 := by kernel_rfl
theorem gSyn : Tryz.prog.globalNamed "strconv.ErrSyntax" = some 1 := by kernel_rfl
theorem gRng : Tryz.prog.globalNamed "strconv.ErrRange" = some 2 := by kernel_rfl
theorem gLet : Tryz.prog.globalNamed "pedigree/lex.letters" = some 0 := by kernel_rfl
theorem Glob.below {w w' : World} (h : Glob w) (hb : Below w.heap.size w w') : Glob w' := by
  have hB := h.big
  obtain ⟨tp, p, hs⟩ := h.syn
  obtain ⟨tq, q, hr⟩ := h.rng
  exact ⟨var?_below hb gTab (by omega) h.tab, ⟨tp, p, var?_below hb gSyn (by omega) hs⟩, ⟨tq, q, var?_below hb gRng (by omega) hr⟩, var?_below hb gLet (by omega) h.lett, by have := hb.size; omega⟩
theorem below_grow (w : World) (k : Nat) (os : Array Obj) : Below w.heap.size w (Sort.grow (w.drewN k) os) :=
  ⟨rfl, rfl, rfl, by show w.heap.size ≤ (w.heap ++ os).size; rw [Array.size_append]; omega, fun j hj => Array.getElem?_append_left hj⟩

/-- A value's text. -/
def textL (k n : Int) (s : ByteArray) : List UInt8 := if k = 1 then Lib.itoa n else quoteL s.data.toList
def textS (k n : Int) (s : ByteArray) : ByteArray := ⟨(textL k n s).toArray⟩

set_option maxHeartbeats 400000 in
theorem text_yes (k n : Int) (s : ByteArray) (w : World) (h : IsV k n s) (hI : I64 n) (G : Glob w) :
    Calls Tryz.prog 121 #[.agg #[.int .i64 k, .int .i64 n, .string s]] w fun e w' => e = .returned (.tuple #[.string (textS k n s), .int .i64 0]) ∧ Below w.heap.size w w' := by
  have h' := h
  rcases h' with ⟨rfl, _⟩ | ⟨rfl, rfl, hs⟩
  · go_enter Tryz.func121, Tryz.ntmps121
    go_wp2_with (first | (go_at_call 128; refine (check_yes _ _ _ _ h).mono ?_; rintro e w1 ⟨rfl, hb⟩; obtain ⟨hc, hf⟩ := bcell hb; have hz : w.heap.size < w1.heap.size := by have := hb.size; simp at this; omega) | (go_at_call 129; refine (Tryz.strconv_FormatInt_10 n hI.1 hI.2 _ (G.below (below_then hb)).tab).mono ?_; rintro e w2 ⟨rfl, q, os, rfl⟩))
    go_ret2
    exact ⟨rfl, (below_then hb).trans ((below_grow _ _ _).mono (by omega))⟩
  · go_enter Tryz.func121, Tryz.ntmps121
    go_wp2_with (first | (go_at_call 128; refine (check_yes _ _ _ _ h).mono ?_; rintro e w1 ⟨rfl, hb⟩; obtain ⟨hc, hf⟩ := bcell hb; have hz : w.heap.size < w1.heap.size := by have := hb.size; simp at this; omega) | (go_at_call 130; refine (quote_any s _ hs).mono ?_; rintro e w2 ⟨rfl, hb2⟩))
    go_ret2
    exact ⟨rfl, (below_then hb).trans (hb2.mono (by omega))⟩
set_option maxHeartbeats 400000 in
theorem text_no (k n : Int) (s : ByteArray) (w : World) (h : ¬ IsV k n s) :
    Calls Tryz.prog 121 #[.agg #[.int .i64 k, .int .i64 n, .string s]] w fun e w' => e = .returned (.tuple #[.string ⟨#[]⟩, .int .i64 10]) ∧ Below w.heap.size w w' := by
  go_enter Tryz.func121, Tryz.ntmps121
  go_wp2_with (go_at_call 128; refine (check_no _ _ _ _ h).mono ?_; rintro e w1 ⟨rfl, hb⟩; obtain ⟨hc, hf⟩ := bcell hb; have hz : w.heap.size < w1.heap.size := by have := hb.size; simp at this; omega)
  go_ret2
  exact ⟨rfl, below_then hb⟩

end Go.Proofs.YtnbaemfkpfmheaaGreatDoor
