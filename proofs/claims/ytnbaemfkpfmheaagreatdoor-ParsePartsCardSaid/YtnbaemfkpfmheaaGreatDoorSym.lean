/-
  Contract of the document's own symbol: the bytes between the quotes, read loosely.
-/
import Derived.Test.YtnbaemfkpfmheaaGreatDoorWhole
import Derived.Test.YtnbaemfkpfmheaaGreatDoorUnq
import Derived.Deep.RegionWith
namespace Go.Proofs.YtnbaemfkpfmheaaGreatDoor
open Go Go.RowKit

theorem drop_at (s : ByteArray) (i : Nat) (h : i < s.size) : s.data.toList.drop i = s[i] :: s.data.toList.drop (i + 1) := by
  have hl : i < s.data.toList.length := by rw [← Lib.size_eq]; exact h
  rw [List.drop_eq_getElem_cons hl]
  rfl
theorem u8_ne_of {c d : UInt8} {n : Int} (hd : (d.toNat : Int) = n) (g : ((c.toNat : Int) != n) = true) : c ≠ d := by
  rintro rfl
  rw [hd] at g
  simp at g
theorem u8_is_of {c d : UInt8} {n : Int} (hd : (d.toNat : Int) = n) (g : ((c.toNat : Int) != n) = false) : c = d := by
  have g' : (c.toNat : Int) = n := by simpa using g
  apply UInt8.toNat_inj.1
  omega
theorem u8_off {c d : UInt8} {n : Int} (hd : (d.toNat : Int) = n) (g : ((c.toNat : Int) == n) = false) : c ≠ d := by
  rintro rfl
  rw [hd] at g
  simp at g
theorem one_plain (s : ByteArray) (i : Nat) (h : i < s.size) (g : ((s[i].toNat : Int) != 92) = true) : symOne (s.data.toList.drop i) = some (s[i], 1) := by
  rw [drop_at s i h]
  have hne := u8_ne_of (d := 92) rfl g
  simp [symOne, hne]
theorem one_none (s : ByteArray) (i : Nat) (h : i < s.size) (g : ((s[i].toNat : Int) != 92) = false) (h1 : ¬ i + 1 < s.size) : symOne (s.data.toList.drop i) = none := by
  rw [drop_at s i h, u8_is_of (d := 92) rfl g, List.drop_of_length_le (by rw [← Lib.size_eq]; omega)]
  rfl
theorem one_n (s : ByteArray) (i : Nat) (h : i + 1 < s.size) (g : ((s[i].toNat : Int) != 92) = false) (g1 : ((s[i + 1].toNat : Int) == 110) = true) : symOne (s.data.toList.drop i) = some (10, 2) := by
  rw [drop_at s i (by omega), u8_is_of (d := 92) rfl g, drop_at s (i + 1) h, u8_eq_of (d := 110) rfl g1]
  rfl
theorem one_t (s : ByteArray) (i : Nat) (h : i + 1 < s.size) (g : ((s[i].toNat : Int) != 92) = false) (g1 : ((s[i + 1].toNat : Int) == 116) = true) : symOne (s.data.toList.drop i) = some (9, 2) := by
  rw [drop_at s i (by omega), u8_is_of (d := 92) rfl g, drop_at s (i + 1) h, u8_eq_of (d := 116) rfl g1]
  rfl
theorem one_x (s : ByteArray) (i : Nat) (h : i + 3 < s.size) (g : ((s[i].toNat : Int) != 92) = false) (g1 : ((s[i + 1].toNat : Int) == 120) = true) (h2 : 0 ≤ hexR s[i + 2]) (h3 : 0 ≤ hexR s[i + 3]) : symOne (s.data.toList.drop i) = some (UInt8.ofNat (hexR s[i + 2] * 16 + hexR s[i + 3]).toNat, 4) := by
  rw [drop_at s i (by omega), u8_is_of (d := 92) rfl g, drop_at s (i + 1) (by omega), u8_eq_of (d := 120) rfl g1, drop_at s (i + 1 + 1) (by omega), drop_at s (i + 1 + 1 + 1) h]
  have e : (0 ≤ hexR (s[i + 1 + 1]'(by omega)) ∧ 0 ≤ hexR (s[i + 1 + 1 + 1]'h)) := ⟨h2, h3⟩
  simp only [symOne, ne_eq, not_true_eq_false, if_false, if_pos e]
  rfl
theorem one_d (s : ByteArray) (i : Nat) (h : i + 1 < s.size) (g : ((s[i].toNat : Int) != 92) = false) (g1 : ((s[i + 1].toNat : Int) == 110) = false) (g2 : ((s[i + 1].toNat : Int) == 116) = false)
    (hd : ((s[i + 1].toNat : Int) == 120) = false ∨ ¬ i + 3 < s.size ∨ ∃ h3 : i + 3 < s.size, ¬ 0 ≤ hexR (s[i + 2]'(by omega)) ∨ ¬ 0 ≤ hexR (s[i + 3]'h3)) : symOne (s.data.toList.drop i) = some (s[i + 1], 2) := by
  rw [drop_at s i (by omega), u8_is_of (d := 92) rfl g, drop_at s (i + 1) h]
  simp only [symOne, ne_eq, not_true_eq_false, if_false, if_neg (u8_off (d := 110) rfl g1), if_neg (u8_off (d := 116) rfl g2)]
  split
  · rename_i hx
    rcases hd with hd | hd | ⟨h3, hd⟩
    · exact absurd hx (u8_off (d := 120) rfl hd)
    · have hl : (s.data.toList.drop (i + 1 + 1)).length < 2 := by rw [List.length_drop, ← Lib.size_eq]; omega
      match hq : s.data.toList.drop (i + 1 + 1), hl with
      | [], _ => rfl
      | [_], _ => rfl
    · rw [drop_at s (i + 1 + 1) (by omega), drop_at s (i + 1 + 1 + 1) h3]
      have e : ¬ (0 ≤ hexR (s[i + 1 + 1]'(by omega)) ∧ 0 ≤ hexR (s[i + 1 + 1 + 1]'h3)) := fun ⟨a, b⟩ => hd.elim (fun x => x a) (fun x => x b)
      simp only [if_neg e]
  · rfl

/-- Behind the first i bytes, which spell acc. -/
def SymAt (s : ByteArray) (i : Nat) (acc : List UInt8) : Prop := ∃ f, (s.data.toList.drop i).length ≤ f ∧ symL s.data.toList = symGo f acc (s.data.toList.drop i)
theorem SymAt.start {s : ByteArray} (h : 2 ≤ s.size) (g : ((s[0].toNat : Int) != 34) = false) : SymAt s 1 [] := by
  refine ⟨s.data.toList.length, by simp, ?_⟩
  unfold symL
  rw [if_neg, List.drop_one]
  rintro (e | e)
  · rw [← Lib.size_eq] at e
    omega
  · rw [head_at (s := s) (by omega), u8_is_of (d := 34) rfl g] at e
    exact e rfl
theorem sym_no {s : ByteArray} (h : s.size < 2 ∨ ∃ h0 : 0 < s.size, ((s[0].toNat : Int) != 34) = true) : symL s.data.toList = ([], false) := by
  unfold symL
  rw [if_pos]
  rcases h with h | ⟨h0, h⟩
  · left
    rw [← Lib.size_eq]; exact h
  · right
    rw [head_at h0]
    intro e
    exact u8_ne_of (d := 34) rfl h (by simpa using e)
theorem SymAt.bad {s : ByteArray} {i : Nat} {acc : List UInt8} (h : SymAt s i acc) (hi : i < s.size) (g : ((s[i].toNat : Int) != 34) = true) (hn : symOne (s.data.toList.drop i) = none) : symL s.data.toList = ([], false) := by
  obtain ⟨f, hf, e⟩ := h
  rw [drop_at s i hi] at hf e hn
  cases f with
  | zero => simp at hf
  | succ f =>
    rw [e]
    unfold symGo
    rw [if_neg (u8_ne_of (d := 34) rfl g), hn]
theorem SymAt.quote {s : ByteArray} {i : Nat} {acc : List UInt8} (h : SymAt s i acc) (hi : i < s.size) (g : ((s[i].toNat : Int) != 34) = false) : symL s.data.toList = (acc, decide (i + 1 = s.size)) := by
  obtain ⟨f, hf, e⟩ := h
  rw [drop_at s i hi] at hf e
  cases f with
  | zero => simp at hf
  | succ f =>
    rw [e]
    unfold symGo
    rw [if_pos (u8_is_of (d := 34) rfl g)]
    congr 1
    rw [Bool.eq_iff_iff]
    simp only [List.isEmpty_iff, List.drop_eq_nil_iff, decide_eq_true_eq, ← Lib.size_eq]
    omega
theorem SymAt.end_ {s : ByteArray} {i : Nat} {acc : List UInt8} (h : SymAt s i acc) (hi : i = s.size) : symL s.data.toList = (acc, false) := by
  obtain ⟨f, hf, e⟩ := h
  rw [List.drop_of_length_le (by rw [← Lib.size_eq]; omega)] at e
  rw [e]
  cases f <;> rfl
theorem SymAt.step {s : ByteArray} {i n : Nat} {acc : List UInt8} {x : UInt8} (h : SymAt s i acc) (hi : i < s.size) (g : ((s[i].toNat : Int) != 34) = true) (hn : symOne (s.data.toList.drop i) = some (x, n)) (h1 : 1 ≤ n) : SymAt s (i + n) (acc ++ [x]) := by
  obtain ⟨f, hf, e⟩ := h
  have hdd : (s.data.toList.drop i).drop n = s.data.toList.drop (i + n) := List.drop_drop
  rw [drop_at s i hi] at hf e hn hdd
  cases f with
  | zero => simp at hf
  | succ f =>
    refine ⟨f, ?_, ?_⟩
    · rw [← hdd, List.length_drop]
      simp at hf ⊢
      omega
    · rw [e, ← hdd]
      conv => lhs; unfold symGo
      rw [if_neg (u8_ne_of (d := 34) rfl g), hn]

/-- What holds at the head of a round. -/
def SymRel (s : ByteArray) (w : World) (v y : Value) (wr : World) : Prop :=
  ∃ (i : Nat) (acc : List UInt8), 1 ≤ i ∧ i ≤ s.size ∧ y = .int .i64 i ∧ wr.ownsRow w.heap.size 5 1 v acc.length (Lib.byteCells acc) ∧ SymAt s i acc ∧ acc.length ≤ i ∧ Below w.heap.size w wr
theorem SymRel.on {s : ByteArray} {w wr w3 : World} {v : Value} {i n : Nat} {acc : List UInt8} {x : UInt8} {z : Int} {y : Value} (hn : i + n ≤ s.size) (h1 : 1 ≤ n) (hy : y = .int .i64 ((i : Int) + n)) (hz : z = (x.toNat : Int)) (hal : acc.length ≤ i)
    (hown : w3.ownsRow w.heap.size 5 1 v (acc.length + 1) (Lib.byteCells acc ++ [.int .u8 z])) (hs : SymAt s (i + n) (acc ++ [x])) (hb : Below w.heap.size w w3) (_ : Below w.heap.size w wr) : SymRel s w v y w3 := by
  refine ⟨i + n, acc ++ [x], by omega, hn, ?_, ?_, hs, ?_, hb⟩
  · rw [hy]; go_num
  · subst hz
    exact own_step hown rfl (by simp) (by simp [Lib.byteCells])
  · simp; omega
/-- What the document's symbol answers. -/
def SymEnd (s : ByteArray) (w : World) (e : Ending) (w' : World) : Prop := e = .returned (.tuple #[.string ⟨(symL s.data.toList).1.toArray⟩, .bool (symL s.data.toList).2]) ∧ Below w.heap.size w w'
theorem SymEnd.mk_ {s : ByteArray} {w w' : World} {l : List UInt8} {b b' : Bool} (h : symL s.data.toList = (l, b)) (hbb : b' = b) (hb : Below w.heap.size w w') : SymEnd s w (.returned (.tuple #[.string ⟨l.toArray⟩, .bool b'])) w' := by
  unfold SymEnd
  rw [h, hbb]
  exact ⟨rfl, hb⟩
theorem last_is (i n : Nat) : ((i : Int) == (n : Int) - 1) = decide (i + 1 = n) := by
  rw [Bool.eq_iff_iff]
  simp
  omega
theorem last_not (n : Nat) : ((n : Int) == (n : Int) - 1) = false := by
  rw [beq_eq_false_iff_ne]
  omega

set_option maxHeartbeats 4000000 in
set_option maxRecDepth 100000 in
theorem symbol_any (s : ByteArray) (w : World) (hm : s.size ≤ 1000000) :
    Calls Tryz.prog 117 #[.string s] w (SymEnd s w) := by
  obtain ⟨i0, hi, hz0, hz1, hz2⟩ := info_parts Tryz.infoByte
  by_cases h2 : 2 ≤ s.size
  case neg =>
    have h2' : (s.size : Int) < 2 := by omega
    have HN := Lib.hid (sym_no (s := s) (.inl (by omega)))
    go_enter Tryz.func117, Tryz.ntmps117
    go_wp2_with fail
    go_ret2
    exact SymEnd.mk_ HN.out rfl (Below.refl _ _)
  have h2' : (2 : Int) ≤ (s.size : Int) := by omega
  cases hq0 : ((s[0].toNat : Int) != 34) with
  | true =>
    have HN := Lib.hid (sym_no (s := s) (.inr ⟨by omega, hq0⟩))
    go_enter Tryz.func117, Tryz.ntmps117
    go_wp2_with fail
    go_ret2
    exact SymEnd.mk_ HN.out rfl (Below.refl _ _)
  | false =>
    have HS := Lib.hid (SymAt.start h2 hq0)
    go_enter Tryz.func117, Tryz.ntmps117
    go_wp2_with fail
    go_loopw [4, 5] (fun v y wr => SymRel s w v y wr) (fun _ y _ => s.size - (intOf y).toNat)
    case atStart => exact ⟨1, [], by omega, by omega, rfl, World.ownsRow_nil _ _ _ _, HS.out, by simp, Below.refl _ _⟩
    case round =>
      clear HS hq0
      obtain ⟨i, acc, hi1, hi2, rfl, hown, hsp, hal, hb⟩ := hrel
      have HA := Lib.hid hsp
      clear hsp
      have hbs : w.heap.size ≤ wr.heap.size := hb.size
      have h0 : (0 : Int) ≤ (i : Int) := by omega
      by_cases hlt : i < s.size
      · have hlt' : (i : Int) < (s.size : Int) := by omega
        cases h34 : ((s[i].toNat : Int) != 34) with
        | false =>
          have HE := Lib.hid (HA.out.quote hlt h34)
          have HL := Lib.hid (last_is i s.size)
          rcases hown.2 with ⟨rfl, hnil⟩ | ⟨g, cap, cur, rfl, -, -, -, -, -, -⟩
          · have ha : acc = [] := by
              cases acc with
              | nil => rfl
              | cons c r => simp at hnil
            subst ha
            have hcv := Lib.run_convert_nil_bytes (P := Tryz.prog) wr 168 9 5 0 Tryz.underlying168 Tryz.underlying5 Tryz.underlying9
            clear hown hnil
            go_wp2
            go_ret2
            exact SymEnd.mk_ HE.out HL.out hb
          · have hcv := run_convert_bytes_back (P := Tryz.prog) wr 168 9 5 ⟨g, 0, none⟩ cap acc Tryz.underlying168 Tryz.underlying5 Tryz.underlying9 (fun j hj => hown.cells (g := g) rfl j _ (by simp [Lib.byteCells, hj]))
            clear hown
            go_wp2
            go_ret2
            exact SymEnd.mk_ HE.out HL.out hb
        | true =>
          cases h92 : ((s[i].toNat : Int) != 92) with
          | true =>
            have HO := Lib.hid (HA.out.step hlt h34 (one_plain s i hlt h92) (Nat.le_refl _))
            go_wp2_with (at_builtin; refine wpList_append_own _ rfl (.tmp 38) (.tmp 42) 168 rfl w.heap.size 5 i0 (.int .u8 0) 1 1 Tryz.underlying168 hi hz0 hz1 hz2 rfl (by decide) _ _ _ rfl (hown.alloc _) ⟨wr.heap.size, 0, none⟩ 1 1 [.int .u8 s[i].toNat] rfl rfl (lit_cells wr _ _) (one_cells rfl) (by unfold maxLen; omega) (by omega) (by simp; omega) ?_; intro v' w3 hown' hgrow _)
            have hb3 : Below w.heap.size w w3 := (hb.alloc hbs _).grown hgrow (by simp; omega) (fun k hk => (hown.lt k hk).1)
            go_roundw
            case rel => exact SymRel.on (n := 1) (x := s[i]) (by omega) (by omega) rfl rfl hal hown' HO.out hb3 hb
            case measure => simp [intOf]; omega
          | false =>
            by_cases hl1 : i + 1 < s.size
            · have hl1' : (i : Int) + 1 < (s.size : Int) := by omega
              cases hn : ((s[i + 1].toNat : Int) == 110) with
              | true =>
                have HO := Lib.hid (HA.out.step hlt h34 (one_n s i hl1 h92 hn) (by omega))
                go_wp2_with (at_builtin; refine wpList_append_own _ rfl (.tmp 58) (.tmp 59) 168 rfl w.heap.size 5 i0 (.int .u8 0) 1 1 Tryz.underlying168 hi hz0 hz1 hz2 rfl (by decide) _ _ _ rfl (hown.alloc _) ⟨wr.heap.size, 0, none⟩ 1 1 [.int .u8 10] rfl rfl (lit_cells wr _ _) (one_cells rfl) (by unfold maxLen; omega) (by omega) (by simp; omega) ?_; intro v' w3 hown' hgrow _)
                have hb3 : Below w.heap.size w w3 := (hb.alloc hbs _).grown hgrow (by simp; omega) (fun k hk => (hown.lt k hk).1)
                go_roundw
                case rel => exact SymRel.on (n := 2) (x := 10) (by omega) (by omega) rfl rfl hal hown' HO.out hb3 hb
                case measure => simp [intOf]; omega
              | false =>
                cases ht : ((s[i + 1].toNat : Int) == 116) with
                | true =>
                  have HO := Lib.hid (HA.out.step hlt h34 (one_t s i hl1 h92 ht) (by omega))
                  go_wp2_with (at_builtin; refine wpList_append_own _ rfl (.tmp 69) (.tmp 70) 168 rfl w.heap.size 5 i0 (.int .u8 0) 1 1 Tryz.underlying168 hi hz0 hz1 hz2 rfl (by decide) _ _ _ rfl (hown.alloc _) ⟨wr.heap.size, 0, none⟩ 1 1 [.int .u8 9] rfl rfl (lit_cells wr _ _) (one_cells rfl) (by unfold maxLen; omega) (by omega) (by simp; omega) ?_; intro v' w3 hown' hgrow _)
                  have hb3 : Below w.heap.size w w3 := (hb.alloc hbs _).grown hgrow (by simp; omega) (fun k hk => (hown.lt k hk).1)
                  go_roundw
                  case rel => exact SymRel.on (n := 2) (x := 9) (by omega) (by omega) rfl rfl hal hown' HO.out hb3 hb
                  case measure => simp [intOf]; omega
                | false =>
                  cases hx : ((s[i + 1].toNat : Int) == 120) with
                  | false =>
                    have HO := Lib.hid (HA.out.step hlt h34 (one_d s i hl1 h92 hn ht (.inl hx)) (by omega))
                    go_wp2_with (at_builtin; refine wpList_append_own _ rfl (.tmp 24) (.tmp 29) 168 rfl w.heap.size 5 i0 (.int .u8 0) 1 1 Tryz.underlying168 hi hz0 hz1 hz2 rfl (by decide) _ _ _ rfl (hown.alloc _) ⟨wr.heap.size, 0, none⟩ 1 1 [.int .u8 s[i + 1].toNat] rfl rfl (lit_cells wr _ _) (one_cells rfl) (by unfold maxLen; omega) (by omega) (by simp; omega) ?_; intro v' w3 hown' hgrow _)
                    have hb3 : Below w.heap.size w w3 := (hb.alloc hbs _).grown hgrow (by simp; omega) (fun k hk => (hown.lt k hk).1)
                    go_roundw
                    case rel => exact SymRel.on (n := 2) (x := s[i + 1]) (by omega) (by omega) rfl rfl hal hown' HO.out hb3 hb
                    case measure => simp [intOf]; omega
                  | true =>
                    by_cases hl3 : i + 3 < s.size
                    · have hl3' : (i : Int) + 3 < (s.size : Int) := by omega
                      by_cases hd2 : 0 ≤ hexR s[i + 2]
                      · by_cases hd3 : 0 ≤ hexR s[i + 3]
                        · have HO := Lib.hid (HA.out.step hlt h34 (one_x s i hl3 h92 hx hd2 hd3) (by omega))
                          have hl2' : (i : Int) + 2 < (s.size : Int) := by omega
                          have hp2 : (0 : Int) ≤ (i : Int) + 2 := by omega
                          have hp3 : (0 : Int) ≤ (i : Int) + 3 := by omega
                          have b2 := hexR_lt s[i + 2]
                          have b3 := hexR_lt s[i + 3]
                          have e1 : IntKind.i64.wrap (hexR s[i + 2] * 16) = hexR s[i + 2] * 16 := IntWalk.i64_in _ (by omega)
                          have e2 : IntKind.i64.wrap (hexR s[i + 2] * 16 + hexR s[i + 3]) = hexR s[i + 2] * 16 + hexR s[i + 3] := IntWalk.i64_in _ (by omega)
                          have e3 : IntKind.u8.wrap (hexR s[i + 2] * 16 + hexR s[i + 3]) = hexR s[i + 2] * 16 + hexR s[i + 3] := wrap_u8_in (by omega) (by omega)
                          have e4 : Hid (hexR s[i + 2] * 16 + hexR s[i + 3] = ((UInt8.ofNat (hexR s[i + 2] * 16 + hexR s[i + 3]).toNat).toNat : Int)) := Lib.hid (by rw [UInt8.toNat_ofNat']; omega)
                          go_wp2_with (go_at_call 122; refine (digit_any _ _).mono ?_; rintro e w1 ⟨rfl, rfl⟩)
                          have o1 : 0 < 1 := by omega
                          have o2 : acc.length + 1 ≤ maxLen := by unfold maxLen; omega
                          have o3 : (acc.length + 1) * 1 ≤ 140737488355328 := by omega
                          have o4 : w.heap.size ≤ (wr.alloc (.cells #[.int .u8 (hexR s[i + 2] * 16 + hexR s[i + 3])] 5)).drew.heap.size := by simp; omega
                          have w2 : IntKind.i64.wrap ((i : Int) + 2) = (i : Int) + 2 := IntWalk.i64_in _ (by omega)
                          have w3 : IntKind.i64.wrap ((i : Int) + 3) = (i : Int) + 3 := IntWalk.i64_in _ (by omega)
                          have n2 : ((i : Int) + 2).toNat = i + 2 := by omega
                          have n3 : ((i : Int) + 3).toNat = i + 3 := by omega
                          go_region_held3 (fun _ => True) (exact trivial) ((first
                            | (go_at_call 122; refine (digit_any _ _).mono ?_; rintro e w1 ⟨rfl, rfl⟩)
                            | (refine step_append_lies _ (by rfl) _ _ _ (by rfl) w.heap.size 5 i0 (.int .u8 0) 1 1 Tryz.underlying168 hi hz0 hz1 hz2 rfl (by decide) _ _ _ (by rfl) ((hown.alloc _).drew) ⟨wr.heap.size, 0, none⟩ 1 1 [.int .u8 (hexR s[i + 2] * 16 + hexR s[i + 3])] (by rfl) (by rfl) (lit_cells wr _ _) (one_cells rfl) o1 o2 o3 o4 (wr.heap.size + 1) (by simp) ?_; intro gg cap w4 hown' hgrow hat hlt3)))
                          try clear w2
                          try clear w3
                          try clear n2
                          try clear n3
                          all_goals
                            have hb3 : Below w.heap.size w w4 := ((hb.alloc hbs _).drew).grown hgrow (by simp; omega) (fun k hk => (hown.lt k hk).1)
                            go_wp2_with fail
                            go_roundw
                            case rel => exact SymRel.on (n := 4) (x := UInt8.ofNat (hexR s[i + 2] * 16 + hexR s[i + 3]).toNat) (by omega) (by omega) rfl e4.out hal hown' HO.out hb3 hb
                            case measure => simp [intOf]; omega
                        · have hd3' : hexR s[i + 3] < 0 := by omega
                          have HO := Lib.hid (HA.out.step hlt h34 (one_d s i hl1 h92 hn ht (.inr (.inr ⟨hl3, .inr hd3⟩))) (by omega))
                          go_wp2_with (first | (go_at_call 122; refine (digit_any _ _).mono ?_; rintro e w1 ⟨rfl, rfl⟩) | (at_builtin; refine wpList_append_own _ rfl (.tmp 24) (.tmp 29) 168 rfl w.heap.size 5 i0 (.int .u8 0) 1 1 Tryz.underlying168 hi hz0 hz1 hz2 rfl (by decide) _ _ _ rfl (hown.alloc _) ⟨wr.heap.size, 0, none⟩ 1 1 [.int .u8 s[i + 1].toNat] rfl rfl (lit_cells wr _ _) (one_cells rfl) (by unfold maxLen; omega) (by omega) (by simp; omega) ?_; intro v' w3 hown' hgrow _))
                          have hb3 : Below w.heap.size w w3 := (hb.alloc hbs _).grown hgrow (by simp; omega) (fun k hk => (hown.lt k hk).1)
                          go_roundw
                          case rel => exact SymRel.on (n := 2) (x := s[i + 1]) (by omega) (by omega) rfl rfl hal hown' HO.out hb3 hb
                          case measure => simp [intOf]; omega
                      · have hd2' : hexR s[i + 2] < 0 := by omega
                        have HO := Lib.hid (HA.out.step hlt h34 (one_d s i hl1 h92 hn ht (.inr (.inr ⟨hl3, .inl hd2⟩))) (by omega))
                        go_wp2_with (first | (go_at_call 122; refine (digit_any _ _).mono ?_; rintro e w1 ⟨rfl, rfl⟩) | (at_builtin; refine wpList_append_own _ rfl (.tmp 24) (.tmp 29) 168 rfl w.heap.size 5 i0 (.int .u8 0) 1 1 Tryz.underlying168 hi hz0 hz1 hz2 rfl (by decide) _ _ _ rfl (hown.alloc _) ⟨wr.heap.size, 0, none⟩ 1 1 [.int .u8 s[i + 1].toNat] rfl rfl (lit_cells wr _ _) (one_cells rfl) (by unfold maxLen; omega) (by omega) (by simp; omega) ?_; intro v' w3 hown' hgrow _))
                        have hb3 : Below w.heap.size w w3 := (hb.alloc hbs _).grown hgrow (by simp; omega) (fun k hk => (hown.lt k hk).1)
                        go_roundw
                        case rel => exact SymRel.on (n := 2) (x := s[i + 1]) (by omega) (by omega) rfl rfl hal hown' HO.out hb3 hb
                        case measure => simp [intOf]; omega
                    · have hl3' : (s.size : Int) ≤ (i : Int) + 3 := by omega
                      have HO := Lib.hid (HA.out.step hlt h34 (one_d s i hl1 h92 hn ht (.inr (.inl hl3))) (by omega))
                      go_wp2_with (at_builtin; refine wpList_append_own _ rfl (.tmp 24) (.tmp 29) 168 rfl w.heap.size 5 i0 (.int .u8 0) 1 1 Tryz.underlying168 hi hz0 hz1 hz2 rfl (by decide) _ _ _ rfl (hown.alloc _) ⟨wr.heap.size, 0, none⟩ 1 1 [.int .u8 s[i + 1].toNat] rfl rfl (lit_cells wr _ _) (one_cells rfl) (by unfold maxLen; omega) (by omega) (by simp; omega) ?_; intro v' w3 hown' hgrow _)
                      have hb3 : Below w.heap.size w w3 := (hb.alloc hbs _).grown hgrow (by simp; omega) (fun k hk => (hown.lt k hk).1)
                      go_roundw
                      case rel => exact SymRel.on (n := 2) (x := s[i + 1]) (by omega) (by omega) rfl rfl hal hown' HO.out hb3 hb
                      case measure => simp [intOf]; omega
            · have hl1' : (s.size : Int) ≤ (i : Int) + 1 := by omega
              have HE := Lib.hid (HA.out.bad hlt h34 (one_none s i hlt h92 hl1))
              go_wp2_with fail
              go_ret2
              exact SymEnd.mk_ HE.out rfl hb
      · obtain rfl : i = s.size := by omega
        have HE := Lib.hid (HA.out.end_ rfl)
        have HL := Lib.hid (last_not s.size)
        rcases hown.2 with ⟨rfl, hnil⟩ | ⟨g, cap, cur, rfl, -, -, -, -, -, -⟩
        · have ha : acc = [] := by
            cases acc with
            | nil => rfl
            | cons c r => simp at hnil
          subst ha
          have hcv := Lib.run_convert_nil_bytes (P := Tryz.prog) wr 168 9 5 0 Tryz.underlying168 Tryz.underlying5 Tryz.underlying9
          clear hown hnil
          go_wp2
          go_ret2
          exact SymEnd.mk_ HE.out HL.out hb
        · have hcv := run_convert_bytes_back (P := Tryz.prog) wr 168 9 5 ⟨g, 0, none⟩ cap acc Tryz.underlying168 Tryz.underlying5 Tryz.underlying9 (fun j hj => hown.cells (g := g) rfl j _ (by simp [Lib.byteCells, hj]))
          clear hown
          go_wp2
          go_ret2
          exact SymEnd.mk_ HE.out HL.out hb
end Go.Proofs.YtnbaemfkpfmheaaGreatDoor
