/-
  Contract of value.unquote: the bytes that stand between the quotes, their escapes undone.
-/
import Derived.Test.YtnbaemfkpfmheaaGreatDoorUnesc
import Derived.Test.YtnbaemfkpfmheaaGreatDoorRtext
import Derived.Deep.AppendLies
import Derived.OwnWalk
import Derived.Laws.OwnMore
import Derived.Lib.BufferRead
namespace Go.Proofs.YtnbaemfkpfmheaaGreatDoor
open Go Go.RowKit

theorem unesc_suffix : ∀ (l : List UInt8) (x : UInt8) (r1 : List UInt8), unescL l = some (x, r1) → ∃ n, 1 ≤ n ∧ n ≤ l.length ∧ r1 = l.drop n
  | [], _, _, h => by simp [unescL] at h
  | c :: r, x, r1, h => by
    by_cases hc : c = 92
    · subst hc
      cases r with
      | nil => simp [unescL] at h
      | cons d q =>
        by_cases h1 : d = 34 ∨ d = 92
        · simp [unescL, h1] at h
          exact ⟨2, by omega, by simp, h.2.symm⟩
        · by_cases h2 : d = 110
          · subst h2
            simp [unescL] at h
            exact ⟨2, by omega, by simp, h.2.symm⟩
          · by_cases h3 : d = 116
            · subst h3
              simp [unescL] at h
              exact ⟨2, by omega, by simp, h.2.symm⟩
            · by_cases h4 : d = 120
              · subst h4
                match q, h with
                | [], h => simp [unescL] at h
                | [_], h => simp [unescL] at h
                | a :: b :: q2, h =>
                  cases ha : hexV a with
                  | none => simp [unescL, ha] at h
                  | some u =>
                    cases hb : hexV b with
                    | none => simp [unescL, ha, hb] at h
                    | some v =>
                      simp [unescL, ha, hb] at h
                      exact ⟨4, by omega, by simp, h.2.symm⟩
              · simp [unescL, h1, h2, h3, h4] at h
    · simp [unescL, hc] at h
      exact ⟨1, by omega, by simp, h.2.symm⟩
theorem unescN_none {l : List UInt8} (h : unescL l = none) : unescN l = (0, 0) := by unfold unescN; rw [h]
theorem unescN_some {l : List UInt8} {x : UInt8} {n : Nat} (h : unescL l = some (x, l.drop n)) (hn : n ≤ l.length) : unescN l = ((x.toNat : Int), (n : Int)) := by
  unfold unescN
  rw [h]
  simp only [List.length_drop]
  rw [show l.length - (l.length - n) = n by omega]

/-- What stands from i to the last byte. -/
def midL (s : ByteArray) (i : Nat) : List UInt8 := (s.extract i (s.size - 1)).data.toList
theorem midL_len (s : ByteArray) (i : Nat) : (midL s i).length = s.size - 1 - i := by
  unfold midL
  rw [← Lib.size_eq, ByteArray.size_extract]
  omega
theorem midL_drop (s : ByteArray) (i n : Nat) : (midL s i).drop n = midL s (i + n) := by
  unfold midL
  rw [Lib.extract_data, Lib.extract_data, List.drop_take, List.drop_drop]
  congr 1
  omega
/-- What the text spells: none if it is not quoted, or holds what is no escape. -/
def unqL (s : ByteArray) : Option (List UInt8) := if s.size < 2 ∨ s.data.toList.getD (s.size - 1) 0 ≠ 34 then none else bodyL s.size (midL s 1)
/-- How far the reading has come: behind i bytes acc is spelled. -/
def Spelled (s : ByteArray) (i : Nat) (acc : List UInt8) : Prop := ∃ f, s.size - 1 - i ≤ f ∧ bodyL s.size (midL s 1) = (bodyL f (midL s i)).map (acc ++ ·)
theorem Spelled.start (s : ByteArray) : Spelled s 1 [] := ⟨s.size, by omega, by cases bodyL s.size (midL s 1) <;> rfl⟩
theorem Spelled.end_ {s : ByteArray} {acc : List UInt8} {i : Nat} (h : Spelled s i acc) (hi : s.size - 1 ≤ i) : bodyL s.size (midL s 1) = some acc := by
  obtain ⟨f, -, e⟩ := h
  have hm : midL s i = [] := List.eq_nil_of_length_eq_zero (by rw [midL_len]; omega)
  rw [hm] at e
  rw [e]
  cases f <;> simp [bodyL]
theorem Spelled.bad {s : ByteArray} {acc : List UInt8} {i : Nat} (h : Spelled s i acc) (hi : i < s.size - 1) (hn : unescL (midL s i) = none) : bodyL s.size (midL s 1) = none := by
  obtain ⟨f, hf, e⟩ := h
  have hl := midL_len s i
  cases hm : midL s i with
  | nil => rw [hm] at hl; simp at hl; omega
  | cons c r =>
    rw [hm] at e hn
    cases f with
    | zero => omega
    | succ f =>
      rw [e]
      unfold bodyL
      rw [hn]
      rfl
theorem Spelled.step {s : ByteArray} {acc : List UInt8} {i n : Nat} {x : UInt8} (h : Spelled s i acc) (hi : i < s.size - 1) (hn : unescL (midL s i) = some (x, (midL s i).drop n)) (h1 : 1 ≤ n) : Spelled s (i + n) (acc ++ [x]) := by
  obtain ⟨f, hf, e⟩ := h
  have hl := midL_len s i
  rw [midL_drop] at hn
  cases hm : midL s i with
  | nil => rw [hm] at hl; simp at hl; omega
  | cons c r =>
    rw [hm] at e hn
    cases f with
    | zero => omega
    | succ f =>
      refine ⟨f, by omega, ?_⟩
      rw [e]
      conv => lhs; unfold bodyL
      rw [hn]
      simp only [Option.map_map]
      congr 1
      funext y
      simp

theorem getD_at (s : ByteArray) (i : Nat) (h : i < s.size) : s.data.toList.getD i 0 = s[i] := by
  have hl : i < s.data.toList.length := by rw [← Lib.size_eq]; exact h
  rw [List.getD_eq_getElem?_getD, List.getElem?_eq_getElem hl]
  rfl
theorem last_ne {s : ByteArray} (h : s.size - 1 < s.size) (g : (((s[s.size - 1]'h).toNat : Int) != 34) = true) : s.data.toList.getD (s.size - 1) 0 ≠ 34 := by
  rw [getD_at s _ h]
  intro e
  rw [e] at g
  simp at g
theorem last_eq {s : ByteArray} (h : s.size - 1 < s.size) (g : (((s[s.size - 1]'h).toNat : Int) != 34) = false) : s.data.toList.getD (s.size - 1) 0 = 34 := by
  rw [getD_at s _ h]
  exact byte_eq' rfl g
/-- What value.unquote answers. -/
def UnqEnd (s : ByteArray) (w : World) (e : Ending) (w' : World) : Prop :=
  ((∃ l, unqL s = some l ∧ e = .returned (.tuple #[.string ⟨l.toArray⟩, .bool true])) ∨ (unqL s = none ∧ e = .returned (.tuple #[.string ⟨#[]⟩, .bool false]))) ∧ Below w.heap.size w w'
set_option maxHeartbeats 2000000 in
set_option maxRecDepth 100000 in
theorem unquote_any (s : ByteArray) (w : World) (hm : s.size ≤ 1000000) (G : Glob w) :
    Calls Tryz.prog 127 #[.string s] w (UnqEnd s w) := by
  obtain ⟨i0, hi, hz0, hz1, hz2⟩ := info_parts Tryz.infoByte
  go_enter Tryz.func127, Tryz.ntmps127
  go_wp2_with fail
  · have hor : (s.size : Int) - 1 < 1 ∨ ((s[s.size - 1]'(by omega)).toNat != (34 : Int)) = true := by assumption
    have hq : unqL s = none := by
      unfold unqL
      rw [if_pos]
      rcases hor with h | h
      · exact .inl (by omega)
      · exact .inr (last_ne (by omega) h)
    go_ret2
    exact ⟨.inr ⟨hq, rfl⟩, Below.refl _ _⟩
  · have hz : (1 : Int) ≤ (s.size : Int) - 1 := by assumption
    have h34 : ((1 : Int) ≤ (s.size : Int) - 1) ∧ (((s[s.size - 1]'(by omega)).toNat : Int) != 34) = false := by assumption
    have HQ : Hid (unqL s = bodyL s.size (midL s 1)) := Lib.hid (by
      unfold unqL
      rw [if_neg]
      rintro (h | h)
      · omega
      · exact h (last_eq (by omega) h34.2))
    have H34 := Lib.hid h34.2
    clear h34
    go_loopw [5, 6] (fun v y wr => ∃ (i : Nat) (acc : List UInt8), 1 ≤ i ∧ i ≤ s.size - 1 ∧ y = .int .i64 i ∧ wr.ownsRow w.heap.size 5 1 v acc.length (Lib.byteCells acc) ∧ Spelled s i acc ∧ acc.length ≤ i ∧ Below w.heap.size w wr) (fun _ y _ => s.size - (intOf y).toNat)
    case atStart => exact ⟨1, [], by omega, by omega, rfl, World.ownsRow_nil _ _ _ _, Spelled.start s, by simp, Below.refl _ _⟩
    case round =>
      obtain ⟨i, acc, hi1, hi2, rfl, hown, hsp, hal, hb⟩ := hrel
      have hbs : w.heap.size ≤ wr.heap.size := hb.size
      by_cases hlt : i < s.size - 1
      · have hlt' : (i : Int) < (s.size : Int) - 1 := by omega
        have h0 : (0 : Int) ≤ (i : Int) := by omega
        have hes : (s.extract i (s.size - 1)).size = s.size - 1 - i := by rw [ByteArray.size_extract]; omega
        have he := unescape_any (s.extract i (s.size - 1)) wr (by omega) (by omega) (G.below hb)
        clear hes
        cases hu : unescL (midL s i) with
        | none =>
          have hn := unescN_none hu
          unfold midL at hn
          rw [hn] at he
          dsimp only at he
          have HE := Lib.hid he
          have HB := Lib.hid (hsp.bad hlt hu)
          clear hn hu he
          go_wp2_with fail
          refine HE.out.mono ?_
          rintro e w1 ⟨rfl, hb1⟩
          go_wp2
          go_ret2
          exact ⟨.inr ⟨HQ.out.trans HB.out, rfl⟩, hb.trans (hb1.mono hbs)⟩
        | some xr =>
          obtain ⟨x, r1⟩ := xr
          obtain ⟨n, n1, n2, rfl⟩ := unesc_suffix _ _ _ hu
          have hn := unescN_some hu n2
          unfold midL at hn
          rw [hn] at he
          dsimp only at he
          rw [midL_len] at n2
          have HE := Lib.hid he
          have HS := Lib.hid (hsp.step hlt hu n1)
          clear hn hu he
          have hn0 : ((n : Int) == 0) = false := by rw [beq_eq_false_iff_ne]; omega
          have hn1 : (1 : Int) ≤ (n : Int) := by omega
          have hn2 : (n : Int) ≤ (s.size : Int) - 1 - (i : Int) := by omega
          go_wp2_with fail
          refine HE.out.mono ?_
          rintro e w1 ⟨rfl, hb1⟩
          have hown1 := ownsRow_below hown hb1
          have hs1 : wr.heap.size ≤ w1.heap.size := hb1.size
          go_wp2_with (at_builtin; refine wpList_append_own _ rfl (.tmp 33) (.tmp 35) 168 rfl w.heap.size 5 i0 (.int .u8 0) 1 1 Tryz.underlying168 hi hz0 hz1 hz2 rfl (by decide) _ _ _ rfl (hown1.alloc _) ⟨w1.heap.size, 0, none⟩ 1 1 [.int .u8 x.toNat] rfl rfl (lit_cells w1 _ _) (one_cells rfl) (by unfold maxLen; omega) (by omega) (by simp; omega) ?_; intro v' w2 hown' hgrow _)
          have hb2 : Below w.heap.size w w2 := ((hb.trans (hb1.mono hbs)).alloc (by omega) _).grown hgrow (by simp; omega) (fun k hk => (hown1.lt k hk).1)
          go_roundw
          case rel =>
            have h34 := H34.out
            simp only [h34, Bool.or_false]
            refine ⟨_, _, _, _, _, _, _, _, _, _, _, _, _, _, _, _, _, _, _, _, _, _, _, _, _, _, ⟨i + n, acc ++ [x], by omega, by omega, ?_, ?_, HS.out, ?_, hb2⟩, rfl⟩
            · go_num
            · exact own_step hown' rfl (by simp) (by simp [Lib.byteCells])
            · simp; omega
          case measure =>
            show s.size - ((i : Int) + (n : Int)).toNat < s.size - (i : Int).toNat
            omega
      · obtain rfl : i = s.size - 1 := by omega
        have hge : (s.size : Int) - 1 ≤ ((s.size - 1 : Nat) : Int) := by omega
        have HA := Lib.hid (hsp.end_ (Nat.le_refl _))
        rcases hown.2 with ⟨rfl, hnil⟩ | ⟨g, cap, cur, rfl, -, -, -, -, -, -⟩
        · have ha : acc = [] := by
            cases acc with
            | nil => rfl
            | cons c r => simp at hnil
          subst ha
          have hcv := Lib.run_convert_nil_bytes (P := Tryz.prog) wr 168 9 5 0 Tryz.underlying168 Tryz.underlying5 Tryz.underlying9
          clear hown hnil
          go_wp2
          go_ret2
          exact ⟨.inl ⟨[], HQ.out.trans HA.out, rfl⟩, hb⟩
        · have hcv := run_convert_bytes_back (P := Tryz.prog) wr 168 9 5 ⟨g, 0, none⟩ cap acc Tryz.underlying168 Tryz.underlying5 Tryz.underlying9 (fun j hj => hown.cells (g := g) rfl j _ (by simp [Lib.byteCells, hj]))
          clear hown
          go_wp2
          go_ret2
          exact ⟨.inl ⟨acc, HQ.out.trans HA.out, rfl⟩, hb⟩
  · have hsm : (s.size : Int) - 1 < 1 := by assumption
    have hq : unqL s = none := by
      unfold unqL
      rw [if_pos (.inl (by omega))]
    go_ret2
    exact ⟨.inr ⟨hq, rfl⟩, Below.refl _ _⟩
end Go.Proofs.YtnbaemfkpfmheaaGreatDoor
