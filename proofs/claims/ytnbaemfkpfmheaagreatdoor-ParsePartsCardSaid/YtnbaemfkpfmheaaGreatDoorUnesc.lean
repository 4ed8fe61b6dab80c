/-
  Contracts of strconv.ParseUint at two bytes, base 16, 8 bits, and of value.unescape.
-/
import Derived.Test.YtnbaemfkpfmheaaGreatDoorHex
import Derived.Test.YtnbaemfkpfmheaaGreatDoorShelfB
import Derived.Test.YtnbaemfkpfmheaaGreatDoorDec
import Derived.Outline
namespace Go.Proofs.YtnbaemfkpfmheaaGreatDoor
open Go Go.RowKit

/-- What strconv.ParseUint answers. -/
def HexOut (s : ByteArray) (hs : s.size = 2) (w : World) (e : Ending) (w' : World) : Prop :=
  ((∃ a b, hexV (s[0]'(by omega)) = some a ∧ hexV (s[1]'(by omega)) = some b ∧ e = .returned (.tuple #[.int .u64 ((16 * a + b : Nat) : Int), .nilIface])) ∨
   ((hexV (s[0]'(by omega)) = none ∨ hexV (s[1]'(by omega)) = none) ∧ ∃ N : Nat, e = .returned (.tuple #[.int .u64 0, .iface 192 (.pointer (some ⟨N, 0, none⟩))]))) ∧ Below w.heap.size w w'
set_option maxHeartbeats 1000000 in
set_option maxRecDepth 100000 in
theorem hex_outer (s : ByteArray) (w : World) (hs : s.size = 2) (G : Glob w) :
    Calls Tryz.prog 141 #[.string s, .int .i64 16, .int .i64 8] w (HexOut s hs w) := by
  have hI := Lib.hid (inner_any s w hs)
  go_enter Tryz.func141, Tryz.ntmps141
  go_wp2_with fail
  refine (hI.out).mono ?_
  rintro e w1 ⟨⟨a, b, h0, h1, rfl⟩ | ⟨hn, rfl⟩, hb⟩
  · have H0 := Lib.hid h0
    have H1 := Lib.hid h1
    clear h0 h1
    go_wp2
    go_ret2
    exact ⟨.inl ⟨a, b, H0.out, H1.out, rfl⟩, hb⟩
  · have HN := Lib.hid hn
    clear hn
    obtain ⟨tp, p, hsyn⟩ := (G.below hb).syn
    have hv := World.var?_cell gSyn hsyn 0
    have hv' : w1.cell? ⟨1, 0, none⟩ = some (.iface tp p) := by simpa using hv
    clear hv hsyn
    have HV := Lib.hid hv'
    clear hv'
    go_wp2_with (go_at_call 133; refine (Tryz.strconv_toError_syntax _ s 16 8 (.iface tp p) _ (by omega) HV.out (.inr ⟨_, _, rfl⟩)).mono ?_; rintro e w2 ⟨N, rfl, -, -, hb2⟩)
    go_ret2
    exact ⟨.inr ⟨HN.out, N, rfl⟩, hb.trans (hb2.mono hb.size)⟩

/-- What value.unescape answers: the byte and how many bytes spell it; nought and nought where they are no escape. -/
def unescN (l : List UInt8) : Int × Int :=
  match unescL l with
  | some (c, r) => ((c.toNat : Int), ((l.length - r.length : Nat) : Int))
  | none => (0, 0)
theorem un_plain {c : UInt8} {r : List UInt8} (h : c ≠ 92) : unescN (c :: r) = ((c.toNat : Int), 1) := by
  simp [unescN, unescL, h]
  try omega
theorem un_short : unescN [92] = (0, 0) := rfl
theorem un_quote {d : UInt8} {r : List UInt8} (h : d = 34 ∨ d = 92) : unescN (92 :: d :: r) = ((d.toNat : Int), 2) := by
  simp [unescN, unescL, h]
  omega
theorem un_n (r : List UInt8) : unescN (92 :: 110 :: r) = (10, 2) := by
  simp [unescN, unescL]
  omega
theorem un_t (r : List UInt8) : unescN (92 :: 116 :: r) = (9, 2) := by
  simp [unescN, unescL]
  omega
theorem un_x0 {r : List UInt8} (h : r.length < 2) : unescN (92 :: 120 :: r) = (0, 0) := by
  match r, h with
  | [], _ => rfl
  | [_], _ => rfl
theorem un_x {x y : UInt8} {r : List UInt8} {a b : Nat} (ha : hexV x = some a) (hb : hexV y = some b) : unescN (92 :: 120 :: x :: y :: r) = (((16 * a + b : Nat) : Int), 4) := by
  have h1 := hexV_lt ha
  have h2 := hexV_lt hb
  simp [unescN, unescL, ha, hb]
  omega
theorem un_xn {x y : UInt8} {r : List UInt8} (h : hexV x = none ∨ hexV y = none) : unescN (92 :: 120 :: x :: y :: r) = (0, 0) := by
  rcases h with h | h
  · simp [unescN, unescL, h]
  · cases g : hexV x <;> simp [unescN, unescL, h, g]
theorem un_other {d : UInt8} {r : List UInt8} (h1 : d ≠ 34) (h2 : d ≠ 92) (h3 : d ≠ 110) (h4 : d ≠ 116) (h5 : d ≠ 120) : unescN (92 :: d :: r) = (0, 0) := by
  simp [unescN, unescL, h1, h2, h3, h4, h5]
theorem bytesAt (s : ByteArray) (i : Nat) (h : i < s.size) : s.data.toList.drop i = s[i] :: s.data.toList.drop (i + 1) := by
  have := List.drop_eq_getElem_cons (l := s.data.toList) (i := i) (by rw [← Lib.size_eq]; exact h)
  rw [this]
  rfl
theorem bytes1 (s : ByteArray) (h : 0 < s.size) : s.data.toList = s[0] :: s.data.toList.drop 1 := bytesAt s 0 h
theorem byte_eq {c d : UInt8} {n : Int} (hn : (d.toNat : Int) = n) (h : ((c.toNat : Int) == n) = true) : c = d := by
  have : (c.toNat : Int) = n := by simpa using h
  exact UInt8.toNat_inj.1 (by omega)
theorem byte_eq' {c d : UInt8} {n : Int} (hn : (d.toNat : Int) = n) (h : ((c.toNat : Int) != n) = false) : c = d := byte_eq hn (by simpa using h)
theorem un_end {a b : Int} {l : List UInt8} (h : unescN l = (a, b)) : Ending.returned (.tuple #[.int .u8 a, .int .i64 b]) = .returned (.tuple #[.int .u8 (unescN l).1, .int .i64 (unescN l).2]) := by rw [h]

set_option maxHeartbeats 1000000 in
set_option maxRecDepth 100000 in
theorem unescape_any (s : ByteArray) (w : World) (hp : 0 < s.size) (_hm : s.size ≤ 1000000) (G : Glob w) :
    Calls Tryz.prog 134 #[.string s] w fun e w' => e = .returned (.tuple #[.int .u8 (unescN s.data.toList).1, .int .i64 (unescN s.data.toList).2]) ∧ Below w.heap.size w w' := by
  have B1 := Lib.hid (bytes1 s hp)
  have BA := Lib.hid (bytesAt s)
  go_enter Tryz.func134, Tryz.ntmps134
  go_wp2_with fail
  · have h0 : ((s[0].toNat : Int) != 92) = true := by assumption
    go_ret2
    refine ⟨un_end ?_, Below.refl _ _⟩
    rw [B1.out]
    exact un_plain (by rintro e; rw [e] at h0; simp at h0)
  · have h0 : ((s[0].toNat : Int) != 92) = false := by assumption
    have h1 : (s.size : Int) < 2 := by assumption
    go_ret2
    refine ⟨un_end ?_, Below.refl _ _⟩
    rw [B1.out, byte_eq' (d := 92) rfl h0, List.drop_of_length_le (by rw [← Lib.size_eq]; omega)]
    exact un_short
  all_goals
    have h0 : ((s[0].toNat : Int) != 92) = false := by assumption
    have h1 : (2 : Int) ≤ (s.size : Int) := by assumption
    have hl : s.data.toList = (92 : UInt8) :: (s[1]'(by omega)) :: s.data.toList.drop 2 := B1.out.trans (by rw [byte_eq' (d := 92) rfl h0, BA.out 1 (by omega)])
    have HL := Lib.hid hl
    clear hl
  · go_ret2
    refine ⟨un_end ?_, Below.refl _ _⟩
    rw [HL.out]
    exact un_quote (.inl (byte_eq (d := 34) rfl (by assumption)))
  · go_ret2
    refine ⟨un_end ?_, Below.refl _ _⟩
    rw [HL.out]
    exact un_quote (.inr (byte_eq (d := 92) rfl (by assumption)))
  · have e1 := byte_eq (c := s[1]'(by omega)) (d := 110) rfl (by assumption)
    go_ret2
    refine ⟨un_end ?_, Below.refl _ _⟩
    rw [HL.out, e1]
    exact un_n _
  · have e1 := byte_eq (c := s[1]'(by omega)) (d := 116) rfl (by assumption)
    go_ret2
    refine ⟨un_end ?_, Below.refl _ _⟩
    rw [HL.out, e1]
    exact un_t _
  · have e1 := byte_eq (c := s[1]'(by omega)) (d := 120) rfl (by assumption)
    have h4 : (s.size : Int) < 4 := by assumption
    go_ret2
    refine ⟨un_end ?_, Below.refl _ _⟩
    rw [HL.out, e1]
    exact un_x0 (by rw [List.length_drop, ← Lib.size_eq]; omega)
  · have h4 : (4 : Int) ≤ (s.size : Int) := by assumption
    have E1 := Lib.hid (byte_eq (c := s[1]'(by omega)) (d := 120) rfl (by assumption))
    have hs2 : (s.extract 2 4).size = 2 := by rw [ByteArray.size_extract]; omega
    have X0 : (s.extract 2 4)[0]'(by omega) = s[2]'(by omega) := by simp [ByteArray.getElem_extract]
    have X1 : (s.extract 2 4)[1]'(by omega) = s[3]'(by omega) := by simp [ByteArray.getElem_extract]
    have hll : s.data.toList = (92 : UInt8) :: 120 :: (s[2]'(by omega)) :: (s[3]'(by omega)) :: s.data.toList.drop 4 := HL.out.trans (by rw [E1.out, BA.out 2 (by omega), BA.out 3 (by omega)])
    have HLL := Lib.hid hll
    have HH := Lib.hid (fun w => hex_outer (s.extract 2 4) w hs2)
    have HX := Lib.hid (And.intro X0 X1)
    clear hll X0 X1
    refine (HH.out _ G).mono ?_
    rintro e w1 ⟨⟨a, b, h5, h6, rfl⟩ | ⟨hn, N, rfl⟩, hb⟩
    · have ha : (a : Int) ≤ 15 := by have := hexV_lt h5; omega
      have hb6 : (b : Int) ≤ 15 := by have := hexV_lt h6; omega
      have ha0 : (0 : Int) ≤ (a : Int) := by omega
      have hb0 : (0 : Int) ≤ (b : Int) := by omega
      have H5 := Lib.hid h5
      have H6 := Lib.hid h6
      clear h5 h6
      go_wp2
      go_ret2
      refine ⟨un_end ?_, hb⟩
      rw [HLL.out]
      have h7 := un_x (r := s.data.toList.drop 4) ((congrArg hexV HX.out.1).symm.trans H5.out) ((congrArg hexV HX.out.2).symm.trans H6.out)
      simpa using h7
    · have HN := Lib.hid hn
      clear hn
      go_wp2
      go_ret2
      refine ⟨un_end ?_, hb⟩
      rw [HLL.out]
      exact un_xn (HN.out.imp (fun h => (congrArg hexV HX.out.1).symm.trans h) (fun h => (congrArg hexV HX.out.2).symm.trans h))
  · go_ret2
    refine ⟨un_end ?_, Below.refl _ _⟩
    rw [HL.out]
    exact un_other (ne_of_beq 34 rfl (by assumption)) (ne_of_beq 92 rfl (by assumption)) (ne_of_beq 110 rfl (by assumption)) (ne_of_beq 116 rfl (by assumption)) (ne_of_beq 120 rfl (by assumption))
end Go.Proofs.YtnbaemfkpfmheaaGreatDoor
