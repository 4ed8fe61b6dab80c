/-
  Contract of value.decode at every text.
-/
import Derived.Test.YtnbaemfkpfmheaaGreatDoorUnq
namespace Go.Proofs.YtnbaemfkpfmheaaGreatDoor
open Go Go.RowKit

set_option maxHeartbeats 1000000 in
set_option maxRecDepth 100000 in
theorem decode_sym (s : ByteArray) (l : List UInt8) (hmax : s.size ≤ 1000000) (hpos : 0 < s.size) (h34 : ((s[0].toNat : Int) != 34) = false) (h : unqL s = some l) : DecIs s 2 0 ⟨l.toArray⟩ true := by
  intro w G
  have hne : s.toList ≠ [] := by
    rw [Lib.toList_data]
    intro e
    have h0 : s.size = 0 := by rw [Lib.size_eq, e]; rfl
    omega
  have hn2 : s.toList.isEmpty = false := by simpa using hne
  have H := Lib.hid h
  clear h
  have HU : Hid (∀ w, Glob w → Calls Tryz.prog 127 #[.string s] w fun e w' => e = .returned (.tuple #[.string ⟨l.toArray⟩, .bool true]) ∧ Below w.heap.size w w') := Lib.hid (fun w G => (unquote_any s w hmax G).mono (by
    rintro e w1 ⟨⟨l', hl, rfl⟩ | ⟨hl, rfl⟩, hb⟩
    · rw [H.out] at hl
      cases hl
      exact ⟨rfl, hb⟩
    · rw [H.out] at hl
      cases hl))
  go_enter Tryz.func120, Tryz.ntmps120
  go_wp2_with (go_at_call 127; refine (HU.out _ (G.below (below_box _ _))).mono ?_; rintro e w1 ⟨rfl, hb⟩; obtain ⟨hc, hf⟩ := bcell hb; have hz : w.heap.size < w1.heap.size := by have := hb.size; simp at this; omega)
  refine bodyPost_ret (v := .tuple #[.agg #[.int .i64 2, .int .i64 0, .string ⟨l.toArray⟩], .bool true]) (by simp [results, Tryz.results120, go_sem, hc]) rfl ⟨rfl, ?_⟩
  have hB := below_then hb
  repeat (first | exact hB | refine Below.setCell ?_ (by simp) _ | refine Below.drew ?_)
set_option maxHeartbeats 1000000 in
set_option maxRecDepth 100000 in
theorem decode_nosym (s : ByteArray) (hmax : s.size ≤ 1000000) (hpos : 0 < s.size) (h34 : ((s[0].toNat : Int) != 34) = false) (h : unqL s = none) : DecIs s 2 0 ⟨#[]⟩ false := by
  intro w G
  have hne : s.toList ≠ [] := by
    rw [Lib.toList_data]
    intro e
    have h0 : s.size = 0 := by rw [Lib.size_eq, e]; rfl
    omega
  have hn2 : s.toList.isEmpty = false := by simpa using hne
  have H := Lib.hid h
  clear h
  have HU : Hid (∀ w, Glob w → Calls Tryz.prog 127 #[.string s] w fun e w' => e = .returned (.tuple #[.string ⟨#[]⟩, .bool false]) ∧ Below w.heap.size w w') := Lib.hid (fun w G => (unquote_any s w hmax G).mono (by
    rintro e w1 ⟨⟨l', hl, rfl⟩ | ⟨hl, rfl⟩, hb⟩
    · rw [H.out] at hl
      cases hl
    · rw [H.out] at hl
      exact ⟨rfl, hb⟩))
  go_enter Tryz.func120, Tryz.ntmps120
  go_wp2_with (go_at_call 127; refine (HU.out _ (G.below (below_box _ _))).mono ?_; rintro e w1 ⟨rfl, hb⟩; obtain ⟨hc, hf⟩ := bcell hb; have hz : w.heap.size < w1.heap.size := by have := hb.size; simp at this; omega)
  refine bodyPost_ret (v := .tuple #[.agg #[.int .i64 2, .int .i64 0, .string ⟨#[]⟩], .bool false]) (by simp [results, Tryz.results120, go_sem, hc]) rfl ⟨rfl, ?_⟩
  have hB := below_then hb
  repeat (first | exact hB | refine Below.setCell ?_ (by simp) _ | refine Below.drew ?_)
/-- strconv.ParseInt at a text that is no number, or one too far. -/
def BadInt (s : ByteArray) (n : Int) : Prop := ∀ w, Glob w → Calls Tryz.prog 126 #[.string s, .int .i64 10, .int .i64 64] w fun e w' => (∃ N : Nat, e = .returned (.tuple #[.int .i64 n, .iface 192 (.pointer (some ⟨N, 0, none⟩))])) ∧ Below w.heap.size w w'
theorem int_bad (s : ByteArray) (hmax : s.size ≤ 1000000) (h : ∀ v, Lib.parseIntB 64 s.data.toList ≠ .ok v) : ∃ n, BadInt s n := by
  cases hp : Lib.parseIntB 64 s.data.toList with
  | ok v => exact absurd hp (h v)
  | range =>
    refine ⟨Lib.intSat 64 s.data.toList, fun w G => ?_⟩
    obtain ⟨tp, p, hv⟩ := G.rng
    refine (Tryz.strconv_ParseInt_10_at64_range_var s (by omega) hp tp p w hv).mono ?_
    rintro e w1 ⟨N, rfl, -, -, hb⟩
    exact ⟨⟨N, rfl⟩, hb⟩
  | _ =>
    refine ⟨0, fun w G => ?_⟩
    obtain ⟨tp, p, hv⟩ := G.syn
    refine (Any.strconv_ParseInt_10_at64_syntax_var Tryz.laysC174 s (by omega) hp tp p w hv).mono ?_
    rintro e w1 ⟨N, rfl, -, -, hb⟩
    exact ⟨⟨N, rfl⟩, hb⟩
set_option maxHeartbeats 1000000 in
set_option maxRecDepth 100000 in
theorem decode_bad (s : ByteArray) (n : Int) (hq : s.size = 0 ∨ ∃ h : 0 < s.size, ((s[0].toNat : Int) != 34) = true) (hI : Hid (BadInt s n)) : DecIs s 1 n ⟨#[]⟩ false := by
  intro w G
  rcases hq with hq | ⟨hpos, h34⟩
  · have hne : s.toList = [] := by
      rw [Lib.toList_data]
      exact List.eq_nil_of_length_eq_zero (by rw [← Lib.size_eq]; exact hq)
    have hn2 : s.toList.isEmpty = true := by simp [hne]
    go_enter Tryz.func120, Tryz.ntmps120
    go_wp2_with (go_at_call 126; refine (hI.out _ (G.below (below_box _ _))).mono ?_; rintro e w1 ⟨⟨N, rfl⟩, hb⟩; obtain ⟨hc, hf⟩ := bcell hb; have hz : w.heap.size < w1.heap.size := by have := hb.size; simp at this; omega)
    go_region
    go_wp2
    refine bodyPost_ret (v := .tuple #[.agg #[.int .i64 1, .int .i64 n, .string ⟨#[]⟩], .bool false]) (by simp [results, Tryz.results120, go_sem, hc]) rfl ⟨rfl, ?_⟩
    have hB := below_then hb
    repeat (first | exact hB | refine Below.setCell ?_ (by simp) _ | refine Below.drew ?_)
  · have hne : s.toList ≠ [] := by
      rw [Lib.toList_data]
      intro e
      have h0 : s.size = 0 := by rw [Lib.size_eq, e]; rfl
      omega
    have hn2 : s.toList.isEmpty = false := by simpa using hne
    go_enter Tryz.func120, Tryz.ntmps120
    go_wp2_with (go_at_call 126; refine (hI.out _ (G.below (below_box _ _))).mono ?_; rintro e w1 ⟨⟨N, rfl⟩, hb⟩; obtain ⟨hc, hf⟩ := bcell hb; have hz : w.heap.size < w1.heap.size := by have := hb.size; simp at this; omega)
    go_region
    go_wp2
    refine bodyPost_ret (v := .tuple #[.agg #[.int .i64 1, .int .i64 n, .string ⟨#[]⟩], .bool false]) (by simp [results, Tryz.results120, go_sem, hc]) rfl ⟨rfl, ?_⟩
    have hB := below_then hb
    repeat (first | exact hB | refine Below.setCell ?_ (by simp) _ | refine Below.drew ?_)

/-- What value.decode answers at a text: always the same, whatever the world. -/
theorem decode_is (s : ByteArray) (hmax : s.size ≤ 1000000) :
    (∃ v, Lib.parseIntB 64 s.data.toList = .ok v ∧ DecIs s 1 v ⟨#[]⟩ true) ∨ (∃ l, unqL s = some l ∧ s.data.toList.head? = some 34 ∧ DecIs s 2 0 ⟨l.toArray⟩ true) ∨
      ((∀ v, Lib.parseIntB 64 s.data.toList ≠ .ok v) ∧ (s.data.toList.head? = some 34 → unqL s = none) ∧ ∃ k n S, DecIs s k n S false) := by
  by_cases hpos : 0 < s.size
  · have hb1 := bytes1 s hpos
    cases h34 : ((s[0].toNat : Int) != 34) with
    | true =>
      have hne : s[0] ≠ 34 := by rintro e; rw [e] at h34; simp at h34
      have hh : s.data.toList.head? ≠ some 34 := by rw [hb1]; simpa using hne
      by_cases hp : ∃ v, Lib.parseIntB 64 s.data.toList = .ok v
      · obtain ⟨v, hp⟩ := hp
        exact .inl ⟨v, hp, fun w _ => decode_ok s v w hmax hpos h34 hp⟩
      · have hp' : ∀ v, Lib.parseIntB 64 s.data.toList ≠ .ok v := fun v e => hp ⟨v, e⟩
        obtain ⟨n, hn⟩ := int_bad s hmax hp'
        exact .inr (.inr ⟨hp', fun e => absurd e hh, _, _, _, decode_bad s n (.inr ⟨hpos, h34⟩) (Lib.hid hn)⟩)
    | false =>
      have e34 : s[0] = 34 := byte_eq' (d := 34) rfl h34
      have hh : s.data.toList.head? = some 34 := by rw [hb1, e34]; rfl
      cases hu : unqL s with
      | some l => exact .inr (.inl ⟨l, rfl, hh, decode_sym s l hmax hpos h34 hu⟩)
      | none =>
        refine .inr (.inr ⟨?_, fun _ => rfl, _, _, _, decode_nosym s hmax hpos h34 hu⟩)
        intro v
        rw [hb1, e34]
        intro hv
        simp [Lib.parseIntB, Lib.parseUintB, Lib.parseUintM] at hv
  · have hz : s.size = 0 := by omega
    have hnil : s.data.toList = [] := List.eq_nil_of_length_eq_zero (by rw [← Lib.size_eq]; exact hz)
    have hp' : ∀ v, Lib.parseIntB 64 s.data.toList ≠ .ok v := by
      intro v
      rw [hnil]
      intro hv
      simp [Lib.parseIntB] at hv
    obtain ⟨n, hn⟩ := int_bad s hmax hp'
    exact .inr (.inr ⟨hp', (by intro e; rw [hnil] at e; cases e), _, _, _, decode_bad s n (.inl hz) (Lib.hid hn)⟩)
end Go.Proofs.YtnbaemfkpfmheaaGreatDoor
