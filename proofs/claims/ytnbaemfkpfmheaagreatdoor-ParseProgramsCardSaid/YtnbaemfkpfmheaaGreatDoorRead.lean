/-
  Contract of value.Read at every text: the value that has this very text, or none.
-/
import Derived.Test.YtnbaemfkpfmheaaGreatDoorDecq
namespace Go.Proofs.YtnbaemfkpfmheaaGreatDoor
open Go Go.RowKit

theorem parse_I64 {l : List UInt8} {v : Int} (h : Lib.parseIntB 64 l = .ok v) : I64 v := by
  unfold Lib.parseIntB at h
  cases l with
  | nil => cases h
  | cons c r =>
    dsimp only at h
    split at h
    · cases h
    · cases h
    · split at h
      · cases h
      · split at h
        · cases h
        · rename_i u _ h1 h2
          injection h with h
          unfold I64
          by_cases hc : c.toNat = 45
          · rw [if_pos hc] at h
            have : ¬ 2 ^ (64 - 1) < u := fun e => h2 ⟨hc, e⟩
            simp at this
            omega
          · rw [if_neg hc] at h
            have : ¬ 2 ^ (64 - 1) ≤ u := fun e => h1 ⟨hc, e⟩
            simp at this
            omega
theorem quoteL_unq (l : List UInt8) : unqL ⟨(quoteL l).toArray⟩ = some l := by
  have hs : (⟨(quoteL l).toArray⟩ : ByteArray).size = (l.flatMap oneB).length + 2 := by
    rw [Lib.size_eq]
    simp [quoteL, quoteTo]
  have hl : (⟨(quoteL l).toArray⟩ : ByteArray).data.toList = 34 :: (l.flatMap oneB ++ [34]) := by simp [quoteL, quoteTo]
  unfold unqL
  rw [if_neg]
  · have hm : midL ⟨(quoteL l).toArray⟩ 1 = l.flatMap oneB := by
      unfold midL
      rw [Lib.extract_data, hl, hs]
      simp
    rw [hm]
    refine body_one l _ ?_
    rw [hs]
    have h1 : ∀ q : List UInt8, q.length ≤ (q.flatMap oneB).length := by
      intro q
      induction q with
      | nil => simp
      | cons c r ih =>
        have := oneB_len c
        rw [List.flatMap_cons, List.length_append, List.length_cons]
        omega
    have := h1 l
    omega
  · rw [hs, hl]
    rintro (h | h)
    · omega
    · apply h
      simp
theorem emp_toList : (⟨#[]⟩ : ByteArray).toList = [] := by rw [Lib.toList_data]
theorem emp_of {s : ByteArray} (h : s.toList = []) : s = ⟨#[]⟩ := by
  apply str_ext
  rw [h, emp_toList]
theorem textS_size {k n : Int} {S : ByteArray} (h : IsV k n S) (hI : I64 n) : (textS k n S).size ≤ 1100 := by
  have hs : (textS k n S).size = (textL k n S).length := by rw [Lib.size_eq]; rfl
  rw [hs]
  unfold textL
  rcases h with ⟨rfl, hS⟩ | ⟨rfl, rfl, hS⟩
  · rw [if_pos rfl]
    have h1 : -9223372036854775808 ≤ n := hI.1
    have h2 : n ≤ 9223372036854775807 := hI.2
    unfold Lib.itoa
    split
    · have := dec_len20 (show U64 n.natAbs by unfold U64; omega)
      simp
      omega
    · have := dec_len20 (show U64 n.toNat by unfold U64; omega)
      omega
  · rw [if_neg (by decide)]
    have := quoteTo_len S.data.toList
    rw [← Lib.size_eq] at this
    simp [quoteL]
    omega
/-- A text that a value has. -/
theorem decode_own {k n : Int} {S : ByteArray} (h : IsV k n S) (hI : I64 n) : DecIs (textS k n S) k n S true := by
  have hz := textS_size h hI
  rcases h with ⟨rfl, hS⟩ | ⟨rfl, rfl, hS⟩
  · obtain rfl := emp_of hS
    have hp : Lib.parseIntB 64 (textS 1 n ⟨#[]⟩).data.toList = .ok n := parse_itoa n hI.1 hI.2
    rcases decode_is (textS 1 n ⟨#[]⟩) (by omega) with ⟨v, hv, hd⟩ | ⟨l, -, hh, -⟩ | ⟨hn, -⟩
    · rw [hp] at hv
      cases hv
      exact hd
    · obtain ⟨c, r, e, hc⟩ := itoa_head n
      have : (textS 1 n ⟨#[]⟩).data.toList = c :: r := e
      rw [this] at hh
      exact absurd (by simpa using hh) hc
    · exact absurd hp (hn n)
  · have hu : unqL (textS 2 0 S) = some S.data.toList := quoteL_unq _
    have hh : (textS 2 0 S).data.toList.head? = some 34 := rfl
    rcases decode_is (textS 2 0 S) (by omega) with ⟨v, hv, hd⟩ | ⟨l, hl, -, hd⟩ | ⟨-, hn, -⟩
    · obtain ⟨r, hr⟩ : ∃ r, (textS 2 0 S).data.toList = 34 :: r := ⟨_, rfl⟩
      rw [hr] at hv
      simp [Lib.parseIntB, Lib.parseUintB, Lib.parseUintM] at hv
    · rw [hu] at hl
      cases hl
      exact hd
    · rw [hu] at hn
      cases hn hh
theorem read_own (k n : Int) (S : ByteArray) (w : World) (h : IsV k n S) (hI : I64 n) (G : Glob w) :
    Calls Tryz.prog 115 #[.string (textS k n S)] w fun e w' => e = .returned (.tuple #[.agg #[.int .i64 k, .int .i64 n, .string S], .int .i64 0]) ∧ Below w.heap.size w w' :=
  read_hit _ k n S w (Lib.hid (decode_own h hI)) h hI rfl G
theorem read_none (s : ByteArray) (w : World) (hmax : s.size ≤ 1000000) (hno : ∀ k n S, IsV k n S → I64 n → s ≠ textS k n S) (G : Glob w) :
    Calls Tryz.prog 115 #[.string s] w fun e w' => e = .returned (.tuple #[.agg #[.int .i64 0, .int .i64 0, .string ⟨#[]⟩], .int .i64 10]) ∧ Below w.heap.size w w' := by
  have hdiff : ∀ k n S, IsV k n S → I64 n → (textS k n S).toList ≠ s.toList := fun k n S h hI e => hno k n S h hI (str_ext e).symm
  rcases decode_is s hmax with ⟨v, hv, hd⟩ | ⟨l, hl, -, hd⟩ | ⟨-, -, k, n, S, hd⟩
  · exact read_no3 s 1 v ⟨#[]⟩ w (Lib.hid hd) (.inl ⟨rfl, emp_toList⟩) (parse_I64 hv) (hdiff _ _ _ (.inl ⟨rfl, emp_toList⟩) (parse_I64 hv)) G
  · by_cases hz : (⟨l.toArray⟩ : ByteArray).size ≤ 256
    · exact read_no3 s 2 0 ⟨l.toArray⟩ w (Lib.hid hd) (.inr ⟨rfl, rfl, hz⟩) (by unfold I64; omega) (hdiff _ _ _ (.inr ⟨rfl, rfl, hz⟩) (by unfold I64; omega)) G
    · refine read_no2 s 2 0 ⟨l.toArray⟩ w (Lib.hid hd) ?_ G
      rintro (⟨h, -⟩ | ⟨-, -, h⟩)
      · omega
      · exact hz h
  · exact read_no1 s k n S w (Lib.hid hd) G
/-- Texts are alike only where the values are. -/
theorem textS_inj {k n k' n' : Int} {S S' : ByteArray} (h : IsV k n S) (hI : I64 n) (h' : IsV k' n' S') (hI' : I64 n') (e : textS k n S = textS k' n' S') : k = k' ∧ n = n' ∧ S = S' := by
  have eL : textL k n S = textL k' n' S' := by
    have := congrArg (fun b : ByteArray => b.data.toList) e
    simpa [textS] using this
  rcases h with ⟨rfl, hS⟩ | ⟨rfl, rfl, hS⟩ <;> rcases h' with ⟨rfl, hS'⟩ | ⟨rfl, rfl, hS'⟩
  · exact ⟨rfl, itoa_inj hI hI' eL, (emp_of hS).trans (emp_of hS').symm⟩
  · obtain ⟨c, r, e1, hc⟩ := itoa_head n
    have e2 : c :: r = 34 :: (S'.data.toList.flatMap oneB ++ [34]) := e1.symm.trans eL
    exact absurd (List.cons.inj e2).1 hc
  · obtain ⟨c, r, e1, hc⟩ := itoa_head n'
    have e2 : c :: r = 34 :: (S.data.toList.flatMap oneB ++ [34]) := e1.symm.trans eL.symm
    exact absurd (List.cons.inj e2).1 hc
  · refine ⟨rfl, rfl, ?_⟩
    have := quoteL_inj (show quoteL S.data.toList = quoteL S'.data.toList from eL)
    apply str_ext
    rw [Lib.toList_data, Lib.toList_data, this]
end Go.Proofs.YtnbaemfkpfmheaaGreatDoor
