/-
  The laws' plain; a gap more between two words: plain facts.
-/
import Derived.Test.YtiokdlomfmkkoaaDoorLxWm
import Derived.Lib.BufferRead
import Derived.Laws.IdiomStrings
namespace Go.Proofs.YtiokdlomfmkkoaaDoor
open Go Go.RowKit

/-- A text without line ends. -/
def plainL (l : List UInt8) : List UInt8 := l.filter (fun c => c != 10)
theorem plain_ne (l : List UInt8) : ∀ c ∈ plainL l, c ≠ 10 := by
  intro c hc
  have := (List.mem_filter.1 hc).2
  simpa using this
theorem plain_len (l : List UInt8) : (plainL l).length ≤ l.length := List.length_filter_le _ _
theorem plain_snoc (s : ByteArray) (k : Nat) (h : k < s.size) : plainL (s.data.toList.take (k + 1)) = plainL (s.data.toList.take k) ++ (if s[k] = 10 then [] else [s[k]]) := by
  rw [take_snoc s k h]
  unfold plainL
  rw [List.filter_append]
  by_cases e : s[k] = 10
  · rw [if_pos e, e]
    rfl
  · rw [if_neg e]
    simp [e]
set_option maxHeartbeats 2000000 in
set_option maxRecDepth 100000 in
theorem rplain_any (s : ByteArray) (w : World) (hm : s.size ≤ 1000000) :
    Calls Tryd.prog 21 #[.string s] w fun e w' => e = .returned (.string ⟨(plainL s.data.toList).toArray⟩) ∧ Below w.heap.size w w' := by
  obtain ⟨i0, hi, hz0, hz1, hz2⟩ := info_parts Tryd.infoByte
  obtain ⟨P0, hP0⟩ : ∃ P0, P0 = plainL s.data.toList := ⟨_, rfl⟩
  rw [← hP0]
  have HP0 := Lib.hid hP0
  clear hP0
  go_enter Tryd.func21, Tryd.ntmps21
  go_wp2_with fail
  go_loopw [3, 4] (fun v i wr => ∃ k : Nat, k ≤ s.size ∧ i = .int .i64 k ∧ wr.ownsRow w.heap.size 5 1 v (plainL (s.data.toList.take k)).length (Lib.byteCells (plainL (s.data.toList.take k))) ∧ Hid (Below w.heap.size w wr)) (fun _ i _ => s.size - (intOf i).toNat)
  case atStart => exact ⟨0, Nat.zero_le _, rfl, World.ownsRow_nil _ _ _ _, Lib.hid (Below.refl _ _)⟩
  case round =>
    obtain ⟨k, hk, rfl, hown, HB⟩ := hrel
    have hbs := HB.out.size
    by_cases hlt : k < s.size
    · have hlt' : (k : Int) < (s.size : Int) := by omega
      have hlen : (plainL (s.data.toList.take k)).length ≤ 1000000 := by
        have := plain_len (s.data.toList.take k)
        rw [List.length_take] at this
        omega
      have hs := plain_snoc s k hlt
      cases h10 : ((s[k].toNat : Int) == 10) with
      | true =>
        have h10n : ((s[k].toNat : Int) != 10) = false := by unfold bne; rw [h10]; rfl
        rw [if_pos (u8_is (d := 10) rfl h10), List.append_nil] at hs
        have HO := Lib.hid (show wr.ownsRow w.heap.size 5 1 _ (plainL (s.data.toList.take (k + 1))).length (Lib.byteCells (plainL (s.data.toList.take (k + 1)))) by rw [hs]; exact hown)
        clear hown hs
        obtain ⟨p, n, c, rfl⟩ := bu_slice (by rw [bytes_len]; exact HO.out)
        go_wp2_with fail
        go_roundw
        case rel => exact ⟨k + 1, by omega, by go_num, HO.out, HB⟩
        case measure => simp [intOf]; omega
      | false =>
        have h10n : ((s[k].toNat : Int) != 10) = true := by unfold bne; rw [h10]; rfl
        rw [if_neg (u8_no (d := 10) rfl h10)] at hs
        obtain ⟨P, hP⟩ : ∃ P, P = plainL (s.data.toList.take k) := ⟨_, rfl⟩
        rw [← hP] at hs hown hlen
        have HO := Lib.hid hown
        have HSn := Lib.hid hs
        clear hown hs hP
        obtain ⟨p, n, c, rfl⟩ := bu_slice (by rw [bytes_len]; exact HO.out)
        go_wp2_with (at_builtin; refine wpList_append_own _ rfl _ _ 30 rfl w.heap.size 5 i0 (.int .u8 0) 1 1 Tryd.underlying30 hi hz0 hz1 hz2 rfl (by decide) _ _ _ rfl (HO.out.alloc _) ⟨wr.heap.size, 0, none⟩ 1 1 [.int .u8 (s[k].toNat : Int)] rfl rfl ?c1 ?c2 ?c3 ?c4 ?c5 ?_)
        case c1 =>
          intro j u hj
          match j, hj with
          | 0, hj => simp at hj; subst hj; simp [Addr.add]
        case c2 => intro u hu; simp at hu; subst hu; rfl
        case c3 => unfold maxLen; omega
        case c4 => omega
        case c5 => simp; omega
        intro v' w2 hown' hgrow _
        have HB2 := Lib.hid ((HB.out.alloc hbs _).grown hgrow (by simp; omega) (fun k hk => (HO.out.lt k hk).1))
        have HO2 := Lib.hid (show w2.ownsRow w.heap.size 5 1 v' (plainL (s.data.toList.take (k + 1))).length (Lib.byteCells (plainL (s.data.toList.take (k + 1)))) by rw [HSn.out, bytes_app, List.length_append]; exact hown')
        obtain ⟨p2, n2, c2, rfl⟩ := bu_slice (by rw [bytes_len]; exact HO2.out)
        clear hown' hgrow
        go_wp2_with fail
        go_roundw
        case rel => exact ⟨k + 1, by omega, by go_num, HO2.out, HB2⟩
        case measure => simp [intOf]; omega
    · have hge : ¬ (k : Int) < (s.size : Int) := by omega
      have hall : s.data.toList.take k = s.data.toList := List.take_of_length_le (by rw [← Lib.size_eq]; omega)
      rw [hall, ← HP0.out] at hown
      clear HP0 hall
      rcases hown.2 with ⟨rfl, hnil⟩ | ⟨g, cap, cur, rfl, -, -, -, -, -, -⟩
      · have ha : P0 = [] := List.eq_nil_of_length_eq_zero hnil
        subst ha
        have hcv := Lib.run_convert_nil_bytes (P := Tryd.prog) wr 30 9 5 0 Tryd.underlying30 Tryd.underlying5 Tryd.underlying9
        clear hown hnil
        go_wp2_with fail
        go_ret
        exact ⟨rfl, HB.out⟩
      · have hcv := run_convert_bytes_back (P := Tryd.prog) wr 30 9 5 ⟨g, 0, none⟩ cap P0 Tryd.underlying30 Tryd.underlying5 Tryd.underlying9 (fun j hj => hown.cells (g := g) rfl j _ (by simp [Lib.byteCells, hj]))
        clear hown
        go_wp2_with fail
        go_ret
        exact ⟨rfl, HB.out⟩
end Go.Proofs.YtiokdlomfmkkoaaDoor
