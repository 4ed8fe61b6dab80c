/-
  Contracts of the document's Join, of lex.Where and the document's Where.
-/
import Derived.Test.YtiokdlomfmkkoaaDoorLxJz
import Derived.Test.YtiokdlomfmkkoaaDoorLxY
import Derived.Lib.LastIndexByte
import Derived.Laws.IdiomStrings
namespace Go.Proofs.YtiokdlomfmkkoaaDoor
open Go Go.RowKit

set_option maxHeartbeats 4000000 in
set_option maxRecDepth 100000 in
theorem rjoinz_any (v : Value) (L : List Wz) (S : Nat → Prop) (w : World) (h : ZIn S w v L) (hS : ∀ k, S k → k < w.heap.size) (hlen : (joinZ L).length ≤ 1000000) (hL : L.length ≤ 1000000) :
    Calls Tryd.prog 17 #[v] w fun e w' => e = .returned (.string ⟨(joinZ L).toArray⟩) ∧ Below w.heap.size w w' := by
  obtain ⟨i0, hi, hz0, hz1, hz2⟩ := info_parts Tryd.infoByte
  have HI := Lib.hid h
  have HSS := Lib.hid hS
  obtain ⟨P0, hP0⟩ : ∃ P0, P0 = joinZ L := ⟨_, rfl⟩
  have HLen := Lib.hid hlen
  rw [← hP0]
  have HP0 := Lib.hid hP0
  obtain ⟨p, c, rfl, hc1, hc2, -⟩ := h
  unfold maxLen at hc2
  have hL' : (L.length : Int) ≤ 1000000 := by omega
  clear hS hlen hP0
  go_enter Tryd.func17, Tryd.ntmps17
  go_wp2_with fail
  go_loopw [3, 4] (fun v i wr => ∃ k : Nat, k ≤ L.length ∧ i = .int .i64 k ∧ wr.ownsRow w.heap.size 5 1 v (joinZ (L.take k)).length (Lib.byteCells (joinZ (L.take k))) ∧ Hid (Below w.heap.size w wr)) (fun _ i _ => L.length - (intOf i).toNat)
  case atStart => exact ⟨0, Nat.zero_le _, rfl, World.ownsRow_nil _ _ _ _, Lib.hid (Below.refl _ _)⟩
  case round =>
    obtain ⟨k, hk, rfl, hown, HB⟩ := hrel
    have hbs := HB.out.size
    by_cases hlt : k < L.length
    · have hlt' : (k : Int) < (L.length : Int) := by omega
      obtain ⟨b, off, c', e, -, -, hbl, hbS, hat⟩ := HI.out.at_ (by omega)
      cases e
      have hbw := HSS.out b hbS
      have hcell : ∀ o, wr.cell? ⟨b, o, none⟩ = w.cell? ⟨b, o, none⟩ := fun o => HB.out.cell (p := ⟨b, o, none⟩) hbw
      obtain ⟨-, a1, -, -, -, -⟩ := hat k hlt
      have HA1 := Lib.hid a1
      rw [← hcell] at a1
      have HJ := joinZ_step L k hlt
      have hle2 := joinZ_le L (k + 1)
      rw [HJ] at hle2
      obtain ⟨T, hT⟩ : ∃ T, T = L[k].text := ⟨_, rfl⟩
      rw [← hT] at a1 HA1 HJ hle2
      have hlz := HLen.out
      obtain ⟨J, hJ⟩ : ∃ J, J = joinZ (L.take k) := ⟨_, rfl⟩
      rw [← hJ] at hown HJ hle2
      have HO := Lib.hid hown
      have hTs : (⟨T.toArray⟩ : ByteArray).size = T.length := by rw [Lib.size_eq]
      clear hcell hat hT hJ hown
      obtain ⟨p1, n1, c1, rfl⟩ := bu_slice (by rw [bytes_len]; exact HO.out)
      by_cases h0 : k = 0
      · have hn1 : ¬ 0 < k := by omega
        have hn2 : ¬ (0 : Int) < (k : Int) := by omega
        rw [if_pos h0] at HJ hle2
        rw [List.length_append] at hle2
        have HQ := Lib.hid HJ
        clear HJ h0
        go_wp2_with (at_builtin; refine Lib.wpList_append_own_string _ rfl _ _ 30 9 rfl w.heap.size 5 i0 Tryd.underlying30 Tryd.underlying9 hi hz0 hz1 hz2 _ _ _ rfl HO.out ⟨T.toArray⟩ rfl (by unfold maxLen; omega) (by omega) (by omega) ?_)
        intro v' w2 hown' hgrow _
        have HB2 := Lib.hid (HB.out.grown hgrow (by omega) (fun k hk => (HO.out.lt k hk).1))
        have HO2 := Lib.hid (show w2.ownsRow w.heap.size 5 1 v' (joinZ (L.take (k + 1))).length (Lib.byteCells (joinZ (L.take (k + 1)))) by rw [HQ.out, bytes_app, List.length_append, ← str_cells T, ← hTs]; exact hown')
        obtain ⟨p2, n2, c2, rfl⟩ := bu_slice (by rw [bytes_len]; exact HO2.out)
        clear hown' hgrow
        go_wp2_with fail
        go_roundw
        case rel => exact ⟨k + 1, by omega, by go_num, HO2.out, HB2⟩
        case measure => simp [intOf]; omega
      · have hn1 : 0 < k := by omega
        have hn2 : (0 : Int) < (k : Int) := by omega
        rw [if_neg h0] at HJ hle2
        rw [List.length_append, List.length_cons] at hle2
        have HQ := Lib.hid HJ
        clear HJ h0
        go_wp2_with (at_builtin; refine wpList_append_own _ rfl _ _ 30 rfl w.heap.size 5 i0 (.int .u8 0) 1 1 Tryd.underlying30 hi hz0 hz1 hz2 rfl (by decide) _ _ _ rfl (HO.out.alloc _) ⟨wr.heap.size, 0, none⟩ 1 1 [.int .u8 32] rfl rfl ?c1 ?c2 ?c3 ?c4 ?c5 ?_)
        case c1 =>
          intro j u hj
          match j, hj with
          | 0, hj => simp at hj; subst hj; simp [Addr.add]
        case c2 => intro u hu; simp at hu; subst hu; rfl
        case c3 => unfold maxLen; omega
        case c4 => omega
        case c5 => simp; omega
        intro v' w2 hown' hgrow _
        have HB2 := Lib.hid ((HB.out.alloc hbs _).grown hgrow (by simp; omega) (fun k hk => (HO.out.lt k hk).1))
        have a1' : w2.cell? ⟨b, off + k * 6 + 1, none⟩ = some (.string ⟨T.toArray⟩) := (HB2.out.cell (p := ⟨b, _, none⟩) hbw).trans HA1.out
        have HO2 := Lib.hid (show w2.ownsRow w.heap.size 5 1 v' (J ++ [32]).length (Lib.byteCells (J ++ [32])) by rw [bytes_app, List.length_append]; exact hown')
        obtain ⟨p2, n2, c2, rfl⟩ := bu_slice (by rw [bytes_len]; exact HO2.out)
        have hJl : (J ++ [32]).length = J.length + 1 := by simp
        have HJl := Lib.hid hJl
        have hbs2 := HB2.out.size
        clear hown' hgrow a1 hJl
        go_wp2_with (at_builtin; refine Lib.wpList_append_own_string _ rfl _ _ 30 9 rfl w.heap.size 5 i0 Tryd.underlying30 Tryd.underlying9 hi hz0 hz1 hz2 _ _ _ rfl HO2.out ⟨T.toArray⟩ rfl ?c3 ?c4 ?c5 ?_)
        case c3 => unfold maxLen; rw [HJl.out]; omega
        case c4 => rw [HJl.out]; omega
        case c5 => omega
        intro v'' w3 hown'' hgrow' _
        have HB3 := Lib.hid (HB2.out.grown hgrow' (by omega) (fun k hk => (HO2.out.lt k hk).1))
        have HO3 := Lib.hid (show w3.ownsRow w.heap.size 5 1 v'' (joinZ (L.take (k + 1))).length (Lib.byteCells (joinZ (L.take (k + 1)))) by
          rw [HQ.out, show J ++ 32 :: T = (J ++ [32]) ++ T by simp, bytes_app, List.length_append, HJl.out, ← str_cells T]
          exact hown'')
        obtain ⟨p3, n3, c3, rfl⟩ := bu_slice (by rw [bytes_len]; exact HO3.out)
        clear hown'' hgrow'
        go_wp2_with fail
        go_roundw
        case rel => exact ⟨k + 1, by omega, by go_num, HO3.out, HB3⟩
        case measure => simp [intOf]; omega
    · have hge : ¬ (k : Int) < (L.length : Int) := by omega
      rw [List.take_of_length_le (by omega), ← HP0.out] at hown
      clear HP0
      rcases hown.2 with ⟨rfl, hnil⟩ | ⟨g, cap, cur, rfl, -, -, -, -, -, -⟩
      · have ha : P0 = [] := List.eq_nil_of_length_eq_zero hnil
        subst ha
        have hcv := Lib.run_convert_nil_bytes (P := Tryd.prog) wr 30 9 5 0 Tryd.underlying30 Tryd.underlying5 Tryd.underlying9
        clear hown hnil
        go_wp2_with fail
        go_ret
        exact ⟨rfl, HB.out⟩
      · have hcv := run_convert_bytes_back (P := Tryd.prog) wr 30 9 5 ⟨g, 0, none⟩ cap P0 Tryd.underlying30 Tryd.underlying5 Tryd.underlying9 (fun j hj => hown.cells (g := g) rfl j _ (by simp [Lib.byteCells, hj]))
        clear hown
        go_wp2_with fail
        go_ret
        exact ⟨rfl, HB.out⟩
end Go.Proofs.YtiokdlomfmkkoaaDoor
