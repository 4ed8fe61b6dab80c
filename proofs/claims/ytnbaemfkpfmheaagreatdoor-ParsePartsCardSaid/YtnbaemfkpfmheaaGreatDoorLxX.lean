/-
  Contracts of the document's Words, Gaps, Same and SameAll.
-/
import Derived.Test.YtnbaemfkpfmheaaGreatDoorLxU
import Derived.Test.YtnbaemfkpfmheaaGreatDoorLxH
namespace Go.Proofs.YtnbaemfkpfmheaaGreatDoor
open Go Go.RowKit

theorem rk_step {s : ByteArray} {p : Nat} (hp : p < s.size) {x : Wd} {b : Bool} (h : RkAns (s.data.toList.drop p) p x b) :
    (b = true ∧ x.pos = p ∧ 1 ≤ x.text.length ∧ p + x.text.length ≤ s.size ∧ lexG valL (s.data.toList.drop p) p = (x :: (lexG valL (s.data.toList.drop (gapTo s (p + x.text.length))) (gapTo s (p + x.text.length))).1, (lexG valL (s.data.toList.drop (gapTo s (p + x.text.length))) (gapTo s (p + x.text.length))).2)) ∨
      (b = false ∧ lexG valL (s.data.toList.drop p) p = ([], some p)) := by
  rcases h with ⟨k, n, v, ht, rfl, rfl⟩ | ⟨ht, rfl⟩
  · left
    obtain ⟨h1, h | h⟩ := lex_step hp (x := ⟨k, (s.data.toList.drop p).take n, v, p⟩) (b := true) ⟨rfl, .inl ⟨k, n, v, ht, rfl, rfl⟩⟩
    · exact ⟨rfl, rfl, h.2.1, h.2.2.1, h.2.2.2⟩
    · cases h.1
  · right
    rw [lx_at s p hp] at ht ⊢
    exact ⟨rfl, lexG_bad ht p⟩
set_option maxHeartbeats 2000000 in
set_option maxRecDepth 100000 in
theorem rwords_any (s : ByteArray) (w : World) (hm : s.size ≤ 1000000) :
    Calls Tryz.prog 50 #[.string s] w fun e w' => (∃ v, e = .returned (.tuple #[v, .int .i64 ((wordsL s.data.toList).2.1 : Int), .int .i64 (wordsL s.data.toList).2.2]) ∧ OwnW w.heap.size w' v (wordsL s.data.toList).1) ∧ Below w.heap.size w w' := by
  by_cases hlong : 65536 < s.size
  · have hl' : (65536 : Int) < (s.size : Int) := by omega
    have HE := Lib.hid (show wordsL s.data.toList = ([], 0, 2) by unfold wordsL; rw [if_pos (by rw [← Lib.size_eq]; exact hlong)])
    rw [HE.out]
    go_enter Tryz.func50, Tryz.ntmps50
    go_wp2_with fail
    refine bodyPost_ret (v := .tuple #[.slice none 0 0, .int .i64 0, .int .i64 2]) (by simp [results, Tryz.results50, go_sem]) rfl ⟨⟨_, rfl, OwnW.nil _ _⟩, Below.refl _ _⟩
  have hshort : ¬ (65536 : Int) < (s.size : Int) := by omega
  obtain ⟨D0, hD0⟩ : ∃ D0, D0 = lexS valL s.data.toList 0 := ⟨_, rfl⟩
  have HD0 := Lib.hid (show D0 = lexG valL (s.data.toList.drop (gapTo s 0)) (gapTo s 0) by rw [hD0, ← lexS_to]; rfl)
  have HL0 := Lib.hid (show wordsL s.data.toList = match D0.2 with | none => (D0.1, 0, 0) | some n => ([], n, 120) by
    unfold wordsL
    rw [if_neg (by rw [← Lib.size_eq]; exact hlong), hD0]
    rfl)
  obtain ⟨R, hR⟩ : ∃ R, R = wordsL s.data.toList := ⟨_, rfl⟩
  rw [← hR] at HL0 ⊢
  have HLen := Lib.hid (show D0.1.length ≤ 1000000 by rw [hD0]; have := lexS_len (V := valL) _ s.data.toList 0 (Nat.le_refl _); rw [← Lib.size_eq] at this; omega)
  have HM := Lib.hid hm
  have HK0 := Lib.hid (rgap_any s 0 w hm (Nat.zero_le _))
  have g1 : gapTo s 0 ≤ s.size := gapTo_le (Nat.zero_le _)
  clear hD0 hR
  go_enter Tryz.func50, Tryz.ntmps50
  go_wp2_with (go_at_call 84; refine HK0.out.mono ?_; rintro e w1 ⟨rfl, rfl⟩)
  clear HK0
  go_loopw [5, 6] (fun v i wr => ∃ (p : Nat) (P : List Wd) (D : List Wd × Option Nat), p ≤ s.size ∧ i = .int .i64 p ∧ Hid (OwnW w.heap.size wr v P) ∧ Hid (D = lexG valL (s.data.toList.drop p) p) ∧ Hid ((P ++ D.1, D.2) = D0) ∧ Hid (Below w.heap.size w wr)) (fun _ i _ => s.size - (intOf i).toNat)
  case atStart => exact ⟨gapTo s 0, [], D0, g1, by simp [gapTo], Lib.hid (OwnW.nil _ _), HD0, Lib.hid rfl, Lib.hid (Below.refl _ _)⟩
  case round =>
    clear g1
    obtain ⟨p, P, D, hp, rfl, HO, HD, HE, HB⟩ := hrel
    by_cases hlt : p < s.size
    · have hlt' : (p : Int) < (s.size : Int) := by omega
      have HT := Lib.hid (rword_any s p wr HM.out hlt)
      have hwz := HB.out.size
      go_wp2_with (go_at_call 85; refine HT.out.mono ?_)
      rintro e w1 ⟨⟨x, b, hx, rfl⟩, hb1⟩
      have HB1 := Lib.hid hb1
      have hx := rk_step hlt hx
      unfold wordV
      rcases hx with ⟨rfl, hpos, hx1, hx2, hx3⟩ | ⟨rfl, hx3⟩
      · have HPos := Lib.hid hpos
        clear hpos
        have HX1 := Lib.hid hx1
        have HX2 := Lib.hid hx2
        have HX3 := Lib.hid hx3
        have HPl := Lib.hid (show P.length ≤ 1000000 by
          have := HLen.out
          have h2 := congrArg (fun q => q.1.length) HE.out
          simp only [List.length_append] at h2
          omega)
        have hnew := heap_alloc_new w1 (.cells #[.int .i64 x.kind, .string ⟨x.text.toArray⟩, .int .i64 x.val.1, .int .i64 x.val.2.1, .string x.val.2.2, .int .i64 x.pos] 107)
        have hs1 : (w1.alloc (.cells #[.int .i64 x.kind, .string ⟨x.text.toArray⟩, .int .i64 x.val.1, .int .i64 x.val.2.1, .string x.val.2.2, .int .i64 x.pos] 107)).heap.size = w1.heap.size + 1 := by simp
        have HW := Lib.hid (HO.out.below (hb1.alloc hb1.size (.cells #[.int .i64 x.kind, .string ⟨x.text.toArray⟩, .int .i64 x.val.1, .int .i64 x.val.2.1, .string x.val.2.2, .int .i64 x.pos] 107)))
        have hlit := litW_in (w1.alloc (.cells #[.int .i64 x.kind, .string ⟨x.text.toArray⟩, .int .i64 x.val.1, .int .i64 x.val.2.1, .string x.val.2.2, .int .i64 x.pos] 107)) x
        rw [hs1] at hlit
        have HLit := Lib.hid hlit
        have HNew := Lib.hid hnew
        have HB2 := Lib.hid ((HB.out.trans (hb1.mono hwz)).alloc (by have := hb1.size; omega) (.cells #[.int .i64 x.kind, .string ⟨x.text.toArray⟩, .int .i64 x.val.1, .int .i64 x.val.2.1, .string x.val.2.2, .int .i64 x.pos] 107))
        have hz1 := hb1.size
        obtain ⟨p0, c0, e0, -⟩ := HO.out.in_ (fun _ => True) (fun _ _ => trivial)
        subst e0
        have q1 := cell_of_row _ _ 1 _ _ (0, 0) hnew
        clear hx1 hx2 hx3 hb1 HT hnew hlit
        go_wp2_with (at_builtin; refine wpList_appW rfl (.tmp 27) (.tmp 29) rfl w.heap.size _ P x (w1.heap.size + 1) 1 rfl rfl (HW.out.alloc _) HLit.out HPl.out (by simp; omega) ?_)
        intro v5 w5 ho5 hg5 hv5
        have hb5 : Below w.heap.size w w5 := (HB2.out.alloc (by simp; omega) _).grown hg5 (by simp; omega) (fun k e => (HW.out.lt k e).1)
        have hn5 := (hg5.block w1.heap.size (by simp; omega) (fun e => by have := (HO.out.lt _ e.symm).2; omega)).trans ((Below.heap_alloc _ _ _ (by simp)).trans HNew.out)
        have k1 := cell_of_row _ _ 1 _ _ (0, 0) hn5
        have HO5 := Lib.hid ho5
        have HB5 := Lib.hid hb5
        obtain ⟨p5, c5, e5, -⟩ := ho5.in_ (fun _ => True) (fun _ _ => trivial)
        rw [List.length_append, List.length_singleton] at e5
        subst e5
        have hwr : wrap64 ((p : Int) + (x.text.length : Int)) = ((p + x.text.length : Nat) : Int) := by
          have := HX2.out
          have := HM.out
          rw [IntWalk.wrap64_in _ (by omega)]
          omega
        have HK := Lib.hid (rgap_any s (p + x.text.length) w5 HM.out HX2.out)
        clear ho5 hg5 hv5 hb5 hn5
        go_wp2_with (go_at_call 84; refine HK.out.mono ?_; rintro e w6 ⟨rfl, rfl⟩)
        go_roundw
        case rel => exact ⟨gapTo s (p + x.text.length), P ++ [x], _, gapTo_le HX2.out, by simp [gapTo], HO5, Lib.hid rfl, Lib.hid (by rw [← HE.out, HD.out, HX3.out, List.append_assoc]; rfl), HB5⟩
        case measure =>
          have h5 := gapTo_le HX2.out
          have h6 := HX1.out
          have h7 := HX2.out
          have h8 : p + x.text.length ≤ gapTo s (p + x.text.length) := by unfold gapTo; omega
          have e9 : intOf (.int .i64 ((p : Int) + (x.text.length : Int) + (skC false (s.data.toList.drop (p + x.text.length)) : Int))) = (gapTo s (p + x.text.length) : Int) := by
            show (p : Int) + (x.text.length : Int) + (skC false (s.data.toList.drop (p + x.text.length)) : Int) = ((p + x.text.length + skC false (s.data.toList.drop (p + x.text.length)) : Nat) : Int)
            omega
          have e8 : intOf (.int .i64 (p : Int)) = (p : Int) := rfl
          rw [e9, e8]
          omega
      · have HR : Hid (R = ([], p, 120)) := Lib.hid (by
          have h2 : D0.2 = some p := by rw [← HE.out, HD.out, hx3]
          rw [HL0.out, h2])
        clear hx3 hb1 HT
        go_wp2_with fail
        refine bodyPost_ret (v := .tuple #[.slice none 0 0, .int .i64 p, .int .i64 120]) (by simp [results, Tryz.results50, go_sem]) rfl ⟨⟨_, by rw [HR.out], by rw [HR.out]; exact OwnW.nil _ _⟩, ?_⟩
        exact (HB.out.trans (HB1.out.mono hwz)).alloc (by have := HB1.out.size; omega) _
    · have hge : ¬ (p : Int) < (s.size : Int) := by omega
      have HR : Hid (R = (P, 0, 0)) := Lib.hid (by
        have h1 := HE.out
        rw [HD.out, lex_end (by omega), List.append_nil] at h1
        rw [HL0.out, ← h1])
      obtain ⟨p0, c0, e0, -⟩ := HO.out.in_ (fun _ => True) (fun _ _ => trivial)
      subst e0
      go_wp2_with fail
      refine bodyPost_ret (v := .tuple #[.slice p0 P.length c0, .int .i64 0, .int .i64 0]) (by simp [results, Tryz.results50, go_sem]) rfl ⟨⟨_, by rw [HR.out]; rfl, by rw [HR.out]; exact HO.out⟩, HB.out⟩
end Go.Proofs.YtnbaemfkpfmheaaGreatDoor
