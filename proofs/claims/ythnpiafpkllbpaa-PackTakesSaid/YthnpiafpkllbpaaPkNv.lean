/-
  Contracts of pack's reading of a symbol's byte string and of a value.
-/
import Derived.Test.YthnpiafpkllbpaaPkNi
namespace Go.Proofs.Ythnpiafpkllbpaa
open Go Go.RowKit

set_option maxHeartbeats 2000000 in
set_option maxRecDepth 100000 in
theorem rdText_any (n₀ R : Nat) (l : List UInt8) (w : World) (h : RestAt n₀ w R l) : Calls Try.prog 33 #[.pointer (some ⟨R, 0, none⟩), .int .i64 256] w (ReadEnd (fun s w' v => BytIn n₀ w' v s) n₀ R (textQ l 256) w) := by
  have H := Lib.hid h
  clear h
  go_enter Try.func33, Try.ntmps33
  go_wp2_with fail
  refine (rdNum_any n₀ R l w H.out).mono ?_
  rintro e w1 ⟨hk, ⟨n, r, v, ho, rfl, rfl, hr⟩ | ⟨ho, rfl⟩⟩
  · have HK := Lib.hid hk
    have HR := Lib.hid hr
    have HO : Hid (textQ l 256 = if n ≤ 256 ∧ n ≤ r.length then some (r.take n, r.drop n) else none) := Lib.hid (by unfold textQ; rw [ho])
    clear hk hr ho
    by_cases hn : n ≤ 256
    · have hn' : (n : Int) ≤ 256 := by omega
      go_wp2_with fail
      refine (take_any n₀ R r n w1 HR.out).mono ?_
      rintro e w2 (⟨hl, p, cap, rfl, hb, hr2, hk2⟩ | ⟨hl, rfl, rfl⟩)
      · have HO' : Hid (textQ l 256 = some (r.take n, r.drop n)) := Lib.hid (by rw [HO.out, if_pos ⟨hn, hl⟩])
        have HK2 := Lib.hid (HK.out.trans hk2)
        have HB := Lib.hid hb
        have HR2 := Lib.hid hr2
        clear hb hr2 hk2
        go_wp2_with fail
        go_ret
        exact ⟨HK2.out, .inl ⟨_, _, _, HO'.out, rfl, HB.out, HR2.out⟩⟩
      · have HO' : Hid (textQ l 256 = none) := Lib.hid (by rw [HO.out, if_neg (fun h => by omega)])
        go_wp2_with fail
        exact ⟨rfl, HK.out, .inr ⟨HO'.out, rfl⟩⟩
    · have hn' : (256 : Int) < (n : Int) := by omega
      have HO' : Hid (textQ l 256 = none) := Lib.hid (by rw [HO.out, if_neg (fun h => hn h.1)])
      go_wp2_with fail
      exact ⟨rfl, HK.out, .inr ⟨HO'.out, rfl⟩⟩
  · have HK := Lib.hid hk
    have HO : Hid (textQ l 256 = none) := Lib.hid (by unfold textQ; rw [ho])
    clear hk ho
    go_wp2_with fail
    exact ⟨rfl, HK.out, .inr ⟨HO.out, rfl⟩⟩

set_option maxHeartbeats 2000000 in
set_option maxRecDepth 100000 in
theorem rdVal_any (n₀ R : Nat) (l : List UInt8) (w : World) (h : RestAt n₀ w R l) : Calls Try.prog 52 #[.pointer (some ⟨R, 0, none⟩)] w (ReadEnd (fun x _ v => v = aggV x) n₀ R (valQ l) w) := by
  have H := Lib.hid h
  have hRlt := h.lt
  clear h
  have K0 := Lib.hid (keep_alloc R w (.cells #[.int .i64 0, .int .i64 0, .string ⟨#[]⟩] 78))
  go_enter Try.func52, Try.ntmps52
  go_wp2_with fail
  refine (one_any n₀ R l _ (H.out.alloc _)).mono ?_
  rintro e w1 (⟨c, r, rfl, rfl, hr, hk⟩ | ⟨rfl, rfl, hk⟩)
  rotate_left
  · have HK := Lib.hid (K0.out.trans hk)
    clear hk
    go_wp2_with fail
    exact ⟨rfl, HK.out, .inr ⟨rfl, rfl⟩⟩
  have HK := Lib.hid hk
  have HR := Lib.hid hr
  clear hk hr
  cases h1 : ((c.toNat : Int) == 1) with
  | true =>
    obtain rfl := byte_is (d := 1) h1 rfl
    clear h1
    go_wp2_with fail
    refine (rdI_any n₀ R r w1 HR.out).mono ?_
    rintro e w2 ⟨hk, ⟨x, r', v, ho, rfl, rfl, hr⟩ | ⟨ho, rfl⟩⟩
    · have HK2 := Lib.hid (HK.out.trans hk)
      have HR2 := Lib.hid hr
      have HO := Lib.hid ho
      clear hk hr ho
      obtain ⟨c0, c1, c2, f0, f1, f2, hlt⟩ := new_cells HK2.out hRlt
      go_wp2_with fail
      exact bodyPost_ret (v := aggV ⟨1, x, ⟨#[]⟩⟩) (by simp [results, Try.results52, go_sem, aggV, c0, c1, c2]) rfl ⟨(K0.out.trans HK2.out).below (below_sets _ _ _ _ _), .inl ⟨⟨1, x, ⟨#[]⟩⟩, r', _, (valQ_int r).trans (by rw [HO.out]; rfl), rfl, rfl, HR2.out.below (below_sets _ _ _ _ _) hRlt⟩⟩
    · have HK2 := Lib.hid ((K0.out.trans HK.out).trans hk)
      have HO := Lib.hid ho
      clear hk ho
      go_wp2_with fail
      exact ⟨rfl, HK2.out, .inr ⟨(valQ_int r).trans (by rw [HO.out]; rfl), rfl⟩⟩
  | false =>
    have hc1 := other_of h1 1 rfl
    cases h2 : ((c.toNat : Int) == 2) with
    | true =>
      obtain rfl := byte_is (d := 2) h2 rfl
      clear h1 h2 hc1
      go_wp2_with fail
      refine (rdText_any n₀ R r w1 HR.out).mono ?_
      rintro e w2 ⟨hk, ⟨x, r', v, ho, rfl, hv, hr⟩ | ⟨ho, rfl⟩⟩
      · have HK2 := Lib.hid (HK.out.trans hk)
        have HR2 := Lib.hid hr
        have HO := Lib.hid ho
        have hcv := run_str w2 _ _ _ hv
        obtain ⟨p5, cap5, rfl⟩ := hv.shape
        clear hk hr ho hv
        obtain ⟨c0, c1, c2, f0, f1, f2, hlt⟩ := new_cells HK2.out hRlt
        go_wp2_with fail
        exact bodyPost_ret (v := aggV (symV x)) (by simp [results, Try.results52, go_sem, aggV, symV, c0, c1, c2]) rfl ⟨(K0.out.trans HK2.out).below (below_sets _ _ _ _ _), .inl ⟨symV x, r', _, (valQ_sym r).trans (by rw [HO.out]; rfl), rfl, rfl, HR2.out.below (below_sets _ _ _ _ _) hRlt⟩⟩
      · have HK2 := Lib.hid ((K0.out.trans HK.out).trans hk)
        have HO := Lib.hid ho
        clear hk ho
        go_wp2_with fail
        exact ⟨rfl, HK2.out, .inr ⟨(valQ_sym r).trans (by rw [HO.out]; rfl), rfl⟩⟩
    | false =>
      have hc2 := other_of h2 2 rfl
      have HS : Hid (valQ (c :: r) = none) := Lib.hid (valQ_none r hc1 hc2)
      have HK2 := Lib.hid (K0.out.trans HK.out)
      clear hc1 hc2
      go_wp2_with fail
      exact ⟨rfl, HK2.out, .inr ⟨HS.out, rfl⟩⟩
end Go.Proofs.Ythnpiafpkllbpaa
