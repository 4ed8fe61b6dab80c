/-
  Contract of the document's own reading of a value.
-/
import Derived.Test.YthnpiafpkllbpaaPkUi
namespace Go.Proofs.Ythnpiafpkllbpaa
open Go Go.RowKit

/-- What the document's reading of a value answers. -/
def ROneEnd (l : List UInt8) (w : World) (e : Ending) (w' : World) : Prop :=
  Below w.heap.size w w' ∧ ((∃ x r, valQ l = some (x, r) ∧ e = .returned (.tuple #[aggV x, .int .i64 ((l.length : Int) - (r.length : Int)), .int .i64 0])) ∨ (valQ l = none ∧ ∃ (x : V3) (n : Int), e = .returned (.tuple #[aggV x, .int .i64 n, .int .i64 30])))
theorem cell_new3 (w : World) (x y z : Value) (t : TypeId) : (w.alloc (.cells #[x, y, z] t)).cell? ⟨w.heap.size, 0, none⟩ = some x ∧ (w.alloc (.cells #[x, y, z] t)).cell? ⟨w.heap.size, 1, none⟩ = some y ∧ (w.alloc (.cells #[x, y, z] t)).cell? ⟨w.heap.size, 2, none⟩ = some z :=
  ⟨cell_of_row _ _ 0 _ _ (0, 0) (heap_alloc_new w _), cell_of_row _ _ 1 _ _ (0, 0) (heap_alloc_new w _), cell_of_row _ _ 2 _ _ (0, 0) (heap_alloc_new w _)⟩
theorem tail_in {n₀ : Nat} {w : World} {a : Addr} {cap : Nat} {c : UInt8} {r : List UInt8} (h : BytIn n₀ w (.slice (some a) (c :: r).length cap) (c :: r)) : BytIn n₀ w (.slice (some (a.add 1)) r.length (cap - 1)) r := by
  have := h.drop 1 (by simp)
  simpa using this
theorem one_len (c : UInt8) (r s : List UInt8) : (r.length : Int) - (s.length : Int) + 1 = (((c :: r).length : Nat) : Int) - (s.length : Int) := by simp; omega
set_option maxHeartbeats 2000000 in
set_option maxRecDepth 100000 in
theorem rtakeOne_any (v : Value) (l : List UInt8) (n₀ : Nat) (w : World) (h : BytIn n₀ w v l) (hn : n₀ ≤ w.heap.size) (hs : ∃ p cap, v = .slice p l.length cap ∧ l.length ≤ cap ∧ cap ≤ maxLen) (hl : l.length ≤ 3000) :
    Calls Try.prog 36 #[v] w (ROneEnd l w) := by
  obtain ⟨p, cap, rfl, s1, s2⟩ := hs
  have HS2 := Lib.hid s2
  unfold maxLen at s2
  have s2' : (cap : Int) ≤ 9223372036854775807 := by omega
  have HW : Hid (Below w.heap.size w (w.alloc (.cells #[.int .i64 0, .int .i64 0, .string ⟨#[]⟩] 78))) := Lib.hid ((Below.refl _ _).alloc (Nat.le_refl _) _)
  cases l with
  | nil =>
    clear h
    go_enter Try.func36, Try.ntmps36
    go_wp2_with fail
    exact bodyPost_ret (v := .tuple #[aggV ⟨0, 0, ⟨#[]⟩⟩, .int .i64 0, .int .i64 30]) (by simp [results, Try.results36, go_sem, aggV]) rfl ⟨HW.out, .inr ⟨rfl, ⟨0, 0, ⟨#[]⟩⟩, 0, rfl⟩⟩
  | cons c r =>
    rcases p with _ | a
    · exfalso
      rcases h with ⟨-, e⟩ | ⟨a, c', e, -⟩
      · cases e
      · cases e
    have HT := Lib.hid ((tail_in h).below (HW.out.mono hn))
    have hcell : w.cell? (a.add 0) = some (.int .u8 (c.toNat : Int)) ∧ a.block < w.heap.size := by
      rcases h with ⟨-, e⟩ | ⟨a', c', e, h⟩
      · cases e
      · injection e with e1
        injection e1 with e1
        subst e1
        exact ⟨(h 0 (by simp)).2, by have := (h 0 (by simp)).1; omega⟩
    have hadd : a.add 0 = a := by unfold Addr.add; simp
    rw [hadd] at hcell
    have q0 : (w.alloc (.cells #[.int .i64 0, .int .i64 0, .string ⟨#[]⟩] 78)).cell? a = some (.int .u8 (c.toNat : Int)) := (HW.out.cell hcell.2).trans hcell.1
    have hlr : r.length ≤ 3000 := by simp at hl; omega
    have hlr' : (r.length : Int) + 1 ≤ (cap : Int) := by simp at s1; omega
    have hlen0 : (0 : Int) ≤ (r.length : Int) := by omega
    have HLR := Lib.hid hlr
    have Hn : Hid (n₀ ≤ (w.alloc (.cells #[.int .i64 0, .int .i64 0, .string ⟨#[]⟩] 78)).heap.size) := Lib.hid (by simp; omega)
    obtain ⟨x0, x1, x2⟩ := cell_new3 w (.int .i64 0) (.int .i64 0) (.string ⟨#[]⟩) 78
    clear h hcell hadd
    have hr0 : cap = 1 → r = [] := fun e => List.eq_nil_of_length_eq_zero (by simp at s1; omega)
    have HT1 : Hid (cap = 1 → BytIn n₀ (w.alloc (.cells #[.int .i64 0, .int .i64 0, .string ⟨#[]⟩] 78)) (.slice (some a) r.length 0) r) := Lib.hid fun e => by rw [hr0 e]; exact nothing_in
    clear hr0
    cases h1 : ((c.toNat : Int) == 1) with
    | true =>
      obtain rfl := byte_is (d := 1) h1 rfl
      clear h1
      by_cases hc1 : cap = 1
      · have HT2 := Lib.hid (HT1.out hc1)
        go_enter Try.func36, Try.ntmps36
        go_wp2_with fail
        refine (rtakeInt_any _ r n₀ _ HT2.out HLR.out).mono ?_
        rintro e w1 ⟨rfl, ⟨y, q, ho, rfl⟩ | ⟨ho, rfl⟩⟩
        · have HO : Hid (valQ (1 :: r) = some (⟨1, y, ⟨#[]⟩⟩, q)) := Lib.hid (by rw [valQ_int, ho]; rfl)
          have HL := Lib.hid (one_len 1 r q)
          have hq : (q.length : Int) ≤ (r.length : Int) := by
            have := congrArg List.length (intQ_is ho).1
            rw [List.length_append] at this
            omega
          clear ho
          go_wp2_with fail
          exact bodyPost_ret (v := .tuple #[aggV ⟨1, y, ⟨#[]⟩⟩, .int .i64 ((r.length : Int) - (q.length : Int) + 1), .int .i64 0]) (by simp [results, Try.results36, go_sem, aggV]) rfl ⟨(Below.refl _ _).alloc (Nat.le_refl _) _, .inl ⟨_, q, HO.out, by rw [HL.out]⟩⟩
        · have HO : Hid (valQ (1 :: r) = none) := Lib.hid (by rw [valQ_int, ho]; rfl)
          clear ho
          go_wp2_with fail
          exact bodyPost_ret (v := .tuple #[aggV ⟨1, 0, ⟨#[]⟩⟩, .int .i64 1, .int .i64 30]) (by simp [results, Try.results36, go_sem, aggV]) rfl ⟨(Below.refl _ _).alloc (Nat.le_refl _) _, .inr ⟨HO.out, ⟨1, 0, ⟨#[]⟩⟩, 1, rfl⟩⟩
      · have hc1' : (1 : Int) < (cap : Int) := by omega
        go_enter Try.func36, Try.ntmps36
        go_wp2_with fail
        refine (rtakeInt_any _ r n₀ _ HT.out HLR.out).mono ?_
        rintro e w1 ⟨rfl, ⟨y, q, ho, rfl⟩ | ⟨ho, rfl⟩⟩
        · have HO : Hid (valQ (1 :: r) = some (⟨1, y, ⟨#[]⟩⟩, q)) := Lib.hid (by rw [valQ_int, ho]; rfl)
          have HL := Lib.hid (one_len 1 r q)
          have hq : (q.length : Int) ≤ (r.length : Int) := by
            have := congrArg List.length (intQ_is ho).1
            rw [List.length_append] at this
            omega
          clear ho
          go_wp2_with fail
          exact bodyPost_ret (v := .tuple #[aggV ⟨1, y, ⟨#[]⟩⟩, .int .i64 ((r.length : Int) - (q.length : Int) + 1), .int .i64 0]) (by simp [results, Try.results36, go_sem, aggV]) rfl ⟨(Below.refl _ _).alloc (Nat.le_refl _) _, .inl ⟨_, q, HO.out, by rw [HL.out]⟩⟩
        · have HO : Hid (valQ (1 :: r) = none) := Lib.hid (by rw [valQ_int, ho]; rfl)
          clear ho
          go_wp2_with fail
          exact bodyPost_ret (v := .tuple #[aggV ⟨1, 0, ⟨#[]⟩⟩, .int .i64 1, .int .i64 30]) (by simp [results, Try.results36, go_sem, aggV]) rfl ⟨(Below.refl _ _).alloc (Nat.le_refl _) _, .inr ⟨HO.out, ⟨1, 0, ⟨#[]⟩⟩, 1, rfl⟩⟩
    | false =>
      have hc1 := other_of h1 1 rfl
      cases h2 : ((c.toNat : Int) == 2) with
      | true =>
        obtain rfl := byte_is (d := 2) h2 rfl
        clear h1 h2 hc1
        by_cases hc1 : cap = 1
        · have HT2 := Lib.hid (HT1.out hc1)
          have HSh : Hid (∃ (p : Option Addr) (cap : Nat), Value.slice (some a) r.length 0 = .slice p r.length cap ∧ r.length ≤ cap ∧ cap ≤ maxLen) := Lib.hid ⟨_, _, rfl, by simp at s1; omega, by unfold maxLen; omega⟩
          go_enter Try.func36, Try.ntmps36
          go_wp2_with fail
          refine (rtakeText_any _ r 256 n₀ _ HT2.out Hn.out HSh.out HLR.out (by decide)).mono ?_
          rintro e w1 ⟨hb, ⟨y, q, vd, ho, rfl, hv⟩ | ⟨ho, rfl⟩⟩
          · have hx : textQ r 256 = some (y, q) := by rw [← ho, textM_of (by decide)]; rfl
            have HO : Hid (valQ (2 :: r) = some (symV y, q)) := Lib.hid (by rw [valQ_sym, hx]; rfl)
            have HL := Lib.hid (one_len 2 r q)
            have hq : (q.length : Int) ≤ (r.length : Int) := by
              have := congrArg List.length (textQ_is hx).1
              rw [List.length_append] at this
              omega
            have HE := Lib.hid (HW.out.trans (hb.mono (by simp)))
            have q1 := run_str w1 _ vd y hv.in_
            have hblk := (hb.block w.heap.size (by simp)).trans (heap_alloc_new w _)
            have c0 : w1.cell? ⟨w.heap.size, 0, none⟩ = some (.int .i64 0) := cell_of_row w1 _ 0 _ _ (0, 0) hblk
            have c1 : w1.cell? ⟨w.heap.size, 1, none⟩ = some (.int .i64 0) := cell_of_row w1 _ 1 _ _ (0, 0) hblk
            have c2 : w1.cell? ⟨w.heap.size, 2, none⟩ = some (.string ⟨#[]⟩) := cell_of_row w1 _ 2 _ _ (0, 0) hblk
            have f0 : w1.frozen? ⟨w.heap.size, 0, none⟩ = false := frozen_of_row w1 _ 0 _ _ hblk
            have f1 : w1.frozen? ⟨w.heap.size, 1, none⟩ = false := frozen_of_row w1 _ 1 _ _ hblk
            have f2 : w1.frozen? ⟨w.heap.size, 2, none⟩ = false := frozen_of_row w1 _ 2 _ _ hblk
            obtain ⟨p7, c7, rfl⟩ := hv.in_.shape
            clear ho hx hv hb hblk
            go_wp2_with fail
            exact bodyPost_ret (v := .tuple #[aggV (symV y), .int .i64 ((r.length : Int) - (q.length : Int) + 1), .int .i64 0]) (by simp [results, Try.results36, go_sem, aggV, symV, c0, c1, c2]) rfl ⟨HE.out.trans (below_sets _ _ _ _ _), .inl ⟨_, q, HO.out, by rw [HL.out]⟩⟩
          · have hx : textQ r 256 = none := by rw [← ho, textM_of (by decide)]; rfl
            have HO : Hid (valQ (2 :: r) = none) := Lib.hid (by rw [valQ_sym, hx]; rfl)
            have HE := Lib.hid (HW.out.trans (hb.mono (by simp)))
            have q1 := run_str w1 w1.heap.size (.slice none 0 0) [] (.inl ⟨rfl, rfl⟩)
            have hblk := (hb.block w.heap.size (by simp)).trans (heap_alloc_new w _)
            have c0 : w1.cell? ⟨w.heap.size, 0, none⟩ = some (.int .i64 0) := cell_of_row w1 _ 0 _ _ (0, 0) hblk
            have c1 : w1.cell? ⟨w.heap.size, 1, none⟩ = some (.int .i64 0) := cell_of_row w1 _ 1 _ _ (0, 0) hblk
            have c2 : w1.cell? ⟨w.heap.size, 2, none⟩ = some (.string ⟨#[]⟩) := cell_of_row w1 _ 2 _ _ (0, 0) hblk
            have f0 : w1.frozen? ⟨w.heap.size, 0, none⟩ = false := frozen_of_row w1 _ 0 _ _ hblk
            have f1 : w1.frozen? ⟨w.heap.size, 1, none⟩ = false := frozen_of_row w1 _ 1 _ _ hblk
            have f2 : w1.frozen? ⟨w.heap.size, 2, none⟩ = false := frozen_of_row w1 _ 2 _ _ hblk
            clear ho hx hb hblk
            go_wp2_with fail
            exact bodyPost_ret (v := .tuple #[aggV ⟨2, 0, ⟨#[]⟩⟩, .int .i64 1, .int .i64 30]) (by simp [results, Try.results36, go_sem, aggV, c0, c1, c2]) rfl ⟨HE.out.trans (below_sets _ _ _ _ _), .inr ⟨HO.out, ⟨2, 0, ⟨#[]⟩⟩, 1, rfl⟩⟩
        · have hc1' : (1 : Int) < (cap : Int) := by omega
          have HSh : Hid (∃ (p : Option Addr) (cp : Nat), Value.slice (some (a.add 1)) r.length (cap - 1) = .slice p r.length cp ∧ r.length ≤ cp ∧ cp ≤ maxLen) := Lib.hid ⟨_, _, rfl, by simp at s1; omega, by unfold maxLen; omega⟩
          go_enter Try.func36, Try.ntmps36
          go_wp2_with fail
          refine (rtakeText_any _ r 256 n₀ _ HT.out Hn.out HSh.out HLR.out (by decide)).mono ?_
          rintro e w1 ⟨hb, ⟨y, q, vd, ho, rfl, hv⟩ | ⟨ho, rfl⟩⟩
          · have hx : textQ r 256 = some (y, q) := by rw [← ho, textM_of (by decide)]; rfl
            have HO : Hid (valQ (2 :: r) = some (symV y, q)) := Lib.hid (by rw [valQ_sym, hx]; rfl)
            have HL := Lib.hid (one_len 2 r q)
            have hq : (q.length : Int) ≤ (r.length : Int) := by
              have := congrArg List.length (textQ_is hx).1
              rw [List.length_append] at this
              omega
            have HE := Lib.hid (HW.out.trans (hb.mono (by simp)))
            have q1 := run_str w1 _ vd y hv.in_
            have hblk := (hb.block w.heap.size (by simp)).trans (heap_alloc_new w _)
            have c0 : w1.cell? ⟨w.heap.size, 0, none⟩ = some (.int .i64 0) := cell_of_row w1 _ 0 _ _ (0, 0) hblk
            have c1 : w1.cell? ⟨w.heap.size, 1, none⟩ = some (.int .i64 0) := cell_of_row w1 _ 1 _ _ (0, 0) hblk
            have c2 : w1.cell? ⟨w.heap.size, 2, none⟩ = some (.string ⟨#[]⟩) := cell_of_row w1 _ 2 _ _ (0, 0) hblk
            have f0 : w1.frozen? ⟨w.heap.size, 0, none⟩ = false := frozen_of_row w1 _ 0 _ _ hblk
            have f1 : w1.frozen? ⟨w.heap.size, 1, none⟩ = false := frozen_of_row w1 _ 1 _ _ hblk
            have f2 : w1.frozen? ⟨w.heap.size, 2, none⟩ = false := frozen_of_row w1 _ 2 _ _ hblk
            obtain ⟨p7, c7, rfl⟩ := hv.in_.shape
            clear ho hx hv hb hblk
            go_wp2_with fail
            exact bodyPost_ret (v := .tuple #[aggV (symV y), .int .i64 ((r.length : Int) - (q.length : Int) + 1), .int .i64 0]) (by simp [results, Try.results36, go_sem, aggV, symV, c0, c1, c2]) rfl ⟨HE.out.trans (below_sets _ _ _ _ _), .inl ⟨_, q, HO.out, by rw [HL.out]⟩⟩
          · have hx : textQ r 256 = none := by rw [← ho, textM_of (by decide)]; rfl
            have HO : Hid (valQ (2 :: r) = none) := Lib.hid (by rw [valQ_sym, hx]; rfl)
            have HE := Lib.hid (HW.out.trans (hb.mono (by simp)))
            have q1 := run_str w1 w1.heap.size (.slice none 0 0) [] (.inl ⟨rfl, rfl⟩)
            have hblk := (hb.block w.heap.size (by simp)).trans (heap_alloc_new w _)
            have c0 : w1.cell? ⟨w.heap.size, 0, none⟩ = some (.int .i64 0) := cell_of_row w1 _ 0 _ _ (0, 0) hblk
            have c1 : w1.cell? ⟨w.heap.size, 1, none⟩ = some (.int .i64 0) := cell_of_row w1 _ 1 _ _ (0, 0) hblk
            have c2 : w1.cell? ⟨w.heap.size, 2, none⟩ = some (.string ⟨#[]⟩) := cell_of_row w1 _ 2 _ _ (0, 0) hblk
            have f0 : w1.frozen? ⟨w.heap.size, 0, none⟩ = false := frozen_of_row w1 _ 0 _ _ hblk
            have f1 : w1.frozen? ⟨w.heap.size, 1, none⟩ = false := frozen_of_row w1 _ 1 _ _ hblk
            have f2 : w1.frozen? ⟨w.heap.size, 2, none⟩ = false := frozen_of_row w1 _ 2 _ _ hblk
            clear ho hx hb hblk
            go_wp2_with fail
            exact bodyPost_ret (v := .tuple #[aggV ⟨2, 0, ⟨#[]⟩⟩, .int .i64 1, .int .i64 30]) (by simp [results, Try.results36, go_sem, aggV, c0, c1, c2]) rfl ⟨HE.out.trans (below_sets _ _ _ _ _), .inr ⟨HO.out, ⟨2, 0, ⟨#[]⟩⟩, 1, rfl⟩⟩
      | false =>
        have hc2 := other_of h2 2 rfl
        have HO : Hid (valQ (c :: r) = none) := Lib.hid (valQ_none r hc1 hc2)
        clear hc1 hc2
        go_enter Try.func36, Try.ntmps36
        go_wp2_with fail
        exact bodyPost_ret (v := .tuple #[aggV ⟨0, 0, ⟨#[]⟩⟩, .int .i64 0, .int .i64 30]) (by simp [results, Try.results36, go_sem, aggV]) rfl ⟨HW.out, .inr ⟨HO.out, ⟨0, 0, ⟨#[]⟩⟩, 0, rfl⟩⟩
end Go.Proofs.Ythnpiafpkllbpaa
