/-
  Contract of value.decode at a text that does not begin with a quote.
-/
import Derived.Test.YtnbaemfkpfmheaaGreatDoorText
import Derived.LaidEql
import Derived.WideLaws
import Derived.RegionTactic
import Derived.ChangeAlike
import Derived.Deep.DeepFit
namespace Go.Proofs.YtnbaemfkpfmheaaGreatDoor
open Go Go.RowKit

theorem below_bytes {w w' : World} {e : TypeId} (h : w' = w ∨ ∃ t, w' = Lib.bytesWorld w e t) : Below w.heap.size w w' := by
  rcases h with rfl | ⟨t, rfl⟩
  · exact Below.refl _ _
  · exact Lib.bytesWorld_below _ _ _

/-- The three cells of a struct that the call has just made stand as they were behind whatever keeps them. -/
theorem kept3 {w w1 : World} {x y z : Value} {t B : Nat} (hb : Below B (w.alloc (.cells #[x, y, z] t)) w1) (hB : w.heap.size < B) :
    w1.cell? ⟨w.heap.size, 0, none⟩ = some x ∧ w1.cell? ⟨w.heap.size, 1, none⟩ = some y ∧ w1.cell? ⟨w.heap.size, 2, none⟩ = some z := by
  refine ⟨(hb.cell (p := ⟨w.heap.size, 0, none⟩) hB).trans ?_, (hb.cell (p := ⟨w.heap.size, 1, none⟩) hB).trans ?_, (hb.cell (p := ⟨w.heap.size, 2, none⟩) hB).trans ?_⟩
  all_goals (rw [cell_of_row _ w.heap.size _ _ t (0, 0) (heap_alloc_new w _)]; rfl)
theorem below_on {w w1 w2 : World} {o o' : Obj} (hb : Below (w.alloc o).heap.size (w.alloc o) w1) (hb2 : Below (w1.alloc o').heap.size (w1.alloc o') w2) (hz : w.heap.size < w1.heap.size) : Below (w.heap.size + 1) (w.alloc o) w2 :=
  (hb.mono (by simp)).trans ((below_then hb2).mono (by omega))

set_option maxHeartbeats 1000000 in
set_option maxRecDepth 100000 in
theorem decode_ok (s : ByteArray) (v : Int) (w : World) (hmax : s.size ≤ 1000000) (hpos : 0 < s.size) (h34 : ((s[0].toNat : Int) != 34) = true) (h : Lib.parseIntB 64 s.data.toList = .ok v) :
    Calls Tryz.prog 120 #[.string s] w fun e w' => e = .returned (.tuple #[.agg #[.int .i64 1, .int .i64 v, .string ⟨#[]⟩], .bool true]) ∧ Below w.heap.size w w' := by
  have hne : s.toList ≠ [] := by
    rw [Lib.toList_data]
    intro e
    have h0 : s.size = 0 := by rw [Lib.size_eq, e]; rfl
    omega
  have hn2 : s.toList.isEmpty = false := by simpa using hne
  have H := Lib.hid h
  clear h
  go_enter Tryz.func120, Tryz.ntmps120
  go_wp2_with (go_at_call 126; refine (Tryz.strconv_ParseInt_10_at64_ok s (by omega) v H.out _).mono ?_; rintro e w1 ⟨rfl, hw1⟩; have hb := below_bytes hw1; clear hw1; obtain ⟨hc, hf⟩ := bcell hb; have hz : w.heap.size < w1.heap.size := by have := hb.size; simp at this; omega)
  go_region
  go_wp2
  refine bodyPost_ret (v := .tuple #[.agg #[.int .i64 1, .int .i64 v, .string ⟨#[]⟩], .bool true]) (by simp [results, Tryz.results120, go_sem, hc]) rfl ⟨rfl, ?_⟩
  have hB := below_then hb
  repeat (first | exact hB | refine Below.setCell ?_ (by simp) _ | refine Below.drew ?_)

/-- What a call of decode answers, as a contract over every world whose variables are as laid. -/
def DecIs (s : ByteArray) (k n : Int) (S : ByteArray) (ok : Bool) : Prop :=
  ∀ w : World, Glob w → Calls Tryz.prog 120 #[.string s] w fun e w' => e = .returned (.tuple #[.agg #[.int .i64 k, .int .i64 n, .string S], .bool ok]) ∧ Below w.heap.size w w'

set_option maxHeartbeats 1000000 in
set_option maxRecDepth 100000 in
theorem read_hit (s : ByteArray) (k n : Int) (S : ByteArray) (w : World) (hd : Hid (DecIs s k n S true)) (h : IsV k n S) (hI : I64 n) (ht : s = textS k n S) (G : Glob w) :
    Calls Tryz.prog 115 #[.string s] w fun e w' => e = .returned (.tuple #[.agg #[.int .i64 k, .int .i64 n, .string S], .int .i64 0]) ∧ Below w.heap.size w w' := by
  have HT := Lib.hid ht
  clear ht
  have hse : (textS k n S).toList = s.toList := by rw [← HT.out]
  go_enter Tryz.func115, Tryz.ntmps115
  go_wp2_with (first
    | (go_at_call 120; refine (hd.out _ (G.below (below_box _ _))).mono ?_; rintro e w1 ⟨rfl, hb⟩; obtain ⟨hc, hf⟩ := bcell hb; have hz : w.heap.size < w1.heap.size := by have := hb.size; simp at this; omega)
    | (go_at_call 121; refine (text_yes _ _ _ _ h hI ?_).mono ?_; rotate_left; rintro e w2 ⟨rfl, hb2⟩; obtain ⟨hc2, hf2⟩ := bcell hb2; have hz2 : w1.heap.size < w2.heap.size := by have := hb2.size; simp at this; omega))
  case refine_1 => exact (G.below (below_then hb)).below (below_box _ _)
  obtain ⟨q0, q1, q2⟩ := kept3 (below_on hb hb2 hz) (by omega)
  refine bodyPost_ret (v := .tuple #[.agg #[.int .i64 k, .int .i64 n, .string S], .int .i64 0]) (by simp [results, Tryz.results115, go_sem, q0, q1, q2]) rfl ⟨rfl, ?_⟩
  have hB : Below w.heap.size w w2 := (below_then hb).trans ((below_then hb2).mono (by omega))
  repeat (first | exact hB | refine Below.setCell ?_ (by simp) _ | refine Below.drew ?_)
set_option maxHeartbeats 1000000 in
set_option maxRecDepth 100000 in
theorem read_no1 (s : ByteArray) (k n : Int) (S : ByteArray) (w : World) (hd : Hid (DecIs s k n S false)) (G : Glob w) :
    Calls Tryz.prog 115 #[.string s] w fun e w' => e = .returned (.tuple #[.agg #[.int .i64 0, .int .i64 0, .string ⟨#[]⟩], .int .i64 10]) ∧ Below w.heap.size w w' := by
  go_enter Tryz.func115, Tryz.ntmps115
  go_wp2_with (go_at_call 120; refine (hd.out _ (G.below (below_box _ _))).mono ?_; rintro e w1 ⟨rfl, hb⟩; obtain ⟨hc, hf⟩ := bcell hb; have hz : w.heap.size < w1.heap.size := by have := hb.size; simp at this; omega)
  obtain ⟨q0, q1, q2⟩ := kept3 hb (by simp)
  refine bodyPost_ret (v := .tuple #[.agg #[.int .i64 0, .int .i64 0, .string ⟨#[]⟩], .int .i64 10]) (by simp [results, Tryz.results115, go_sem, q0, q1, q2, hz]) rfl ⟨rfl, ?_⟩
  have hB : Below w.heap.size w w1 := below_then hb
  repeat (first | exact hB | refine Below.setCell ?_ (by simp) _ | refine Below.drew ?_ | refine Below.alloc ?_ (by simp; omega) _)
set_option maxHeartbeats 1000000 in
set_option maxRecDepth 100000 in
theorem read_no2 (s : ByteArray) (k n : Int) (S : ByteArray) (w : World) (hd : Hid (DecIs s k n S true)) (h : ¬ IsV k n S) (G : Glob w) :
    Calls Tryz.prog 115 #[.string s] w fun e w' => e = .returned (.tuple #[.agg #[.int .i64 0, .int .i64 0, .string ⟨#[]⟩], .int .i64 10]) ∧ Below w.heap.size w w' := by
  go_enter Tryz.func115, Tryz.ntmps115
  go_wp2_with (first
    | (go_at_call 120; refine (hd.out _ (G.below (below_box _ _))).mono ?_; rintro e w1 ⟨rfl, hb⟩; obtain ⟨hc, hf⟩ := bcell hb; have hz : w.heap.size < w1.heap.size := by have := hb.size; simp at this; omega)
    | (go_at_call 121; refine (text_no _ _ _ _ h).mono ?_; rintro e w2 ⟨rfl, hb2⟩; obtain ⟨hc2, hf2⟩ := bcell hb2; have hz2 : w1.heap.size < w2.heap.size := by have := hb2.size; simp at this; omega))
  obtain ⟨q0, q1, q2⟩ := kept3 (below_on hb hb2 hz) (by omega)
  refine bodyPost_ret (v := .tuple #[.agg #[.int .i64 0, .int .i64 0, .string ⟨#[]⟩], .int .i64 10]) (by simp [results, Tryz.results115, go_sem, q0, q1, q2]) rfl ⟨rfl, ?_⟩
  have hB : Below w.heap.size w w2 := (below_then hb).trans ((below_then hb2).mono (by omega))
  repeat (first | exact hB | refine Below.setCell ?_ (by simp) _ | refine Below.drew ?_ | refine Below.alloc ?_ (by simp; omega) _)
set_option maxHeartbeats 1000000 in
set_option maxRecDepth 100000 in
theorem read_no3 (s : ByteArray) (k n : Int) (S : ByteArray) (w : World) (hd : Hid (DecIs s k n S true)) (h : IsV k n S) (hI : I64 n) (ht : (textS k n S).toList ≠ s.toList) (G : Glob w) :
    Calls Tryz.prog 115 #[.string s] w fun e w' => e = .returned (.tuple #[.agg #[.int .i64 0, .int .i64 0, .string ⟨#[]⟩], .int .i64 10]) ∧ Below w.heap.size w w' := by
  have hbq : ((textS k n S).toList == s.toList) = false := by simpa using ht
  clear ht
  go_enter Tryz.func115, Tryz.ntmps115
  go_wp2_with (first
    | (go_at_call 120; refine (hd.out _ (G.below (below_box _ _))).mono ?_; rintro e w1 ⟨rfl, hb⟩; obtain ⟨hc, hf⟩ := bcell hb; have hz : w.heap.size < w1.heap.size := by have := hb.size; simp at this; omega)
    | (go_at_call 121; refine (text_yes _ _ _ _ h hI ?_).mono ?_; rotate_left; rintro e w2 ⟨rfl, hb2⟩; obtain ⟨hc2, hf2⟩ := bcell hb2; have hz2 : w1.heap.size < w2.heap.size := by have := hb2.size; simp at this; omega))
  case refine_1 => exact (G.below (below_then hb)).below (below_box _ _)
  obtain ⟨q0, q1, q2⟩ := kept3 (below_on hb hb2 hz) (by omega)
  refine bodyPost_ret (v := .tuple #[.agg #[.int .i64 0, .int .i64 0, .string ⟨#[]⟩], .int .i64 10]) (by simp [results, Tryz.results115, go_sem, q0, q1, q2]) rfl ⟨rfl, ?_⟩
  have hB : Below w.heap.size w w2 := (below_then hb).trans ((below_then hb2).mono (by omega))
  repeat (first | exact hB | refine Below.setCell ?_ (by simp) _ | refine Below.drew ?_ | refine Below.alloc ?_ (by simp; omega) _)
end Go.Proofs.YtnbaemfkpfmheaaGreatDoor
