/-
  Contract of the document's own Read, by what its whole, symbol and Text answer.
-/
import Derived.Test.YtnbaemfkpfmheaaGreatDoorWhole
import Derived.Test.YtnbaemfkpfmheaaGreatDoorRtext
namespace Go.Proofs.YtnbaemfkpfmheaaGreatDoor
open Go Go.RowKit

def WholeIs (s : ByteArray) (n : Int) (b : Bool) : Prop := ∀ w, Calls Tryz.prog 116 #[.string s] w fun e w' => e = .returned (.tuple #[.int .i64 n, .bool b]) ∧ w = w'
def SymIs (s S : ByteArray) (b : Bool) : Prop := ∀ w, Calls Tryz.prog 117 #[.string s] w fun e w' => e = .returned (.tuple #[.string S, .bool b]) ∧ Below w.heap.size w w'
def RTextIs (k n : Int) (S T : ByteArray) (g : Int) : Prop := ∀ w, Calls Tryz.prog 118 #[.agg #[.int .i64 k, .int .i64 n, .string S]] w fun e w' => e = .returned (.tuple #[.string T, .int .i64 g]) ∧ Below w.heap.size w w'

theorem keptAt {w w1 : World} {o : Obj} {x y z : Value} {t : Nat} (hb : Below ((w.alloc o).alloc (.cells #[x, y, z] t)).heap.size ((w.alloc o).alloc (.cells #[x, y, z] t)) w1) :
    w1.cell? ⟨w.heap.size + 1, 0, none⟩ = some x ∧ w1.cell? ⟨w.heap.size + 1, 1, none⟩ = some y ∧ w1.cell? ⟨w.heap.size + 1, 2, none⟩ = some z := by
  have h := kept3 hb (by simp)
  simpa using h

set_option maxHeartbeats 1000000 in
set_option maxRecDepth 100000 in
theorem rr_int_hit (s : ByteArray) (n : Int) (w : World) (hw : Hid (WholeIs s n true)) (ht : Hid (RTextIs 1 n ⟨#[]⟩ s 0)) :
    Calls Tryz.prog 110 #[.string s] w fun e w' => e = .returned (.tuple #[.agg #[.int .i64 1, .int .i64 n, .string ⟨#[]⟩], .int .i64 0]) ∧ Below w.heap.size w w' := by
  go_enter Tryz.func110, Tryz.ntmps110
  go_wp2_with (first
    | (go_at_call 116; refine (hw.out _).mono ?_; rintro e w1 ⟨rfl, rfl⟩)
    | (go_at_call 118; refine (ht.out _).mono ?_; rintro e w2 ⟨rfl, hb⟩; obtain ⟨hc, hf⟩ := bcell hb; have hz : w.heap.size + 1 < w2.heap.size := by have := hb.size; simp at this; omega))
  have hK : Below (w.heap.size + 1) (w.alloc (.cells #[.int .i64 0, .int .i64 0, .string ⟨#[]⟩] 82)) w2 := Below.trans (by repeat (first | exact Below.refl _ _ | refine Below.setCell ?_ (by simp) _ | refine Below.drew ?_ | refine Below.alloc ?_ (by simp) _)) (hb.mono (by first | (simp; done) | (simp; omega)))
  obtain ⟨q0, q1, q2⟩ := kept3 hK (by omega)
  refine bodyPost_ret (v := .tuple #[.agg #[.int .i64 1, .int .i64 n, .string ⟨#[]⟩], .int .i64 0]) (by simp [results, Tryz.results110, go_sem, q0, q1, q2]) rfl ⟨rfl, ?_⟩
  have hB : Below w.heap.size w w2 := Below.trans (by repeat (first | exact Below.refl _ _ | refine Below.setCell ?_ (by simp) _ | refine Below.drew ?_ | refine Below.alloc ?_ (by simp) _)) (hb.mono (by first | (simp; done) | (simp; omega)))
  repeat (first | exact hB | refine Below.setCell ?_ (by simp) _ | refine Below.drew ?_)
set_option maxHeartbeats 1000000 in
set_option maxRecDepth 100000 in
theorem rr_int_miss (s : ByteArray) (n : Int) (T : ByteArray) (w : World) (hw : Hid (WholeIs s n true)) (ht : Hid (RTextIs 1 n ⟨#[]⟩ T 0)) (hne : (T.toList == s.toList) = false) :
    Calls Tryz.prog 110 #[.string s] w fun e w' => e = .returned (.tuple #[.agg #[.int .i64 0, .int .i64 0, .string ⟨#[]⟩], .int .i64 10]) ∧ Below w.heap.size w w' := by
  go_enter Tryz.func110, Tryz.ntmps110
  go_wp2_with (first
    | (go_at_call 116; refine (hw.out _).mono ?_; rintro e w1 ⟨rfl, rfl⟩)
    | (go_at_call 118; refine (ht.out _).mono ?_; rintro e w2 ⟨rfl, hb⟩; obtain ⟨hc, hf⟩ := bcell hb; have hz : w.heap.size + 1 < w2.heap.size := by have := hb.size; simp at this; omega))
  have hK : Below (w.heap.size + 1) (w.alloc (.cells #[.int .i64 0, .int .i64 0, .string ⟨#[]⟩] 82)) w2 := Below.trans (by repeat (first | exact Below.refl _ _ | refine Below.setCell ?_ (by simp) _ | refine Below.drew ?_ | refine Below.alloc ?_ (by simp) _)) (hb.mono (by first | (simp; done) | (simp; omega)))
  obtain ⟨q0, q1, q2⟩ := kept3 hK (by omega)
  refine bodyPost_ret (v := .tuple #[.agg #[.int .i64 0, .int .i64 0, .string ⟨#[]⟩], .int .i64 10]) (by simp [results, Tryz.results110, go_sem, q0, q1, q2]) rfl ⟨rfl, ?_⟩
  have hB : Below w.heap.size w w2 := Below.trans (by repeat (first | exact Below.refl _ _ | refine Below.setCell ?_ (by simp) _ | refine Below.drew ?_ | refine Below.alloc ?_ (by simp) _)) (hb.mono (by first | (simp; done) | (simp; omega)))
  repeat (first | exact hB | refine Below.setCell ?_ (by simp) _ | refine Below.drew ?_)
set_option maxHeartbeats 1000000 in
set_option maxRecDepth 100000 in
theorem rr_sym_hit (s S : ByteArray) (n : Int) (w : World) (hw : Hid (WholeIs s n false)) (hs : Hid (SymIs s S true)) (ht : Hid (RTextIs 2 0 S s 0)) :
    Calls Tryz.prog 110 #[.string s] w fun e w' => e = .returned (.tuple #[.agg #[.int .i64 2, .int .i64 0, .string S], .int .i64 0]) ∧ Below w.heap.size w w' := by
  go_enter Tryz.func110, Tryz.ntmps110
  go_wp2_with (go_at_call 116; refine (hw.out _).mono ?_; rintro e w1 ⟨rfl, rfl⟩)
  refine (hs.out _).mono ?_
  rintro e w1 ⟨rfl, hb1⟩
  obtain ⟨hc1, hf1⟩ := bcell hb1
  have hz1 : w.heap.size + 1 < w1.heap.size := by have := hb1.size; simp at this; omega
  obtain ⟨r0, r1, r2⟩ := keptAt hb1
  have rf : w1.frozen? ⟨w.heap.size + 1, 2, none⟩ = false := (hf1 _ _ (by simp)).trans (by simp)
  go_wp2_with fail
  refine (ht.out _).mono ?_
  rintro e w2 ⟨rfl, hb⟩
  obtain ⟨hc, hf⟩ := bcell hb
  have hz : w.heap.size + 1 < w2.heap.size := by have := hb.size; simp at this; omega
  have hK1 : Below (w.heap.size + 1) (w.alloc (.cells #[.int .i64 0, .int .i64 0, .string ⟨#[]⟩] 82)) w1 := Below.trans (by repeat (first | exact Below.refl _ _ | refine Below.setCell ?_ (by simp) _ | refine Below.drew ?_ | refine Below.alloc ?_ (by simp) _)) (hb1.mono (by first | (simp; done) | (simp; omega)))
  have hK : Below (w.heap.size + 1) (w.alloc (.cells #[.int .i64 0, .int .i64 0, .string ⟨#[]⟩] 82)) w2 := Below.trans (by repeat (first | exact Below.refl _ _ | exact hK1 | refine Below.setCell ?_ (by simp) _ | refine Below.drew ?_ | refine Below.alloc ?_ (by simp) _)) (hb.mono (by first | (simp; done) | (simp; omega)))
  obtain ⟨q0, q1, q2⟩ := kept3 hK (by omega)
  have f0 : w2.frozen? ⟨w.heap.size, 0, none⟩ = false := (hK.frozen (p := ⟨w.heap.size, 0, none⟩) (by simp)).trans (by simp)
  have f1 : w2.frozen? ⟨w.heap.size, 1, none⟩ = false := (hK.frozen (p := ⟨w.heap.size, 1, none⟩) (by simp)).trans (by simp)
  have f2 : w2.frozen? ⟨w.heap.size, 2, none⟩ = false := (hK.frozen (p := ⟨w.heap.size, 2, none⟩) (by simp)).trans (by simp)
  go_wp2_with fail
  refine bodyPost_ret (v := .tuple #[.agg #[.int .i64 2, .int .i64 0, .string S], .int .i64 0]) (by simp [results, Tryz.results110, go_sem, q0, q1, q2]) rfl ⟨rfl, ?_⟩
  have hB1 : Below w.heap.size w w1 := Below.trans (by repeat (first | exact Below.refl _ _ | refine Below.setCell ?_ (by simp) _ | refine Below.drew ?_ | refine Below.alloc ?_ (by simp) _)) (hb1.mono (by first | (simp; done) | (simp; omega)))
  have hB : Below w.heap.size w w2 := Below.trans (by repeat (first | exact hB1 | refine Below.setCell ?_ (by simp) _ | refine Below.drew ?_ | refine Below.alloc ?_ (by simp) _)) (hb.mono (by first | (simp; done) | (simp; omega)))
  repeat (first | exact hB | refine Below.setCell ?_ (by simp) _ | refine Below.drew ?_)
set_option maxHeartbeats 1000000 in
set_option maxRecDepth 100000 in
theorem rr_sym_missT (s S : ByteArray) (n : Int) (T : ByteArray) (w : World) (hw : Hid (WholeIs s n false)) (hs : Hid (SymIs s S true)) (ht : Hid (RTextIs 2 0 S T 0)) (hne : (T.toList == s.toList) = false) :
    Calls Tryz.prog 110 #[.string s] w fun e w' => e = .returned (.tuple #[.agg #[.int .i64 0, .int .i64 0, .string ⟨#[]⟩], .int .i64 10]) ∧ Below w.heap.size w w' := by
  go_enter Tryz.func110, Tryz.ntmps110
  go_wp2_with (go_at_call 116; refine (hw.out _).mono ?_; rintro e w1 ⟨rfl, rfl⟩)
  refine (hs.out _).mono ?_
  rintro e w1 ⟨rfl, hb1⟩
  obtain ⟨hc1, hf1⟩ := bcell hb1
  have hz1 : w.heap.size + 1 < w1.heap.size := by have := hb1.size; simp at this; omega
  obtain ⟨r0, r1, r2⟩ := keptAt hb1
  have rf : w1.frozen? ⟨w.heap.size + 1, 2, none⟩ = false := (hf1 _ _ (by simp)).trans (by simp)
  go_wp2_with fail
  refine (ht.out _).mono ?_
  rintro e w2 ⟨rfl, hb⟩
  obtain ⟨hc, hf⟩ := bcell hb
  have hz : w.heap.size + 1 < w2.heap.size := by have := hb.size; simp at this; omega
  have hK1 : Below (w.heap.size + 1) (w.alloc (.cells #[.int .i64 0, .int .i64 0, .string ⟨#[]⟩] 82)) w1 := Below.trans (by repeat (first | exact Below.refl _ _ | refine Below.setCell ?_ (by simp) _ | refine Below.drew ?_ | refine Below.alloc ?_ (by simp) _)) (hb1.mono (by first | (simp; done) | (simp; omega)))
  have hK : Below (w.heap.size + 1) (w.alloc (.cells #[.int .i64 0, .int .i64 0, .string ⟨#[]⟩] 82)) w2 := Below.trans (by repeat (first | exact Below.refl _ _ | exact hK1 | refine Below.setCell ?_ (by simp) _ | refine Below.drew ?_ | refine Below.alloc ?_ (by simp) _)) (hb.mono (by first | (simp; done) | (simp; omega)))
  obtain ⟨q0, q1, q2⟩ := kept3 hK (by omega)
  have f0 : w2.frozen? ⟨w.heap.size, 0, none⟩ = false := (hK.frozen (p := ⟨w.heap.size, 0, none⟩) (by simp)).trans (by simp)
  have f1 : w2.frozen? ⟨w.heap.size, 1, none⟩ = false := (hK.frozen (p := ⟨w.heap.size, 1, none⟩) (by simp)).trans (by simp)
  have f2 : w2.frozen? ⟨w.heap.size, 2, none⟩ = false := (hK.frozen (p := ⟨w.heap.size, 2, none⟩) (by simp)).trans (by simp)
  go_wp2_with fail
  refine bodyPost_ret (v := .tuple #[.agg #[.int .i64 0, .int .i64 0, .string ⟨#[]⟩], .int .i64 10]) (by simp [results, Tryz.results110, go_sem, q0, q1, q2]) rfl ⟨rfl, ?_⟩
  have hB1 : Below w.heap.size w w1 := Below.trans (by repeat (first | exact Below.refl _ _ | refine Below.setCell ?_ (by simp) _ | refine Below.drew ?_ | refine Below.alloc ?_ (by simp) _)) (hb1.mono (by first | (simp; done) | (simp; omega)))
  have hB : Below w.heap.size w w2 := Below.trans (by repeat (first | exact hB1 | refine Below.setCell ?_ (by simp) _ | refine Below.drew ?_ | refine Below.alloc ?_ (by simp) _)) (hb.mono (by first | (simp; done) | (simp; omega)))
  repeat (first | exact hB | refine Below.setCell ?_ (by simp) _ | refine Below.drew ?_)
set_option maxHeartbeats 1000000 in
set_option maxRecDepth 100000 in
theorem rr_sym_missE (s S : ByteArray) (n : Int) (T : ByteArray) (w : World) (hw : Hid (WholeIs s n false)) (hs : Hid (SymIs s S true)) (ht : Hid (RTextIs 2 0 S T 10)) :
    Calls Tryz.prog 110 #[.string s] w fun e w' => e = .returned (.tuple #[.agg #[.int .i64 0, .int .i64 0, .string ⟨#[]⟩], .int .i64 10]) ∧ Below w.heap.size w w' := by
  go_enter Tryz.func110, Tryz.ntmps110
  go_wp2_with (go_at_call 116; refine (hw.out _).mono ?_; rintro e w1 ⟨rfl, rfl⟩)
  refine (hs.out _).mono ?_
  rintro e w1 ⟨rfl, hb1⟩
  obtain ⟨hc1, hf1⟩ := bcell hb1
  have hz1 : w.heap.size + 1 < w1.heap.size := by have := hb1.size; simp at this; omega
  obtain ⟨r0, r1, r2⟩ := keptAt hb1
  have rf : w1.frozen? ⟨w.heap.size + 1, 2, none⟩ = false := (hf1 _ _ (by simp)).trans (by simp)
  go_wp2_with fail
  refine (ht.out _).mono ?_
  rintro e w2 ⟨rfl, hb⟩
  obtain ⟨hc, hf⟩ := bcell hb
  have hz : w.heap.size + 1 < w2.heap.size := by have := hb.size; simp at this; omega
  have hK1 : Below (w.heap.size + 1) (w.alloc (.cells #[.int .i64 0, .int .i64 0, .string ⟨#[]⟩] 82)) w1 := Below.trans (by repeat (first | exact Below.refl _ _ | refine Below.setCell ?_ (by simp) _ | refine Below.drew ?_ | refine Below.alloc ?_ (by simp) _)) (hb1.mono (by first | (simp; done) | (simp; omega)))
  have hK : Below (w.heap.size + 1) (w.alloc (.cells #[.int .i64 0, .int .i64 0, .string ⟨#[]⟩] 82)) w2 := Below.trans (by repeat (first | exact Below.refl _ _ | exact hK1 | refine Below.setCell ?_ (by simp) _ | refine Below.drew ?_ | refine Below.alloc ?_ (by simp) _)) (hb.mono (by first | (simp; done) | (simp; omega)))
  obtain ⟨q0, q1, q2⟩ := kept3 hK (by omega)
  have f0 : w2.frozen? ⟨w.heap.size, 0, none⟩ = false := (hK.frozen (p := ⟨w.heap.size, 0, none⟩) (by simp)).trans (by simp)
  have f1 : w2.frozen? ⟨w.heap.size, 1, none⟩ = false := (hK.frozen (p := ⟨w.heap.size, 1, none⟩) (by simp)).trans (by simp)
  have f2 : w2.frozen? ⟨w.heap.size, 2, none⟩ = false := (hK.frozen (p := ⟨w.heap.size, 2, none⟩) (by simp)).trans (by simp)
  go_wp2_with fail
  refine bodyPost_ret (v := .tuple #[.agg #[.int .i64 0, .int .i64 0, .string ⟨#[]⟩], .int .i64 10]) (by simp [results, Tryz.results110, go_sem, q0, q1, q2]) rfl ⟨rfl, ?_⟩
  have hB1 : Below w.heap.size w w1 := Below.trans (by repeat (first | exact Below.refl _ _ | refine Below.setCell ?_ (by simp) _ | refine Below.drew ?_ | refine Below.alloc ?_ (by simp) _)) (hb1.mono (by first | (simp; done) | (simp; omega)))
  have hB : Below w.heap.size w w2 := Below.trans (by repeat (first | exact hB1 | refine Below.setCell ?_ (by simp) _ | refine Below.drew ?_ | refine Below.alloc ?_ (by simp) _)) (hb.mono (by first | (simp; done) | (simp; omega)))
  repeat (first | exact hB | refine Below.setCell ?_ (by simp) _ | refine Below.drew ?_)
set_option maxHeartbeats 1000000 in
set_option maxRecDepth 100000 in
theorem rr_sym_missB (s S : ByteArray) (n : Int) (T : ByteArray) (g : Int) (w : World) (hw : Hid (WholeIs s n false)) (hs : Hid (SymIs s S false)) (ht : Hid (RTextIs 2 0 S T g)) :
    Calls Tryz.prog 110 #[.string s] w fun e w' => e = .returned (.tuple #[.agg #[.int .i64 0, .int .i64 0, .string ⟨#[]⟩], .int .i64 10]) ∧ Below w.heap.size w w' := by
  go_enter Tryz.func110, Tryz.ntmps110
  go_wp2_with (go_at_call 116; refine (hw.out _).mono ?_; rintro e w1 ⟨rfl, rfl⟩)
  refine (hs.out _).mono ?_
  rintro e w1 ⟨rfl, hb1⟩
  obtain ⟨hc1, hf1⟩ := bcell hb1
  have hz1 : w.heap.size + 1 < w1.heap.size := by have := hb1.size; simp at this; omega
  obtain ⟨r0, r1, r2⟩ := keptAt hb1
  have rf : w1.frozen? ⟨w.heap.size + 1, 2, none⟩ = false := (hf1 _ _ (by simp)).trans (by simp)
  go_wp2_with fail
  refine (ht.out _).mono ?_
  rintro e w2 ⟨rfl, hb⟩
  obtain ⟨hc, hf⟩ := bcell hb
  have hz : w.heap.size + 1 < w2.heap.size := by have := hb.size; simp at this; omega
  have hK1 : Below (w.heap.size + 1) (w.alloc (.cells #[.int .i64 0, .int .i64 0, .string ⟨#[]⟩] 82)) w1 := Below.trans (by repeat (first | exact Below.refl _ _ | refine Below.setCell ?_ (by simp) _ | refine Below.drew ?_ | refine Below.alloc ?_ (by simp) _)) (hb1.mono (by first | (simp; done) | (simp; omega)))
  have hK : Below (w.heap.size + 1) (w.alloc (.cells #[.int .i64 0, .int .i64 0, .string ⟨#[]⟩] 82)) w2 := Below.trans (by repeat (first | exact Below.refl _ _ | exact hK1 | refine Below.setCell ?_ (by simp) _ | refine Below.drew ?_ | refine Below.alloc ?_ (by simp) _)) (hb.mono (by first | (simp; done) | (simp; omega)))
  obtain ⟨q0, q1, q2⟩ := kept3 hK (by omega)
  have f0 : w2.frozen? ⟨w.heap.size, 0, none⟩ = false := (hK.frozen (p := ⟨w.heap.size, 0, none⟩) (by simp)).trans (by simp)
  have f1 : w2.frozen? ⟨w.heap.size, 1, none⟩ = false := (hK.frozen (p := ⟨w.heap.size, 1, none⟩) (by simp)).trans (by simp)
  have f2 : w2.frozen? ⟨w.heap.size, 2, none⟩ = false := (hK.frozen (p := ⟨w.heap.size, 2, none⟩) (by simp)).trans (by simp)
  go_wp2_with fail
  refine bodyPost_ret (v := .tuple #[.agg #[.int .i64 0, .int .i64 0, .string ⟨#[]⟩], .int .i64 10]) (by simp [results, Tryz.results110, go_sem, q0, q1, q2]) rfl ⟨rfl, ?_⟩
  have hB1 : Below w.heap.size w w1 := Below.trans (by repeat (first | exact Below.refl _ _ | refine Below.setCell ?_ (by simp) _ | refine Below.drew ?_ | refine Below.alloc ?_ (by simp) _)) (hb1.mono (by first | (simp; done) | (simp; omega)))
  have hB : Below w.heap.size w w2 := Below.trans (by repeat (first | exact hB1 | refine Below.setCell ?_ (by simp) _ | refine Below.drew ?_ | refine Below.alloc ?_ (by simp) _)) (hb.mono (by first | (simp; done) | (simp; omega)))
  repeat (first | exact hB | refine Below.setCell ?_ (by simp) _ | refine Below.drew ?_)
end Go.Proofs.YtnbaemfkpfmheaaGreatDoor
