/-
  Contract of the pack laws' own begins.
-/
import Derived.Test.YtlebhceejidjiaaPkI
import Derived.Test.YtlebhceejidjiaaPkG
import Derived.Test.YtlebhceejidjiaaPkWr
namespace Go.Proofs.Ytlebhceejidjiaa
open Go Go.RowKit

theorem OwnB.cap {B : Nat} {w : World} {v : Value} {l : List UInt8} (h : OwnB B w v l) : ∃ p c, v = .slice p l.length c ∧ l.length ≤ c := by
  rcases h.2 with ⟨rfl, h0⟩ | ⟨g, cap, cur, rfl, -, -, hc, -⟩
  · exact ⟨none, 0, by rw [h0], by omega⟩
  · exact ⟨_, cap, rfl, hc⟩
theorem beg_le {l m : List UInt8} (h : l.length ≤ m.length) : (m.take l.length == l) = begB l m := by
  unfold begB
  rw [decide_eq_true h]
  rfl
theorem ret_bool {a b : Bool} (h : a = b) : Ending.returned (.bool a) = .returned (.bool b) := by rw [h]
theorem beg_gt {l m : List UInt8} (h : ¬ l.length ≤ m.length) : begB l m = false := by
  unfold begB
  rw [decide_eq_false h]
  rfl
set_option maxHeartbeats 1000000 in
set_option maxRecDepth 100000 in
theorem begins_any (v1 v2 : Value) (l m : List UInt8) (w : World) (h1 : BytIn w.heap.size w v1 l) (h2 : BytIn w.heap.size w v2 m) (hc : ∃ p c, v2 = .slice p m.length c ∧ m.length ≤ c) (h0 : 0 < l.length) (b1 : l.length ≤ 2000000) (b2 : m.length ≤ 2000000) :
    Calls Try.prog 40 #[v1, v2] w fun e w' => e = .returned (.bool (begB l m)) ∧ Below w.heap.size w w' := by
  have H1 := Lib.hid h1
  have H2 := Lib.hid h2
  obtain ⟨p1, c1, rfl⟩ := h1.shape
  obtain ⟨p2, c2, rfl, hc2⟩ := hc
  clear h1 h2
  have b1' : (l.length : Int) ≤ 2000000 := by omega
  have b2' : (m.length : Int) ≤ 2000000 := by omega
  have hc2' : (m.length : Int) ≤ (c2 : Int) := by omega
  have z1 : (0 : Int) ≤ (l.length : Int) := by omega
  have z2 : (0 : Int) ≤ (m.length : Int) := by omega
  by_cases hle : l.length ≤ m.length
  · have hle' : (l.length : Int) ≤ (m.length : Int) := by omega
    have hlc : (l.length : Int) ≤ (c2 : Int) := by omega
    have HE := Lib.hid (beg_le hle)
    have G := Lib.hid ((((Held.nil w).put H1.out).put (H2.out.take l.length hle h0)).drew)
    go_enter Try.func40, Try.ntmps40
    go_wp2_with fail
    refine wp_region_held_drew (S := Held w [(.slice p2 l.length c2, m.take l.length), (.slice p1 l.length c1, l)]) (by kernel_rfl) G.out (fun _ => ?_)
    refine take1 0 5 (v := ?_) rfl rfl (by kernel_rfl) (by kernel_rfl) (by kernel_rfl) (fun _ _ _ h => h) (by kernel_rfl) ?_ G.out (by simp only [put_norm]; exact rfl) ?_
    rotate_left
    · intro W _; go_simp; try (with_reducible rfl)
    refine take1 1 6 (v := ?_) rfl rfl (by kernel_rfl) (by kernel_rfl) (by kernel_rfl) (fun _ _ _ h => h) (by kernel_rfl) ?_ G.out (by simp only [put_norm]; exact rfl) ?_
    rotate_left
    · intro W _; go_simp; try (with_reducible rfl)
    refine take1 2 7 (v := ?_) rfl rfl (by kernel_rfl) (by kernel_rfl) (by kernel_rfl) (fun _ _ _ h => h) (by kernel_rfl) ?_ G.out (by simp only [put_norm]; exact rfl) ?_
    rotate_left
    · intro W _; go_simp; try (with_reducible rfl)
    refine take1 3 8 (v := ?_) rfl rfl (by kernel_rfl) (by kernel_rfl) (by kernel_rfl) (fun _ _ _ h => h) (by kernel_rfl) ?_ G.out (by simp only [put_norm]; exact rfl) ?_
    rotate_left
    · intro W _; go_simp; try (with_reducible rfl)
    refine take1 4 9 (v := ?_) rfl rfl (by kernel_rfl) (by kernel_rfl) (by kernel_rfl) (fun _ _ _ h => h) (by kernel_rfl) ?_ G.out (by simp only [put_norm]; exact rfl) ?_
    rotate_left
    · intro W _; go_simp; try (with_reducible rfl)
    refine take1 5 10 (v := ?_) rfl rfl (by kernel_rfl) (by kernel_rfl) (by kernel_rfl) (fun _ _ _ h => h) (by kernel_rfl) ?_ G.out (by simp only [put_norm]; exact rfl) ?_
    rotate_left
    · intro W _; go_simp; try (with_reducible rfl)
    refine take1 6 11 (v := ?_) rfl rfl (by kernel_rfl) (by kernel_rfl) (by kernel_rfl) (fun _ _ _ h => h) (by kernel_rfl) ?_ G.out (by simp only [put_norm]; exact rfl) ?_
    rotate_left
    · intro W _; go_simp; try (with_reducible rfl)
    refine take1 7 12 (v := ?_) rfl rfl (by kernel_rfl) (by kernel_rfl) (by kernel_rfl) (fun _ _ _ h => h) (by kernel_rfl) ?_ G.out (by simp only [put_norm]; exact rfl) ?_
    rotate_left
    · intro W _; go_simp; try (with_reducible rfl)
    refine take1 8 13 (v := ?_) rfl rfl (by kernel_rfl) (by kernel_rfl) (by kernel_rfl) (fun _ _ _ h => h) (by kernel_rfl) ?_ G.out (by simp only [put_norm]; exact rfl) ?_
    rotate_left
    · intro W _; go_simp; try (with_reducible rfl)
    refine take1 9 14 (v := ?_) rfl rfl (by kernel_rfl) (by kernel_rfl) (by kernel_rfl) (fun _ _ _ h => h) (by kernel_rfl) ?_ G.out (by simp only [put_norm]; exact rfl) ?_
    rotate_left
    · intro W _; go_simp; try (with_reducible rfl)
    refine take1 10 15 rfl rfl (by kernel_rfl) (by kernel_rfl) (by kernel_rfl) (fun _ _ _ h => h) (by kernel_rfl) (fun W hW => exec_str rfl rfl (hW.at_ 0 rfl)) G.out (by simp only [put_norm]; exact rfl) ?_
    refine take1 11 16 (v := ?_) rfl rfl (by kernel_rfl) (by kernel_rfl) (by kernel_rfl) (fun _ _ _ h => h) (by kernel_rfl) ?_ G.out (by simp only [put_norm]; exact rfl) ?_
    rotate_left
    · intro W _; go_simp; try (with_reducible rfl)
    refine take1 12 17 rfl rfl (by kernel_rfl) (by kernel_rfl) (by kernel_rfl) (fun _ _ _ h => h) (by kernel_rfl) (fun W hW => exec_str rfl rfl (hW.at_ 1 rfl)) G.out (by simp only [put_norm]; exact rfl) ?_
    refine take1 13 18 (v := ?_) rfl rfl (by kernel_rfl) (by kernel_rfl) (by kernel_rfl) (fun _ _ _ h => h) (by kernel_rfl) ?_ G.out (by simp only [put_norm]; exact rfl) ?_
    rotate_left
    · intro W _; go_simp; try (with_reducible rfl)
    refine take1 14 19 (v := ?_) rfl rfl (by kernel_rfl) (by kernel_rfl) (by kernel_rfl) (fun _ _ _ h => h) (by kernel_rfl) ?_ G.out (by simp only [put_norm]; exact rfl) ?_
    rotate_left
    · intro W _; go_simp; try (with_reducible rfl)
    refine take1 15 4 (v := ?_) rfl rfl (by kernel_rfl) (by kernel_rfl) (by kernel_rfl) (fun _ _ _ h => h) (by kernel_rfl) ?_ G.out (by simp only [put_norm]; exact rfl) ?_
    rotate_left
    · intro W _; go_simp; try (with_reducible rfl)
    refine wpAnyH_done (by kernel_rfl) ?_ _
    go_wp2
    go_ret
    exact ⟨ret_bool HE.out, (Below.refl _ _).drew⟩
  · have hgt : (m.length : Int) < (l.length : Int) := by omega
    have HE := Lib.hid (beg_gt hle)
    have G := Lib.hid (Held.nil w).drew
    go_enter Try.func40, Try.ntmps40
    go_wp2_with fail
    refine wp_region_held_drew (S := Held w []) (by kernel_rfl) G.out (fun _ => ?_)
    refine take1 0 5 (v := ?_) rfl rfl (by kernel_rfl) (by kernel_rfl) (by kernel_rfl) (fun _ _ _ h => h) (by kernel_rfl) ?_ G.out (by simp only [put_norm]; exact rfl) ?_
    rotate_left
    · intro W _; go_simp; try (with_reducible rfl)
    refine take1 1 6 (v := ?_) rfl rfl (by kernel_rfl) (by kernel_rfl) (by kernel_rfl) (fun _ _ _ h => h) (by kernel_rfl) ?_ G.out (by simp only [put_norm]; exact rfl) ?_
    rotate_left
    · intro W _; go_simp; try (with_reducible rfl)
    refine take1 2 7 (v := ?_) rfl rfl (by kernel_rfl) (by kernel_rfl) (by kernel_rfl) (fun _ _ _ h => h) (by kernel_rfl) ?_ G.out (by simp only [put_norm]; exact rfl) ?_
    rotate_left
    · intro W _; go_simp; try (with_reducible rfl)
    refine take1 3 8 (v := ?_) rfl rfl (by kernel_rfl) (by kernel_rfl) (by kernel_rfl) (fun _ _ _ h => h) (by kernel_rfl) ?_ G.out (by simp only [put_norm]; exact rfl) ?_
    rotate_left
    · intro W _; go_simp; try (with_reducible rfl)
    refine take1 4 9 (v := ?_) rfl rfl (by kernel_rfl) (by kernel_rfl) (by kernel_rfl) (fun _ _ _ h => h) (by kernel_rfl) ?_ G.out (by simp only [put_norm]; exact rfl) ?_
    rotate_left
    · intro W _; go_simp; try (with_reducible rfl)
    refine take1 5 10 (v := ?_) rfl rfl (by kernel_rfl) (by kernel_rfl) (by kernel_rfl) (fun _ _ _ h => h) (by kernel_rfl) ?_ G.out (by simp only [put_norm]; exact rfl) ?_
    rotate_left
    · intro W _; go_simp; try (with_reducible rfl)
    refine take0 6 11 rfl rfl (by kernel_rfl) (by kernel_rfl) (by kernel_rfl) (fun _ _ _ h => h) (by kernel_rfl) G.out (by simp only [put_norm]; exact rfl) ?_
    refine take0 7 12 rfl rfl (by kernel_rfl) (by kernel_rfl) (by kernel_rfl) (fun _ _ _ h => h) (by kernel_rfl) G.out (by simp only [put_norm]; exact rfl) ?_
    refine take0 8 13 rfl rfl (by kernel_rfl) (by kernel_rfl) (by kernel_rfl) (fun _ _ _ h => h) (by kernel_rfl) G.out (by simp only [put_norm]; exact rfl) ?_
    refine take0 9 14 rfl rfl (by kernel_rfl) (by kernel_rfl) (by kernel_rfl) (fun _ _ _ h => h) (by kernel_rfl) G.out (by simp only [put_norm]; exact rfl) ?_
    refine take0 10 15 rfl rfl (by kernel_rfl) (by kernel_rfl) (by kernel_rfl) (fun _ _ _ h => h) (by kernel_rfl) G.out (by simp only [put_norm]; exact rfl) ?_
    refine take0 11 16 rfl rfl (by kernel_rfl) (by kernel_rfl) (by kernel_rfl) (fun _ _ _ h => h) (by kernel_rfl) G.out (by simp only [put_norm]; exact rfl) ?_
    refine take0 12 17 rfl rfl (by kernel_rfl) (by kernel_rfl) (by kernel_rfl) (fun _ _ _ h => h) (by kernel_rfl) G.out (by simp only [put_norm]; exact rfl) ?_
    refine take0 13 18 rfl rfl (by kernel_rfl) (by kernel_rfl) (by kernel_rfl) (fun _ _ _ h => h) (by kernel_rfl) G.out (by simp only [put_norm]; exact rfl) ?_
    refine take1 14 19 (v := ?_) rfl rfl (by kernel_rfl) (by kernel_rfl) (by kernel_rfl) (fun _ _ _ h => h) (by kernel_rfl) ?_ G.out (by simp only [put_norm]; exact rfl) ?_
    rotate_left
    · intro W _; go_simp; try (with_reducible rfl)
    refine take1 15 4 (v := ?_) rfl rfl (by kernel_rfl) (by kernel_rfl) (by kernel_rfl) (fun _ _ _ h => h) (by kernel_rfl) ?_ G.out (by simp only [put_norm]; exact rfl) ?_
    rotate_left
    · intro W _; go_simp; try (with_reducible rfl)
    refine wpAnyH_done (by kernel_rfl) ?_ _
    go_wp2
    go_ret
    exact ⟨ret_bool HE.out.symm, (Below.refl _ _).drew⟩
end Go.Proofs.Ytlebhceejidjiaa
