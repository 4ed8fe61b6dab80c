/-
  The law PackJust's own walk.
-/
import Derived.Test.YtlebhceejidjiaaPkTc
import Derived.Test.YtlebhceejidjiaaPkKB
import Derived.Test.YtlebhceejidjiaaPkRf
import Derived.Test.YtlebhceejidjiaaPkG
import Derived.Test.YtlebhceejidjiaaPkR
import Derived.BigQuiet
namespace Go.Proofs.Ytlebhceejidjiaa
open Go Go.RowKit

/-- The beginning of the bytes, as a slice. -/
theorem front_in {n₀ : Nat} {w : World} {p : Option Addr} {cap : Nat} {l a r : List UInt8} (h : BytIn n₀ w (.slice p l.length cap) l) (e : l = a ++ r) (h0 : 0 < a.length) : BytIn n₀ w (.slice p a.length cap) a := by
  have h1 := h.take a.length (by rw [e]; simp) h0
  have h2 : l.take a.length = a := by rw [e]; simp
  rw [h2] at h1
  exact h1
theorem numL_pos (x : Nat) : 0 < (numL x).length := by
  rcases Nat.lt_or_ge x 128 with h | h
  · rw [numL_lt h]; simp
  · rw [numL_ge h]; simp
set_option maxHeartbeats 4000000 in
set_option maxRecDepth 100000 in
theorem just_any (v : Value) (l : List UInt8) (w : World) (h : ArgB w v l) : Calls Try.prog 7 #[v] w fun e w' => e = .returned (.bool true) ∧ Below w.heap.size w w' := by
  have H := Lib.hid h
  clear h
  go_enter Try.func7, Try.ntmps7
  go_wp2_with fail
  refine (short_arg v l w H.out).mono ?_
  rintro e w0 ⟨⟨v0, rfl, hv⟩, rfl⟩
  have HV := Lib.hid hv
  obtain ⟨m, hm⟩ : ∃ m, m = shortL l := ⟨_, rfl⟩
  rw [← hm] at HV
  clear hv hm H
  obtain ⟨p, cap, rfl, hlc, hcm⟩ := HV.out.2
  have hcm' : (cap : Int) ≤ 9223372036854775807 := by unfold maxLen at hcm; omega
  have hlc' : (m.length : Int) ≤ (cap : Int) := by omega
  go_wp2_with fail
  refine (takeNum_any _ m w HV.out).mono ?_
  rintro e w1 ⟨hb1, ⟨x, r, ho, rfl⟩ | ⟨ho, rfl⟩⟩
  · have HV1 := Lib.hid (HV.out.below hb1)
    have HB1 := Lib.hid hb1
    have HN := Lib.hid (numP_all ho)
    clear hb1 ho
    have hlen : (m.length : Int) - (r.length : Int) = ((numL x).length : Int) := by have := congrArg List.length HN.out.1; rw [List.length_append] at this; omega
    have hle : ((numL x).length : Int) ≤ (m.length : Int) := by omega
    have hpos : (1 : Int) ≤ ((numL x).length : Int) := by have := numL_pos x; omega
    rw [hlen]
    have hfr := Lib.hid (front_in HV1.out.1 HN.out.1 (numL_pos x))
    obtain ⟨N, hNN⟩ : ∃ N, N = numL x := ⟨_, rfl⟩
    rw [← hNN] at hle hpos hfr
    have hcap : (N.length : Int) ≤ (cap : Int) := by omega
    have hleN : N.length ≤ m.length := by omega
    rw [← hNN]
    have HNN := Lib.hid hNN
    have hd1 : decide ((N.length : Int) < 1) = false := decide_eq_false (by omega)
    have hd2 : decide (m.length < N.length) = false := decide_eq_false (by omega)
    have hnum := Lib.hid (fun W => (show Calls Try.prog 18 #[.int .u64 x] W (EndB N W) by rw [hNN]; exact num_any x W HN.out.2))
    clear hNN
    have G : Hid (Held w1 [(.slice p N.length cap, N)] w1.drew) := Lib.hid ((Held.nil w1).put hfr.out).drew
    clear hlen
    go_wp2_with fail
    refine wp_region_held_drew (S := Held w1 [(.slice p N.length cap, N)]) (by kernel_rfl) G.out (fun _ => ?_)
    refine take1 0 23 (v := ?_) rfl rfl (by kernel_rfl) (by kernel_rfl) (by kernel_rfl) (fun _ _ _ h => h) (by kernel_rfl) ?_ G.out (by simp only [put_norm]; exact rfl) ?_
    rotate_left
    · intro W _; go_simp; try (with_reducible rfl)
    refine take1 1 24 (v := ?_) rfl rfl (by kernel_rfl) (by kernel_rfl) (by kernel_rfl) (fun _ _ _ h => h) (by kernel_rfl) ?_ G.out (by simp only [put_norm]; exact rfl) ?_
    rotate_left
    · intro W _; go_simp; try (with_reducible rfl)
    refine take1 2 25 (v := ?_) rfl rfl (by kernel_rfl) (by kernel_rfl) (by kernel_rfl) (fun _ _ _ h => h) (by kernel_rfl) ?_ G.out (by simp only [put_norm]; exact rfl) ?_
    rotate_left
    · intro W _; go_simp; try (with_reducible rfl)
    refine take1 3 26 (v := ?_) rfl rfl (by kernel_rfl) (by kernel_rfl) (by kernel_rfl) (fun _ _ _ h => h) (by kernel_rfl) ?_ G.out (by simp only [put_norm]; exact rfl) ?_
    rotate_left
    · intro W _; go_simp; try (with_reducible rfl)
    refine take1 4 27 (v := ?_) rfl rfl (by kernel_rfl) (by kernel_rfl) (by kernel_rfl) (fun _ _ _ h => h) (by kernel_rfl) ?_ G.out (by simp only [put_norm]; exact rfl) ?_
    rotate_left
    · intro W _; go_simp; try (with_reducible rfl)
    refine take1 5 28 (v := ?_) rfl rfl (by kernel_rfl) (by kernel_rfl) (by kernel_rfl) (fun _ _ _ h => h) (by kernel_rfl) ?_ G.out (by simp only [put_norm]; exact rfl) ?_
    rotate_left
    · intro W _; go_simp; try (with_reducible rfl)
    refine take1 6 29 (v := ?_) rfl rfl (by kernel_rfl) (by kernel_rfl) (by kernel_rfl) (fun _ _ _ h => h) (by kernel_rfl) ?_ G.out (by simp only [put_norm]; exact rfl) ?_
    rotate_left
    · intro W _; go_simp; try (with_reducible rfl)
    refine take1 7 30 (v := ?_) rfl rfl (by kernel_rfl) (by kernel_rfl) (by kernel_rfl) (fun _ _ _ h => h) (by kernel_rfl) ?_ G.out (by simp only [put_norm]; exact rfl) ?_
    rotate_left
    · intro W _; go_simp; try (with_reducible rfl)
    refine take1 8 31 (v := ?_) rfl rfl (by kernel_rfl) (by kernel_rfl) (by kernel_rfl) (fun _ _ _ h => h) (by kernel_rfl) ?_ G.out (by simp only [put_norm]; exact rfl) ?_
    rotate_left
    · intro W _; go_simp; try (with_reducible rfl)
    refine take1 9 32 (v := ?_) rfl rfl (by kernel_rfl) (by kernel_rfl) (by kernel_rfl) (fun _ _ _ h => h) (by kernel_rfl) ?_ G.out (by simp only [put_norm]; exact rfl) ?_
    rotate_left
    · intro W _; go_simp; try (with_reducible rfl)
    refine take1 10 33 (v := ?_) rfl rfl (by kernel_rfl) (by kernel_rfl) (by kernel_rfl) (fun _ _ _ h => h) (by kernel_rfl) ?_ G.out (by simp only [put_norm]; exact rfl) ?_
    rotate_left
    · intro W _; go_simp; try (with_reducible rfl)
    refine take1 11 34 (v := ?_) rfl rfl (by kernel_rfl) (by kernel_rfl) (by kernel_rfl) (fun _ _ _ h => h) (by kernel_rfl) ?_ G.out (by simp only [put_norm]; exact rfl) ?_
    rotate_left
    · intro W _; go_simp; try (with_reducible rfl)
    refine take1 12 35 (v := ?_) rfl rfl (by kernel_rfl) (by kernel_rfl) (by kernel_rfl) (fun _ _ _ h => h) (by kernel_rfl) ?_ G.out (by simp only [put_norm]; exact rfl) ?_
    rotate_left
    · intro W _; go_simp; try (with_reducible rfl)
    refine take1 15 38 (v := ?_) rfl rfl (by kernel_rfl) (by kernel_rfl) (by kernel_rfl) (fun _ _ _ h => h) (by kernel_rfl) ?_ G.out (by simp only [put_norm]; exact rfl) ?_
    rotate_left
    · intro W _; go_simp; try (with_reducible rfl)
    refine take1 16 39 (v := ?_) rfl rfl (by kernel_rfl) (by kernel_rfl) (by kernel_rfl) (fun _ _ _ h => h) (by kernel_rfl) ?_ G.out (by simp only [put_norm]; exact rfl) ?_
    rotate_left
    · intro W _; go_simp; try (with_reducible rfl)
    refine take1 17 40 (v := ?_) rfl rfl (by kernel_rfl) (by kernel_rfl) (by kernel_rfl) (fun _ _ _ h => h) (by kernel_rfl) ?_ G.out (by simp only [put_norm]; exact rfl) ?_
    rotate_left
    · intro W _; go_simp; try (with_reducible rfl)
    refine take1 18 41 rfl rfl (by kernel_rfl) (by kernel_rfl) (by kernel_rfl) (fun _ _ _ h => h) (by kernel_rfl) (fun W hW => exec_str rfl rfl (hW.at_ 0 rfl)) G.out (by simp only [put_norm]; exact rfl) ?_
    refine wpAnyH_ready (rs := [13]) (by kernel_rfl) (by simp) ?_
    refine AllReadyH.cons rfl (fun K hK => ?_) AllReadyH.nil
    go_simp
    refine (hnum.out _).mono ?_
    rintro e u1 ⟨y1, rfl, o, b⟩
    have G1 := Lib.hid (G.out.call b o)
    clear o b
    go_wp2_with fail
    refine hK.out _ _ G1.out.tail (fun _ => ?_)
    clear hK K
    refine wpAnyH_more G1.out ?_
    refine take1 14 37 rfl rfl (by kernel_rfl) (by kernel_rfl) (by kernel_rfl) (fun _ _ _ h => h) (by kernel_rfl) (fun W hW => exec_str rfl rfl (hW.at_ 0 rfl)) G1.out (by simp only [put_norm]; exact rfl) ?_
    refine take1 19 42 (v := ?_) rfl rfl (by kernel_rfl) (by kernel_rfl) (by kernel_rfl) (fun _ _ _ h => h) (by kernel_rfl) ?_ G1.out (by simp only [put_norm]; exact rfl) ?_
    rotate_left
    · intro W _; go_simp; try (with_reducible rfl)
    refine take1 20 43 (v := ?_) rfl rfl (by kernel_rfl) (by kernel_rfl) (by kernel_rfl) (fun _ _ _ h => h) (by kernel_rfl) ?_ G1.out (by simp only [put_norm]; exact rfl) ?_
    rotate_left
    · intro W _; go_simp; try (with_reducible rfl)
    refine take1 21 44 (v := ?_) rfl rfl (by kernel_rfl) (by kernel_rfl) (by kernel_rfl) (fun _ _ _ h => h) (by kernel_rfl) ?_ G1.out (by simp only [put_norm]; exact rfl) ?_
    rotate_left
    · intro W _; go_simp; try (with_reducible rfl)
    refine wpAnyH_done (by kernel_rfl) ?_ _
    have HBa := Lib.hid (below_2 HB1.out (show Below w1.heap.size w1 u1 from G1.out.below))
    have HVa := Lib.hid (HV1.out.below (show Below w1.heap.size w1 u1 from G1.out.below))
    go_wp2_with fail
    refine (takeCounted_any _ m u1 HVa.out).mono ?_
    rintro e w3 ⟨hb3, ⟨⟨T, n⟩, rc, vc, hoC, rfl, ⟨g, hg, rfl, hrow, h8⟩⟩ | ⟨hoC, rfl⟩⟩
    · have HC := Lib.hid (cntQ_is hoC)
      have HV3 := Lib.hid (HVa.out.below hb3)
      have HB3 := Lib.hid (below_2 HBa.out hb3)
      have HI3 := Lib.hid (hrow.in_ h8)
      have hlen : (m.length : Int) - (rc.length : Int) = ((tupL T ++ intL n).length : Int) := by have := congrArg List.length HC.out.1; rw [List.length_append] at this; omega
      obtain ⟨K, hK⟩ : ∃ K, K = tupL T ++ intL n := ⟨_, rfl⟩
      have hmK : m = K ++ rc := by rw [hK]; exact HC.out.1
      have hK2 : 2 ≤ K.length := by rw [hK]; unfold tupL intL; simp; have := numL_pos (zigN n); omega
      rw [hlen, ← hK]
      have hKm : K.length ≤ m.length := by rw [hmK]; simp
      have hKi : (2 : Int) ≤ (K.length : Int) := by omega
      have hKc : (K.length : Int) ≤ (cap : Int) := by omega
      have hd3 : decide ((K.length : Int) < 2) = false := decide_eq_false (by omega)
      have hd4 : decide (m.length < K.length) = false := decide_eq_false (by omega)
      have HMK := Lib.hid hmK
      have HKK := Lib.hid hK
      clear hoC hrow hb3 hmK hK hlen hg
      go_wp2_with fail
      refine (counted_any _ T n _ _ (HI3.out.below ((Below.refl _ _).alloc (Nat.le_refl _) _)) (by simp) HC.out.2.2.1 HC.out.2.2.2).mono ?_
      rintro e w4 ⟨hb4, ⟨-, vb, rfl, hvb⟩ | ⟨hno, -⟩⟩
      · have HA := Lib.hid (show Below w3.heap.size w3 w4 from ((Below.refl w3.heap.size w3).alloc (Nat.le_refl _) _).trans (hb4.mono (by simp)))
        have HB4 := Lib.hid (below_2 HB3.out HA.out)
        have HV4 := Lib.hid (HV3.out.below HA.out)
        have hvi : BytIn w4.heap.size w4 vb K := by rw [HKK.out]; exact hvb.in_
        have hf8 := Lib.hid (front_in HV4.out.1 HMK.out (by omega))
        have G8 : Hid (Held w4 [(vb, K), (.slice p K.length cap, K)] w4.drew) := Lib.hid (((Held.nil w4).put hf8.out).put hvi).drew
        clear hvb hvi hb4
        go_wp2_with fail
        refine wp_region_held_drew (S := Held w4 [(vb, K), (.slice p K.length cap, K)]) (by kernel_rfl) G8.out (fun _ => ?_)
        refine take1 0 58 (v := ?_) rfl rfl (by kernel_rfl) (by kernel_rfl) (by kernel_rfl) (fun _ _ _ h => h) (by kernel_rfl) ?_ G8.out (by simp only [put_norm]; exact rfl) ?_
        rotate_left
        · intro W _; go_simp; try (with_reducible rfl)
        refine take1 1 59 (v := ?_) rfl rfl (by kernel_rfl) (by kernel_rfl) (by kernel_rfl) (fun _ _ _ h => h) (by kernel_rfl) ?_ G8.out (by simp only [put_norm]; exact rfl) ?_
        rotate_left
        · intro W _; go_simp; try (with_reducible rfl)
        refine take1 2 60 (v := ?_) rfl rfl (by kernel_rfl) (by kernel_rfl) (by kernel_rfl) (fun _ _ _ h => h) (by kernel_rfl) ?_ G8.out (by simp only [put_norm]; exact rfl) ?_
        rotate_left
        · intro W _; go_simp; try (with_reducible rfl)
        refine take1 3 61 (v := ?_) rfl rfl (by kernel_rfl) (by kernel_rfl) (by kernel_rfl) (fun _ _ _ h => h) (by kernel_rfl) ?_ G8.out (by simp only [put_norm]; exact rfl) ?_
        rotate_left
        · intro W _; go_simp; try (with_reducible rfl)
        refine take1 4 62 (v := ?_) rfl rfl (by kernel_rfl) (by kernel_rfl) (by kernel_rfl) (fun _ _ _ h => h) (by kernel_rfl) ?_ G8.out (by simp only [put_norm]; exact rfl) ?_
        rotate_left
        · intro W _; go_simp; try (with_reducible rfl)
        refine take1 5 63 (v := ?_) rfl rfl (by kernel_rfl) (by kernel_rfl) (by kernel_rfl) (fun _ _ _ h => h) (by kernel_rfl) ?_ G8.out (by simp only [put_norm]; exact rfl) ?_
        rotate_left
        · intro W _; go_simp; try (with_reducible rfl)
        refine take1 6 64 (v := ?_) rfl rfl (by kernel_rfl) (by kernel_rfl) (by kernel_rfl) (fun _ _ _ h => h) (by kernel_rfl) ?_ G8.out (by simp only [put_norm]; exact rfl) ?_
        rotate_left
        · intro W _; go_simp; try (with_reducible rfl)
        refine take1 7 65 (v := ?_) rfl rfl (by kernel_rfl) (by kernel_rfl) (by kernel_rfl) (fun _ _ _ h => h) (by kernel_rfl) ?_ G8.out (by simp only [put_norm]; exact rfl) ?_
        rotate_left
        · intro W _; go_simp; try (with_reducible rfl)
        refine take1 8 66 (v := ?_) rfl rfl (by kernel_rfl) (by kernel_rfl) (by kernel_rfl) (fun _ _ _ h => h) (by kernel_rfl) ?_ G8.out (by simp only [put_norm]; exact rfl) ?_
        rotate_left
        · intro W _; go_simp; try (with_reducible rfl)
        refine take1 9 67 (v := ?_) rfl rfl (by kernel_rfl) (by kernel_rfl) (by kernel_rfl) (fun _ _ _ h => h) (by kernel_rfl) ?_ G8.out (by simp only [put_norm]; exact rfl) ?_
        rotate_left
        · intro W _; go_simp; try (with_reducible rfl)
        refine take1 10 68 (v := ?_) rfl rfl (by kernel_rfl) (by kernel_rfl) (by kernel_rfl) (fun _ _ _ h => h) (by kernel_rfl) ?_ G8.out (by simp only [put_norm]; exact rfl) ?_
        rotate_left
        · intro W _; go_simp; try (with_reducible rfl)
        refine take1 11 69 (v := ?_) rfl rfl (by kernel_rfl) (by kernel_rfl) (by kernel_rfl) (fun _ _ _ h => h) (by kernel_rfl) ?_ G8.out (by simp only [put_norm]; exact rfl) ?_
        rotate_left
        · intro W _; go_simp; try (with_reducible rfl)
        refine take1 12 70 (v := ?_) rfl rfl (by kernel_rfl) (by kernel_rfl) (by kernel_rfl) (fun _ _ _ h => h) (by kernel_rfl) ?_ G8.out (by simp only [put_norm]; exact rfl) ?_
        rotate_left
        · intro W _; go_simp; try (with_reducible rfl)
        refine take1 13 71 (v := ?_) rfl rfl (by kernel_rfl) (by kernel_rfl) (by kernel_rfl) (fun _ _ _ h => h) (by kernel_rfl) ?_ G8.out (by simp only [put_norm]; exact rfl) ?_
        rotate_left
        · intro W _; go_simp; try (with_reducible rfl)
        refine take1 14 72 rfl rfl (by kernel_rfl) (by kernel_rfl) (by kernel_rfl) (fun _ _ _ h => h) (by kernel_rfl) (fun W hW => exec_str rfl rfl (hW.at_ 0 rfl)) G8.out (by simp only [put_norm]; exact rfl) ?_
        refine take1 15 73 (v := ?_) rfl rfl (by kernel_rfl) (by kernel_rfl) (by kernel_rfl) (fun _ _ _ h => h) (by kernel_rfl) ?_ G8.out (by simp only [put_norm]; exact rfl) ?_
        rotate_left
        · intro W _; go_simp; try (with_reducible rfl)
        refine take1 16 74 (v := ?_) rfl rfl (by kernel_rfl) (by kernel_rfl) (by kernel_rfl) (fun _ _ _ h => h) (by kernel_rfl) ?_ G8.out (by simp only [put_norm]; exact rfl) ?_
        rotate_left
        · intro W _; go_simp; try (with_reducible rfl)
        refine take1 17 75 (v := ?_) rfl rfl (by kernel_rfl) (by kernel_rfl) (by kernel_rfl) (fun _ _ _ h => h) (by kernel_rfl) ?_ G8.out (by simp only [put_norm]; exact rfl) ?_
        rotate_left
        · intro W _; go_simp; try (with_reducible rfl)
        refine take1 18 76 rfl rfl (by kernel_rfl) (by kernel_rfl) (by kernel_rfl) (fun _ _ _ h => h) (by kernel_rfl) (fun W hW => exec_str rfl rfl (hW.at_ 1 rfl)) G8.out (by simp only [put_norm]; exact rfl) ?_
        refine take1 19 77 (v := ?_) rfl rfl (by kernel_rfl) (by kernel_rfl) (by kernel_rfl) (fun _ _ _ h => h) (by kernel_rfl) ?_ G8.out (by simp only [put_norm]; exact rfl) ?_
        rotate_left
        · intro W _; go_simp; try (with_reducible rfl)
        refine take1 20 78 (v := ?_) rfl rfl (by kernel_rfl) (by kernel_rfl) (by kernel_rfl) (fun _ _ _ h => h) (by kernel_rfl) ?_ G8.out (by simp only [put_norm]; exact rfl) ?_
        rotate_left
        · intro W _; go_simp; try (with_reducible rfl)
        refine wpAnyH_done (by kernel_rfl) ?_ _
        have HB5 : Hid (Below w.heap.size w w4.drew) := Lib.hid HB4.out.drew
        have HV5 : Hid (ArgB w4.drew (.slice p m.length cap) m) := Lib.hid (HV4.out.below ((Below.refl _ _).drew))
        go_wp2_with fail
        refine (fromKey_any _ m w4.drew HV5.out).mono ?_
        rintro e w6 ⟨hb6, ⟨U, vu, hoU, rfl, hrU⟩ | ⟨hoU, rfl⟩⟩
        · have HU := Lib.hid (keysP_all hoU)
          have HV6 := Lib.hid (HV5.out.below hb6)
          have HB6 := Lib.hid (below_2 HB5.out hb6)
          have HI6 := Lib.hid (hrU.in_ (Nat.le_trans HU.out.2.1.1 (by decide)))
          clear hoU hrU hb6
          go_wp2_with fail
          refine (key_any vu U _ w6 HI6.out (Nat.le_refl _) HU.out.2.2).mono ?_
          rintro e w7 ⟨hb7, ⟨-, vk, rfl, hk⟩ | ⟨hno, -⟩⟩
          · have hk' : OwnB w6.heap.size w7 vk m := by rw [HU.out.1]; exact hk
            have q1 := run_str w7 _ _ _ hk'.in_
            have q2 := run_str w7 _ _ _ (HV6.out.1.below hb7)
            obtain ⟨p7, cap7, rfl⟩ := hk'.in_.shape
            have HB7 := Lib.hid (below_2 HB6.out hb7)
            clear hb7 hk hk'
            go_wp2_with fail
            refine (alive_true w7).mono ?_
            rintro e w8 ⟨rfl, hb8⟩
            have HB8 := Lib.hid (below_2 HB7.out hb8)
            clear hb8
            go_wp2_with fail
            go_ret
            exact ⟨rfl, HB8.out⟩
          · exact absurd (may_ok.1 HU.out.2.1) hno
        · have HB6 := Lib.hid (below_2 HB5.out hb6)
          clear hoU hb6
          go_wp2_with fail
          refine (alive_true w6).mono ?_
          rintro e w8 ⟨rfl, hb8⟩
          have HB8 := Lib.hid (below_2 HB6.out hb8)
          clear hb8
          go_wp2_with fail
          go_ret
          exact ⟨rfl, HB8.out⟩
      · exact absurd (may_ok.1 HC.out.2.1) hno
    · have HV3 := Lib.hid (HVa.out.below hb3)
      have HB3 := Lib.hid (below_2 HBa.out hb3)
      have HA := Lib.hid (show Below w3.heap.size w3 (w3.alloc (.cells #[.slice none 0 0, .int .i64 0] 35)) from (Below.refl w3.heap.size w3).alloc (Nat.le_refl _) _)
      have HB4 := Lib.hid (below_2 HB3.out HA.out)
      have HV4 := Lib.hid (HV3.out.below HA.out)
      clear hoC hb3
      go_wp2_with fail
      refine (fromKey_any _ m _ HV4.out).mono ?_
      rintro e w6 ⟨hb6, ⟨U, vu, hoU, rfl, hrU⟩ | ⟨hoU, rfl⟩⟩
      · have HU := Lib.hid (keysP_all hoU)
        have HV6 := Lib.hid (HV4.out.below hb6)
        have HB6 := Lib.hid (below_2 HB4.out hb6)
        have HI6 := Lib.hid (hrU.in_ (Nat.le_trans HU.out.2.1.1 (by decide)))
        clear hoU hrU hb6
        go_wp2_with fail
        refine (key_any vu U _ w6 HI6.out (Nat.le_refl _) HU.out.2.2).mono ?_
        rintro e w7 ⟨hb7, ⟨-, vk, rfl, hk⟩ | ⟨hno, -⟩⟩
        · have hk' : OwnB w6.heap.size w7 vk m := by rw [HU.out.1]; exact hk
          have q1 := run_str w7 _ _ _ hk'.in_
          have q2 := run_str w7 _ _ _ (HV6.out.1.below hb7)
          obtain ⟨p7, cap7, rfl⟩ := hk'.in_.shape
          have HB7 := Lib.hid (below_2 HB6.out hb7)
          clear hb7 hk hk'
          go_wp2_with fail
          refine (alive_true w7).mono ?_
          rintro e w8 ⟨rfl, hb8⟩
          have HB8 := Lib.hid (below_2 HB7.out hb8)
          clear hb8
          go_wp2_with fail
          go_ret
          exact ⟨rfl, HB8.out⟩
        · exact absurd (may_ok.1 HU.out.2.1) hno
      · have HB6 := Lib.hid (below_2 HB4.out hb6)
        clear hoU hb6
        go_wp2_with fail
        refine (alive_true w6).mono ?_
        rintro e w8 ⟨rfl, hb8⟩
        have HB8 := Lib.hid (below_2 HB6.out hb8)
        clear hb8
        go_wp2_with fail
        go_ret
        exact ⟨rfl, HB8.out⟩
  · have HV1 := Lib.hid (HV.out.below hb1)
    have HB1 := Lib.hid hb1
    clear hb1 ho
    have G9 : Hid (Held w1 [] w1.drew) := Lib.hid (Held.nil w1).drew
    go_wp2_with fail
    refine wp_region_held_drew (S := Held w1 []) (by kernel_rfl) G9.out (fun _ => ?_)
    refine take1 0 23 (v := ?_) rfl rfl (by kernel_rfl) (by kernel_rfl) (by kernel_rfl) (fun _ _ _ h => h) (by kernel_rfl) ?_ G9.out (by simp only [put_norm]; exact rfl) ?_
    rotate_left
    · intro W _; go_simp; try (with_reducible rfl)
    refine take1 1 24 (v := ?_) rfl rfl (by kernel_rfl) (by kernel_rfl) (by kernel_rfl) (fun _ _ _ h => h) (by kernel_rfl) ?_ G9.out (by simp only [put_norm]; exact rfl) ?_
    rotate_left
    · intro W _; go_simp; try (with_reducible rfl)
    refine take1 2 25 (v := ?_) rfl rfl (by kernel_rfl) (by kernel_rfl) (by kernel_rfl) (fun _ _ _ h => h) (by kernel_rfl) ?_ G9.out (by simp only [put_norm]; exact rfl) ?_
    rotate_left
    · intro W _; go_simp; try (with_reducible rfl)
    refine take0 3 26 rfl rfl (by kernel_rfl) (by kernel_rfl) (by kernel_rfl) (fun _ _ _ h => h) (by kernel_rfl) G9.out (by simp only [put_norm]; exact rfl) ?_
    refine take0 4 27 rfl rfl (by kernel_rfl) (by kernel_rfl) (by kernel_rfl) (fun _ _ _ h => h) (by kernel_rfl) G9.out (by simp only [put_norm]; exact rfl) ?_
    refine take0 5 28 rfl rfl (by kernel_rfl) (by kernel_rfl) (by kernel_rfl) (fun _ _ _ h => h) (by kernel_rfl) G9.out (by simp only [put_norm]; exact rfl) ?_
    refine take0 6 29 rfl rfl (by kernel_rfl) (by kernel_rfl) (by kernel_rfl) (fun _ _ _ h => h) (by kernel_rfl) G9.out (by simp only [put_norm]; exact rfl) ?_
    refine take0 7 30 rfl rfl (by kernel_rfl) (by kernel_rfl) (by kernel_rfl) (fun _ _ _ h => h) (by kernel_rfl) G9.out (by simp only [put_norm]; exact rfl) ?_
    refine take0 8 31 rfl rfl (by kernel_rfl) (by kernel_rfl) (by kernel_rfl) (fun _ _ _ h => h) (by kernel_rfl) G9.out (by simp only [put_norm]; exact rfl) ?_
    refine take0 9 32 rfl rfl (by kernel_rfl) (by kernel_rfl) (by kernel_rfl) (fun _ _ _ h => h) (by kernel_rfl) G9.out (by simp only [put_norm]; exact rfl) ?_
    refine take0 10 33 rfl rfl (by kernel_rfl) (by kernel_rfl) (by kernel_rfl) (fun _ _ _ h => h) (by kernel_rfl) G9.out (by simp only [put_norm]; exact rfl) ?_
    refine take0 11 34 rfl rfl (by kernel_rfl) (by kernel_rfl) (by kernel_rfl) (fun _ _ _ h => h) (by kernel_rfl) G9.out (by simp only [put_norm]; exact rfl) ?_
    refine take0 12 35 rfl rfl (by kernel_rfl) (by kernel_rfl) (by kernel_rfl) (fun _ _ _ h => h) (by kernel_rfl) G9.out (by simp only [put_norm]; exact rfl) ?_
    refine take0 13 36 rfl rfl (by kernel_rfl) (by kernel_rfl) (by kernel_rfl) (fun _ _ _ h => h) (by kernel_rfl) G9.out (by simp only [put_norm]; exact rfl) ?_
    refine take0 14 37 rfl rfl (by kernel_rfl) (by kernel_rfl) (by kernel_rfl) (fun _ _ _ h => h) (by kernel_rfl) G9.out (by simp only [put_norm]; exact rfl) ?_
    refine take0 15 38 rfl rfl (by kernel_rfl) (by kernel_rfl) (by kernel_rfl) (fun _ _ _ h => h) (by kernel_rfl) G9.out (by simp only [put_norm]; exact rfl) ?_
    refine take0 16 39 rfl rfl (by kernel_rfl) (by kernel_rfl) (by kernel_rfl) (fun _ _ _ h => h) (by kernel_rfl) G9.out (by simp only [put_norm]; exact rfl) ?_
    refine take0 17 40 rfl rfl (by kernel_rfl) (by kernel_rfl) (by kernel_rfl) (fun _ _ _ h => h) (by kernel_rfl) G9.out (by simp only [put_norm]; exact rfl) ?_
    refine take0 18 41 rfl rfl (by kernel_rfl) (by kernel_rfl) (by kernel_rfl) (fun _ _ _ h => h) (by kernel_rfl) G9.out (by simp only [put_norm]; exact rfl) ?_
    refine take0 19 42 rfl rfl (by kernel_rfl) (by kernel_rfl) (by kernel_rfl) (fun _ _ _ h => h) (by kernel_rfl) G9.out (by simp only [put_norm]; exact rfl) ?_
    refine take0 20 43 rfl rfl (by kernel_rfl) (by kernel_rfl) (by kernel_rfl) (fun _ _ _ h => h) (by kernel_rfl) G9.out (by simp only [put_norm]; exact rfl) ?_
    refine take1 21 44 (v := ?_) rfl rfl (by kernel_rfl) (by kernel_rfl) (by kernel_rfl) (fun _ _ _ h => h) (by kernel_rfl) ?_ G9.out (by simp only [put_norm]; exact rfl) ?_
    rotate_left
    · intro W _; go_simp; try (with_reducible rfl)
    refine wpAnyH_done (by kernel_rfl) ?_ _
    have HBb : Hid (Below w.heap.size w w1.drew) := Lib.hid HB1.out.drew
    have HVb : Hid (ArgB w1.drew (.slice p m.length cap) m) := Lib.hid (HV1.out.below ((Below.refl _ _).drew))
    go_wp2_with fail
    refine (takeCounted_any _ m w1.drew HVb.out).mono ?_
    rintro e w3 ⟨hb3, ⟨⟨T, n⟩, rc, vc, hoC, rfl, ⟨g, hg, rfl, hrow, h8⟩⟩ | ⟨hoC, rfl⟩⟩
    · have HC := Lib.hid (cntQ_is hoC)
      have HV3 := Lib.hid (HVb.out.below hb3)
      have HB3 := Lib.hid (below_2 HBb.out hb3)
      have HI3 := Lib.hid (hrow.in_ h8)
      have hlen : (m.length : Int) - (rc.length : Int) = ((tupL T ++ intL n).length : Int) := by have := congrArg List.length HC.out.1; rw [List.length_append] at this; omega
      obtain ⟨K, hK⟩ : ∃ K, K = tupL T ++ intL n := ⟨_, rfl⟩
      have hmK : m = K ++ rc := by rw [hK]; exact HC.out.1
      have hK2 : 2 ≤ K.length := by rw [hK]; unfold tupL intL; simp; have := numL_pos (zigN n); omega
      rw [hlen, ← hK]
      have hKm : K.length ≤ m.length := by rw [hmK]; simp
      have hKi : (2 : Int) ≤ (K.length : Int) := by omega
      have hKc : (K.length : Int) ≤ (cap : Int) := by omega
      have hd3 : decide ((K.length : Int) < 2) = false := decide_eq_false (by omega)
      have hd4 : decide (m.length < K.length) = false := decide_eq_false (by omega)
      have HMK := Lib.hid hmK
      have HKK := Lib.hid hK
      clear hoC hrow hb3 hmK hK hlen hg
      go_wp2_with fail
      refine (counted_any _ T n _ _ (HI3.out.below ((Below.refl _ _).alloc (Nat.le_refl _) _)) (by simp) HC.out.2.2.1 HC.out.2.2.2).mono ?_
      rintro e w4 ⟨hb4, ⟨-, vb, rfl, hvb⟩ | ⟨hno, -⟩⟩
      · have HA := Lib.hid (show Below w3.heap.size w3 w4 from ((Below.refl w3.heap.size w3).alloc (Nat.le_refl _) _).trans (hb4.mono (by simp)))
        have HB4 := Lib.hid (below_2 HB3.out HA.out)
        have HV4 := Lib.hid (HV3.out.below HA.out)
        have hvi : BytIn w4.heap.size w4 vb K := by rw [HKK.out]; exact hvb.in_
        have hf8 := Lib.hid (front_in HV4.out.1 HMK.out (by omega))
        have G8 : Hid (Held w4 [(vb, K), (.slice p K.length cap, K)] w4.drew) := Lib.hid (((Held.nil w4).put hf8.out).put hvi).drew
        clear hvb hvi hb4
        go_wp2_with fail
        refine wp_region_held_drew (S := Held w4 [(vb, K), (.slice p K.length cap, K)]) (by kernel_rfl) G8.out (fun _ => ?_)
        refine take1 0 58 (v := ?_) rfl rfl (by kernel_rfl) (by kernel_rfl) (by kernel_rfl) (fun _ _ _ h => h) (by kernel_rfl) ?_ G8.out (by simp only [put_norm]; exact rfl) ?_
        rotate_left
        · intro W _; go_simp; try (with_reducible rfl)
        refine take1 1 59 (v := ?_) rfl rfl (by kernel_rfl) (by kernel_rfl) (by kernel_rfl) (fun _ _ _ h => h) (by kernel_rfl) ?_ G8.out (by simp only [put_norm]; exact rfl) ?_
        rotate_left
        · intro W _; go_simp; try (with_reducible rfl)
        refine take1 2 60 (v := ?_) rfl rfl (by kernel_rfl) (by kernel_rfl) (by kernel_rfl) (fun _ _ _ h => h) (by kernel_rfl) ?_ G8.out (by simp only [put_norm]; exact rfl) ?_
        rotate_left
        · intro W _; go_simp; try (with_reducible rfl)
        refine take1 3 61 (v := ?_) rfl rfl (by kernel_rfl) (by kernel_rfl) (by kernel_rfl) (fun _ _ _ h => h) (by kernel_rfl) ?_ G8.out (by simp only [put_norm]; exact rfl) ?_
        rotate_left
        · intro W _; go_simp; try (with_reducible rfl)
        refine take1 4 62 (v := ?_) rfl rfl (by kernel_rfl) (by kernel_rfl) (by kernel_rfl) (fun _ _ _ h => h) (by kernel_rfl) ?_ G8.out (by simp only [put_norm]; exact rfl) ?_
        rotate_left
        · intro W _; go_simp; try (with_reducible rfl)
        refine take1 5 63 (v := ?_) rfl rfl (by kernel_rfl) (by kernel_rfl) (by kernel_rfl) (fun _ _ _ h => h) (by kernel_rfl) ?_ G8.out (by simp only [put_norm]; exact rfl) ?_
        rotate_left
        · intro W _; go_simp; try (with_reducible rfl)
        refine take1 6 64 (v := ?_) rfl rfl (by kernel_rfl) (by kernel_rfl) (by kernel_rfl) (fun _ _ _ h => h) (by kernel_rfl) ?_ G8.out (by simp only [put_norm]; exact rfl) ?_
        rotate_left
        · intro W _; go_simp; try (with_reducible rfl)
        refine take1 7 65 (v := ?_) rfl rfl (by kernel_rfl) (by kernel_rfl) (by kernel_rfl) (fun _ _ _ h => h) (by kernel_rfl) ?_ G8.out (by simp only [put_norm]; exact rfl) ?_
        rotate_left
        · intro W _; go_simp; try (with_reducible rfl)
        refine take1 8 66 (v := ?_) rfl rfl (by kernel_rfl) (by kernel_rfl) (by kernel_rfl) (fun _ _ _ h => h) (by kernel_rfl) ?_ G8.out (by simp only [put_norm]; exact rfl) ?_
        rotate_left
        · intro W _; go_simp; try (with_reducible rfl)
        refine take1 9 67 (v := ?_) rfl rfl (by kernel_rfl) (by kernel_rfl) (by kernel_rfl) (fun _ _ _ h => h) (by kernel_rfl) ?_ G8.out (by simp only [put_norm]; exact rfl) ?_
        rotate_left
        · intro W _; go_simp; try (with_reducible rfl)
        refine take1 10 68 (v := ?_) rfl rfl (by kernel_rfl) (by kernel_rfl) (by kernel_rfl) (fun _ _ _ h => h) (by kernel_rfl) ?_ G8.out (by simp only [put_norm]; exact rfl) ?_
        rotate_left
        · intro W _; go_simp; try (with_reducible rfl)
        refine take1 11 69 (v := ?_) rfl rfl (by kernel_rfl) (by kernel_rfl) (by kernel_rfl) (fun _ _ _ h => h) (by kernel_rfl) ?_ G8.out (by simp only [put_norm]; exact rfl) ?_
        rotate_left
        · intro W _; go_simp; try (with_reducible rfl)
        refine take1 12 70 (v := ?_) rfl rfl (by kernel_rfl) (by kernel_rfl) (by kernel_rfl) (fun _ _ _ h => h) (by kernel_rfl) ?_ G8.out (by simp only [put_norm]; exact rfl) ?_
        rotate_left
        · intro W _; go_simp; try (with_reducible rfl)
        refine take1 13 71 (v := ?_) rfl rfl (by kernel_rfl) (by kernel_rfl) (by kernel_rfl) (fun _ _ _ h => h) (by kernel_rfl) ?_ G8.out (by simp only [put_norm]; exact rfl) ?_
        rotate_left
        · intro W _; go_simp; try (with_reducible rfl)
        refine take1 14 72 rfl rfl (by kernel_rfl) (by kernel_rfl) (by kernel_rfl) (fun _ _ _ h => h) (by kernel_rfl) (fun W hW => exec_str rfl rfl (hW.at_ 0 rfl)) G8.out (by simp only [put_norm]; exact rfl) ?_
        refine take1 15 73 (v := ?_) rfl rfl (by kernel_rfl) (by kernel_rfl) (by kernel_rfl) (fun _ _ _ h => h) (by kernel_rfl) ?_ G8.out (by simp only [put_norm]; exact rfl) ?_
        rotate_left
        · intro W _; go_simp; try (with_reducible rfl)
        refine take1 16 74 (v := ?_) rfl rfl (by kernel_rfl) (by kernel_rfl) (by kernel_rfl) (fun _ _ _ h => h) (by kernel_rfl) ?_ G8.out (by simp only [put_norm]; exact rfl) ?_
        rotate_left
        · intro W _; go_simp; try (with_reducible rfl)
        refine take1 17 75 (v := ?_) rfl rfl (by kernel_rfl) (by kernel_rfl) (by kernel_rfl) (fun _ _ _ h => h) (by kernel_rfl) ?_ G8.out (by simp only [put_norm]; exact rfl) ?_
        rotate_left
        · intro W _; go_simp; try (with_reducible rfl)
        refine take1 18 76 rfl rfl (by kernel_rfl) (by kernel_rfl) (by kernel_rfl) (fun _ _ _ h => h) (by kernel_rfl) (fun W hW => exec_str rfl rfl (hW.at_ 1 rfl)) G8.out (by simp only [put_norm]; exact rfl) ?_
        refine take1 19 77 (v := ?_) rfl rfl (by kernel_rfl) (by kernel_rfl) (by kernel_rfl) (fun _ _ _ h => h) (by kernel_rfl) ?_ G8.out (by simp only [put_norm]; exact rfl) ?_
        rotate_left
        · intro W _; go_simp; try (with_reducible rfl)
        refine take1 20 78 (v := ?_) rfl rfl (by kernel_rfl) (by kernel_rfl) (by kernel_rfl) (fun _ _ _ h => h) (by kernel_rfl) ?_ G8.out (by simp only [put_norm]; exact rfl) ?_
        rotate_left
        · intro W _; go_simp; try (with_reducible rfl)
        refine wpAnyH_done (by kernel_rfl) ?_ _
        have HB5 : Hid (Below w.heap.size w w4.drew) := Lib.hid HB4.out.drew
        have HV5 : Hid (ArgB w4.drew (.slice p m.length cap) m) := Lib.hid (HV4.out.below ((Below.refl _ _).drew))
        go_wp2_with fail
        refine (fromKey_any _ m w4.drew HV5.out).mono ?_
        rintro e w6 ⟨hb6, ⟨U, vu, hoU, rfl, hrU⟩ | ⟨hoU, rfl⟩⟩
        · have HU := Lib.hid (keysP_all hoU)
          have HV6 := Lib.hid (HV5.out.below hb6)
          have HB6 := Lib.hid (below_2 HB5.out hb6)
          have HI6 := Lib.hid (hrU.in_ (Nat.le_trans HU.out.2.1.1 (by decide)))
          clear hoU hrU hb6
          go_wp2_with fail
          refine (key_any vu U _ w6 HI6.out (Nat.le_refl _) HU.out.2.2).mono ?_
          rintro e w7 ⟨hb7, ⟨-, vk, rfl, hk⟩ | ⟨hno, -⟩⟩
          · have hk' : OwnB w6.heap.size w7 vk m := by rw [HU.out.1]; exact hk
            have q1 := run_str w7 _ _ _ hk'.in_
            have q2 := run_str w7 _ _ _ (HV6.out.1.below hb7)
            obtain ⟨p7, cap7, rfl⟩ := hk'.in_.shape
            have HB7 := Lib.hid (below_2 HB6.out hb7)
            clear hb7 hk hk'
            go_wp2_with fail
            refine (alive_true w7).mono ?_
            rintro e w8 ⟨rfl, hb8⟩
            have HB8 := Lib.hid (below_2 HB7.out hb8)
            clear hb8
            go_wp2_with fail
            go_ret
            exact ⟨rfl, HB8.out⟩
          · exact absurd (may_ok.1 HU.out.2.1) hno
        · have HB6 := Lib.hid (below_2 HB5.out hb6)
          clear hoU hb6
          go_wp2_with fail
          refine (alive_true w6).mono ?_
          rintro e w8 ⟨rfl, hb8⟩
          have HB8 := Lib.hid (below_2 HB6.out hb8)
          clear hb8
          go_wp2_with fail
          go_ret
          exact ⟨rfl, HB8.out⟩
      · exact absurd (may_ok.1 HC.out.2.1) hno
    · have HV3 := Lib.hid (HVb.out.below hb3)
      have HB3 := Lib.hid (below_2 HBb.out hb3)
      have HA := Lib.hid (show Below w3.heap.size w3 (w3.alloc (.cells #[.slice none 0 0, .int .i64 0] 35)) from (Below.refl w3.heap.size w3).alloc (Nat.le_refl _) _)
      have HB4 := Lib.hid (below_2 HB3.out HA.out)
      have HV4 := Lib.hid (HV3.out.below HA.out)
      clear hoC hb3
      go_wp2_with fail
      refine (fromKey_any _ m _ HV4.out).mono ?_
      rintro e w6 ⟨hb6, ⟨U, vu, hoU, rfl, hrU⟩ | ⟨hoU, rfl⟩⟩
      · have HU := Lib.hid (keysP_all hoU)
        have HV6 := Lib.hid (HV4.out.below hb6)
        have HB6 := Lib.hid (below_2 HB4.out hb6)
        have HI6 := Lib.hid (hrU.in_ (Nat.le_trans HU.out.2.1.1 (by decide)))
        clear hoU hrU hb6
        go_wp2_with fail
        refine (key_any vu U _ w6 HI6.out (Nat.le_refl _) HU.out.2.2).mono ?_
        rintro e w7 ⟨hb7, ⟨-, vk, rfl, hk⟩ | ⟨hno, -⟩⟩
        · have hk' : OwnB w6.heap.size w7 vk m := by rw [HU.out.1]; exact hk
          have q1 := run_str w7 _ _ _ hk'.in_
          have q2 := run_str w7 _ _ _ (HV6.out.1.below hb7)
          obtain ⟨p7, cap7, rfl⟩ := hk'.in_.shape
          have HB7 := Lib.hid (below_2 HB6.out hb7)
          clear hb7 hk hk'
          go_wp2_with fail
          refine (alive_true w7).mono ?_
          rintro e w8 ⟨rfl, hb8⟩
          have HB8 := Lib.hid (below_2 HB7.out hb8)
          clear hb8
          go_wp2_with fail
          go_ret
          exact ⟨rfl, HB8.out⟩
        · exact absurd (may_ok.1 HU.out.2.1) hno
      · have HB6 := Lib.hid (below_2 HB4.out hb6)
        clear hoU hb6
        go_wp2_with fail
        refine (alive_true w6).mono ?_
        rintro e w8 ⟨rfl, hb8⟩
        have HB8 := Lib.hid (below_2 HB6.out hb8)
        clear hb8
        go_wp2_with fail
        go_ret
        exact ⟨rfl, HB8.out⟩
end Go.Proofs.Ytlebhceejidjiaa
