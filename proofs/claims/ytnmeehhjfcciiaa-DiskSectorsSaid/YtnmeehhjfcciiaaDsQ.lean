/-
  cut and restore at any sector of a file; chosen at any list; dirAfter at no change; slices.Sort at no number.
-/
import Derived.Test.YtnmeehhjfcciiaaDsP
import Derived.Test.YtnmeehhjfcciiaaDkT
namespace Go.Proofs.Ytnmeehhjfcciiaa
open Go Go.RowKit Go.Maps Go.WideMaps

set_option maxRecDepth 100000 in
theorem restore_none {w : World} {nB : Nat} {bv : Value} {B : List UInt8} (hb : RdIn nB w bv B) : Calls Try.prog 41 #[.slice none 0 0, bv] w fun e w' => e = .returned (.tuple #[]) ∧ w = w' := by
  obtain ⟨i0, hi, hz0, hz1, hz2⟩ := info_parts infoU8
  have hsz : (Try.prog.info? 5).map (·.size) = some 1 := by rw [hi]; simp [hz1]
  have hbs : ∃ s sc, bv = .slice s B.length sc := by
    rcases hb with ⟨rfl, rfl | ⟨a, c, rfl⟩⟩ | ⟨b, off, c, rfl, -⟩
    · exact ⟨none, 0, rfl⟩
    · exact ⟨some a, c, rfl⟩
    · exact ⟨_, c, rfl⟩
  obtain ⟨s, sc, rfl⟩ := hbs
  have q1 := fun ty => Go.run_copy_none (P := Try.prog) w 22 22 ty 5 none s 0 0 B.length sc Try.underlying22 hsz (by show min B.length 0 = 0; omega)
  have q2 : ∀ ty, (Builtin.clear_ #[22] ty #[.slice none 0 0]).run Try.prog w = .ok (.tuple #[]) w := fun ty => by
    simp [Builtin.clear_, run_underlying Try.underlying22, Result.andThen]
  clear hb hi hz0 hz1 hz2 hsz
  simp only [goInt] at q1
  go_enter Try.func41, Try.ntmps41
  go_wp2_with fail
  exact bodyPost_end (results_none rfl _ _ _) rfl ⟨rfl, rfl⟩
set_option maxRecDepth 100000 in
theorem cut_out2 (w : World) (b cap n i : Nat) (hc : n ≤ cap) (hm : cap ≤ maxLen) (hn : n ≤ 1000000) (hi : i ≤ 1000000) (h : n ≤ i * 64) : Says 42 #[.slice (some ⟨b, 0, none⟩) n cap, .int .i64 (i : Int)] w (.slice (some ⟨b, 0, none⟩) 0 0) := by
  unfold maxLen at hm
  have h1 : (n : Int) ≤ (cap : Int) := by omega
  have h2 : (cap : Int) ≤ 9223372036854775807 := by omega
  have h3 : (n : Int) ≤ (i : Int) * 64 := by omega
  have h4 : (i : Int) ≤ 1000000 := by omega
  have h5 : (0 : Int) ≤ (i : Int) := by omega
  have h6 : (0 : Int) ≤ (n : Int) := by omega
  have h7 : (n : Int) ≤ 1000000 := by omega
  go_enter Try.func42, Try.ntmps42
  have e : (min (min ((i : Int) * 64) (n : Int) + 64) (n : Int)).toNat - (min ((i : Int) * 64) (n : Int)).toNat = 0 := by omega
  go_wp2_with fail
  go_ret
  exact ⟨rfl, rfl⟩
set_option maxRecDepth 100000 in
theorem cut_nil2 (w : World) (i : Nat) (hi : i ≤ 1000000) : Says 42 #[.slice none 0 0, .int .i64 (i : Int)] w (.slice none 0 0) := by
  have h4 : (i : Int) ≤ 1000000 := by omega
  have h5 : (0 : Int) ≤ (i : Int) := by omega
  have e : (min (min ((i : Int) * 64) 0 + 64) 0).toNat - (min ((i : Int) * 64) 0).toNat = 0 := by omega
  go_enter Try.func42, Try.ntmps42
  go_wp2_with fail
  go_ret
  exact ⟨rfl, rfl⟩
theorem mend_none {l B : List UInt8} {a : Nat} : Mend l l B a 0 := ⟨rfl, fun j hj => by rw [if_neg (by omega)]⟩
theorem restore_any {nF : Nat} {w : World} {v : Value} {l : List UInt8} (hf : OwnF nF w v l) (hl : l.length ≤ 1000000) (s : Nat) (hs : s ≤ 1000000) :
    ∃ cv, (∀ w', Says 42 #[v, .int .i64 (s : Int)] w' cv) ∧ ∀ w', OwnF nF w' v l → ∀ nB bv B, RdIn nB w' bv B → (∀ b off n c, bv = .slice (some ⟨b, off, none⟩) n c → v.ownBlock ≠ some b) →
      Calls Try.prog 41 #[cv, bv] w' fun e w'' => e = .returned (.tuple #[]) ∧ ∃ r, Mend r l B (s * 64) (min 64 (l.length - s * 64)) ∧ OwnF nF w'' v r ∧ Grow (fun x => v.ownBlock = some x) w' w'' := by
  rcases hf.form with ⟨rfl, rfl⟩ | ⟨b, cap, rfl, hnb, hbl, hlc, hcm, -⟩
  · refine ⟨.slice none 0 0, fun w' => cut_nil2 w' s hs, fun w' ho nB bv B hb hne => (restore_none hb).mono ?_⟩
    rintro e w'' ⟨rfl, rfl⟩
    refine ⟨rfl, [], ?_, ho, Grow.refl _ _⟩
    have : min 64 (([] : List UInt8).length - s * 64) = 0 := by simp
    rw [this]
    exact mend_none
  · refine ⟨cutV b l.length s, fun w' => (if hs2 : s ≤ 100000 then cut_some w' b cap l.length s hlc hcm hl hs2 else (by unfold cutV; rw [if_pos (by omega)]; exact cut_out2 w' b cap l.length s hlc hcm hl hs (by omega))), fun w' ho nB bv B hb hne => ?_⟩
    have hne' : ∀ b' off n c, bv = .slice (some ⟨b', off, none⟩) n c → b' ≠ b := fun b' off n c e h => hne b' off n c e (by rw [h]; rfl)
    unfold cutV
    by_cases h : l.length ≤ s * 64
    · rw [if_pos h, show min 64 (l.length - s * 64) = 0 by omega]
      refine (restore_in (at_ := 0) (k := 0) ho hb (by omega) (by omega) hne').mono ?_
      rintro e w'' ⟨rfl, r, hm, ho', hg⟩
      refine ⟨rfl, r, ⟨hm.1, fun j hj => ?_⟩, by rw [← hm.1]; exact ho', hg.mono (fun x _ e => by rw [e]; rfl)⟩
      rw [hm.2 j hj, if_neg (by omega), if_neg (by omega)]
    · rw [if_neg h]
      refine (restore_in (at_ := s * 64) (k := min 64 (l.length - s * 64)) ho hb (by omega) (by omega) hne').mono ?_
      rintro e w'' ⟨rfl, r, hm, ho', hg⟩
      exact ⟨rfl, r, hm, by rw [← hm.1]; exact ho', hg.mono (fun x _ e => by rw [e]; rfl)⟩
/-- A list of bools that is read. -/
def RdT (w : World) (v : Value) : Prop := (∃ p c, v = .slice p 0 c) ∨ ∃ b off n cap, v = .slice (some ⟨b, off, none⟩) n cap ∧ n ≤ 9223372036854775807 ∧ b < w.heap.size ∧ ∀ j, j < n → ∃ t : Bool, w.cell? ⟨b, off + j, none⟩ = some (.bool t)
theorem RdT.same {w w' : World} {v : Value} (h : RdT w v) (hg : Grow (fun _ => False) w w') : RdT w' v := by
  rcases h with h | ⟨b, off, n, cap, rfl, hn, hb, hc⟩
  · exact .inl h
  · refine .inr ⟨b, off, n, cap, rfl, hn, Nat.lt_of_lt_of_le hb hg.size, fun j hj => ?_⟩
    obtain ⟨t, ht⟩ := hc j hj
    exact ⟨t, (World.cell?_of_block (a := ⟨b, off + j, none⟩) (hg.block b hb (fun e => e))).trans ht⟩
set_option maxRecDepth 100000 in
theorem chosen_none {w : World} {p : Option Addr} {n c i : Nat} (h : n ≤ i) (_hi : i ≤ 1000000) : Says 40 #[.slice p n c, .int .i64 (i : Int)] w (.bool false) := by
  have h1 : ¬ (i : Int) < (n : Int) := by omega
  go_enter Try.func40, Try.ntmps40
  go_wp2_with fail
  go_ret
  exact ⟨rfl, rfl⟩
set_option maxRecDepth 100000 in
theorem chosen_at {w : World} {b off n c i : Nat} {t : Bool} (h : i < n) (hn : n ≤ 9223372036854775807) (_hb : b < w.heap.size) (hc : w.cell? ⟨b, off + i, none⟩ = some (.bool t)) : Says 40 #[.slice (some ⟨b, off, none⟩) n c, .int .i64 (i : Int)] w (.bool t) := by
  have h1 : (i : Int) < (n : Int) := by omega
  have h2 : (0 : Int) ≤ (i : Int) := by omega
  have h3 : (n : Int) ≤ 9223372036854775807 := by omega
  go_enter Try.func40, Try.ntmps40
  go_wp2_with fail
  go_ret
  exact ⟨rfl, rfl⟩
theorem chosen_any {w : World} {v : Value} (h : RdT w v) {i : Nat} (hi : i ≤ 1000000) : ∃ t, Says 40 #[v, .int .i64 (i : Int)] w (.bool t) := by
  rcases h with ⟨p, c, rfl⟩ | ⟨b, off, n, cap, rfl, hn, hb, hc⟩
  · exact ⟨false, chosen_none (Nat.zero_le _) hi⟩
  · by_cases hin : i < n
    · obtain ⟨t, ht⟩ := hc i hin
      exact ⟨t, chosen_at hin hn hb ht⟩
    · exact ⟨false, chosen_none (by omega) hi⟩
set_option maxRecDepth 100000 in
set_option maxHeartbeats 2000000 in
theorem dirAfter_none {n0 : Nat} {w : World} {d F O D X : Nat} {room next : Int} {nf no nd nx : Nat} {ff oo dd xx : DataW Value} {xs : List Value}
    (h : DkS n0 w d F O D X room next nf no nd nx 0 ff oo dd xx (.slice none 0 0) xs) :
    Calls Try.prog 35 #[.pointer (some ⟨d, 0, none⟩), .int .i64 0] w fun e w' => ∃ r, e = .returned (.map (some r)) ∧ w.heap.size ≤ r ∧ MapAt w' Try.prog 9 r nx xx ∧ Grow (fun _ => False) w w' := by
  have HS := Lib.hid h
  have HCl := Lib.hid (cloneD_any w X nx xx h.fixed)
  have hl : d < w.heap.size := h.on.lt
  obtain ⟨-, -, -, -, -, -, c6, -, -, -⟩ := h.on.cells
  clear h
  go_enter Try.func35, Try.ntmps35
  go_wp2_with fail
  refine HCl.out.mono ?_
  rintro e w1 ⟨rfl, hm1, hg1, hs1⟩
  have HM1 := Lib.hid hm1
  have HG1 := Lib.hid hg1
  have HOn := Lib.hid (HS.out.on.grow hg1 (fun e => e))
  obtain ⟨-, -, -, -, -, -, -, c7, -, -⟩ := HOn.out.cells
  have hl1 : d < w1.heap.size := HOn.out.lt
  clear hm1 hg1 c6 HCl
  go_wp2_with fail
  refine wp_loop_rounds 1 ?_
  rw [rounds_succ]
  go_wp2_with fail
  go_ret
  exact ⟨_, rfl, Nat.le_refl _, HM1.out, HG1.out⟩
set_option maxRecDepth 100000 in
theorem insI_none (w : World) (p : Option Addr) (cap : Nat) : Calls Try.prog 58 #[.slice p 0 cap, .int .i64 0, .int .i64 0] w fun e w' => e = .returned (.tuple #[]) ∧ w = w' := by
  go_enter Try.func58, Try.ntmps58
  go_wp2_with fail
  refine wp_loop_rounds 1 ?_
  rw [rounds_succ]
  go_wp2_with fail
  exact bodyPost_end (results_none rfl _ _ _) rfl ⟨rfl, rfl⟩
set_option maxRecDepth 100000 in
theorem pdqI_none (w : World) (p : Option Addr) (cap : Nat) (v : Value) : Calls Try.prog 52 #[.slice p 0 cap, .int .i64 0, .int .i64 0, v] w fun e w' => e = .returned (.tuple #[]) ∧ w = w' := by
  go_enter Try.func52, Try.ntmps52
  go_wp2_with fail
  refine wp_loop_rounds 1 ?_
  rw [rounds_succ]
  go_wp2_with fail
  refine (insI_none w p cap).mono ?_
  rintro e w1 ⟨rfl, rfl⟩
  go_wp2_with fail
  exact bodyPost_ret (results_none rfl _ _ _) rfl ⟨rfl, rfl⟩
set_option maxRecDepth 100000 in
theorem sortI_none (w : World) (p : Option Addr) (cap : Nat) : Calls Try.prog 46 #[.slice p 0 cap] w fun e w' => e = .returned (.tuple #[]) ∧ w = w' := by
  go_enter Try.func46, Try.ntmps46
  go_wp2_with fail
  refine (len_none w).mono ?_
  rintro e w1 ⟨⟨v, rfl⟩, rfl⟩
  go_wp2_with fail
  refine (pdqI_none w p cap _).mono ?_
  rintro e w1 ⟨rfl, rfl⟩
  go_wp2_with fail
  exact bodyPost_end (results_none rfl _ _ _) rfl ⟨rfl, rfl⟩
end Go.Proofs.Ytnmeehhjfcciiaa
