/-
  Disk.Write at any place: within, behind, out of range; sectors behind a loss, as the law holds them.
-/
import Derived.Test.YtnmeehhjfcciiaaDsX
import Derived.Test.YtnmeehhjfcciiaaDsZ
namespace Go.Proofs.Ytnmeehhjfcciiaa
open Go Go.RowKit Go.Maps Go.WideMaps

theorem write_any {n0 nb nF nB : Nat} {w : World} {d F O D X g : Nat} {room next fixed : Int} {nf no nd nx m : Nat} {oo xx : DataW Value} {chg fv bv : Value} {xs : List Value} {s : ByteArray} {L B : List UInt8}
    (h : DkS n0 w d F O D X room next nf no nd nx m (oneM (.int .i64 0) (.pointer (some ⟨g, 0, none⟩))) oo (oneM (.string s.data.toList) (.int .i64 0)) xx chg xs) (hs : s.size ≤ 64) (hO : Olds w nb oo (fun _ => none)) (hg : FileAt w g fv fixed (.slice none 0 0)) (hf : OwnF nF w fv L) (hL : L.length ≤ 1000) (ap : g ≠ d ∧ g ≠ F ∧ g ≠ O ∧ g ≠ D ∧ g ≠ X ∧ chg.ownBlock ≠ some g)
    (hfd : ∀ b, fv.ownBlock = some b → b ≠ d ∧ b ≠ F ∧ b ≠ O ∧ b ≠ D ∧ b ≠ X ∧ b ≠ g ∧ chg.ownBlock ≠ some b) (hno : no ≤ 1000000) (hb : RdIn nB w bv B) (hnB : nB ≤ w.heap.size) (hnF : nF ≤ w.heap.size) (hB : B.length ≤ 1000) (hbv : ∀ b off n c, bv = .slice (some ⟨b, off, none⟩) n c → b ≠ O ∧ b ≠ g ∧ fv.ownBlock ≠ some b) (hbc : ∀ p n c, bv = .slice p n c → c ≤ 9223372036854775807 ∧ n ≤ c) (at_ : Nat) (ha : at_ ≤ L.length) (hroom : 100 ≤ room) :
    Calls Try.prog 7 #[.pointer (some ⟨d, 0, none⟩), .string s, .int .i64 (at_ : Int), bv] w fun e w' => e = .returned (.int .i64 0) ∧ WrU n0 w w' d F O D X g nF room next fixed nf no nd nx m s.data.toList xx chg xs fv L (put_ L B at_) := by
  by_cases hc : at_ + B.length ≤ L.length
  · exact write_in h hs hO hg hf hL ap hfd hno hb hnB hnF hB hbv hbc at_ ha hroom _ rfl hc
  · exact write_grow h hs hO hg hf hL ap hfd hno hb hnB hnF hB hbv hbc at_ ha hroom _ rfl (by omega)
set_option maxRecDepth 100000 in
set_option maxHeartbeats 1000000 in
theorem write_range {n0 nF : Nat} {w : World} {d F O D X g : Nat} {room next fixed : Int} {nf no nd nx m : Nat} {oo xx : DataW Value} {chg fv wrn : Value} {xs : List Value} {s : ByteArray} {L : List UInt8} (bv : Value)
    (h : DkS n0 w d F O D X room next nf no nd nx m (oneM (.int .i64 0) (.pointer (some ⟨g, 0, none⟩))) oo (oneM (.string s.data.toList) (.int .i64 0)) xx chg xs) (hs : s.size ≤ 64) (hg : FileAt w g fv fixed wrn) (hf : OwnF nF w fv L) (hL : L.length ≤ 1000) (at_ : Int) (ha : at_ < 0 ∨ (L.length : Int) < at_) :
    Calls Try.prog 7 #[.pointer (some ⟨d, 0, none⟩), .string s, .int .i64 at_, bv] w fun e w' => e = .returned (.int .i64 5) ∧ Grow (fun _ => False) w w' := by
  have HR := Lib.hid (ready_ok h.on)
  have HF := Lib.hid (find_any s 0 (.pointer (some ⟨g, 0, none⟩)) h (by unfold maxLen; omega) (by decide) (oneM_at _ (sym_str _)) (by rw [oneM_has]; exact sym_str _) rfl)
  have HFi := Lib.hid hg
  obtain ⟨fp, fc, rfl⟩ := hf.shp
  have hl0 : (0 : Int) ≤ (L.length : Int) := by omega
  have hl1 : (L.length : Int) ≤ 1000 := by omega
  clear h hs hg hf hL
  by_cases h0 : at_ < 0
  · clear ha
    go_enter Try.func7, Try.ntmps7
    go_wp2_with fail
    refine HR.out.mono ?_
    rintro e w1 ⟨rfl, rfl⟩
    go_wp2_with fail
    refine HF.out.mono ?_
    rintro e w1 ⟨rfl, hg1⟩
    have HG := Lib.hid hg1
    clear hg1
    obtain ⟨b0, -, -⟩ := (HFi.out.grow HG.out (fun e => e)).cells
    have hgl : g < w1.heap.size := (Array.getElem?_eq_some_iff.1 (HFi.out.grow HG.out (fun e => e))).1
    go_wp2_with fail
    go_ret
    exact ⟨rfl, HG.out⟩
  · have h1 : (L.length : Int) < at_ := by omega
    have h2 : ¬ at_ ≤ (L.length : Int) := by omega
    clear ha
    go_enter Try.func7, Try.ntmps7
    go_wp2_with fail
    refine HR.out.mono ?_
    rintro e w1 ⟨rfl, rfl⟩
    go_wp2_with fail
    refine HF.out.mono ?_
    rintro e w1 ⟨rfl, hg1⟩
    have HG := Lib.hid hg1
    clear hg1
    obtain ⟨b0, -, -⟩ := (HFi.out.grow HG.out (fun e => e)).cells
    have hgl : g < w1.heap.size := (Array.getElem?_eq_some_iff.1 (HFi.out.grow HG.out (fun e => e))).1
    go_wp2_with fail
    go_ret
    exact ⟨rfl, HG.out⟩
theorem put_len {L B : List UInt8} {at_ : Nat} (h : at_ ≤ L.length) : (put_ L B at_).length = max L.length (at_ + B.length) := by
  unfold put_
  simp only [List.length_append, List.length_take, List.length_drop]
  omega
theorem put_nil (B : List UInt8) : put_ [] B 0 = B := by simp [put_]
theorem mix_cmp {now was l : List UInt8} (hm : Mix now was l) (hn : l.length ≤ now.length) {s e k : Nat} (hs : s = k * 64) (he : e ≤ l.length) (he2 : e ≤ s + 64) :
    (l.drop s).take (e - s) = (now.drop s).take (e - s) ∨ (l.drop s).take (e - s) = ((was ++ List.replicate (now.length - was.length) 0).drop s).take (e - s) := by
  subst hs
  rcases hm k with h | h
  · refine .inl (List.ext_getElem? fun j => ?_)
    rw [List.getElem?_take, List.getElem?_take]
    by_cases hj : j < e - k * 64
    · rw [if_pos hj, if_pos hj, List.getElem?_drop, List.getElem?_drop]
      exact h (k * 64 + j) (by omega) (by omega) (by omega)
    · rw [if_neg hj, if_neg hj]
  · refine .inr (List.ext_getElem? fun j => ?_)
    rw [List.getElem?_take, List.getElem?_take]
    by_cases hj : j < e - k * 64
    · rw [if_pos hj, if_pos hj, List.getElem?_drop, List.getElem?_drop]
      rw [h (k * 64 + j) (by omega) (by omega) (by omega)]
      by_cases hw : k * 64 + j < was.length
      · rw [List.getElem?_append_left hw, List.getElem?_eq_getElem hw]; rfl
      · rw [List.getElem?_append_right (by omega), List.getElem?_replicate, if_pos (by omega), List.getElem?_eq_none (by omega)]; rfl
    · rw [if_neg hj, if_neg hj]
theorem conv_sec {n g cap : Nat} {w : World} {l : List UInt8} (h : OwnF n w (.slice (some ⟨g, 0, none⟩) l.length cap) l) {s e : Nat} (he : e ≤ l.length) (c : Nat) :
    (convert 22 9 (.slice (some ⟨g, s, none⟩) (e - s) c)).run Try.prog w = .ok (.string ⟨((l.drop s).take (e - s)).toArray⟩) w := by
  have hl : ((l.drop s).take (e - s)).length = e - s := by rw [List.length_take, List.length_drop]; omega
  have hr := run_convert_bytes_back (P := Try.prog) w 22 9 5 ⟨g, s, none⟩ c ((l.drop s).take (e - s)) Try.underlying22 Try.underlying5 Try.underlying9 (fun j hj => by
    rw [hl] at hj
    have hs' : s + j < l.length := by omega
    have hc := World.ownsRow.cells h (g := g) (by simp [Value.ownBlock]) (s + j) (.int .u8 ((l[s + j].toNat : Nat) : Int)) (by simp [BV, hs'])
    have add_is : ∀ i : Nat, (⟨g, 0, none⟩ : Addr).add i = ⟨g, i, none⟩ := fun i => by unfold Addr.add; split <;> simp_all
    have add_is2 : (⟨g, s, none⟩ : Addr).add j = ⟨g, s + j, none⟩ := by unfold Addr.add; split <;> simp_all
    rw [add_is] at hc
    rw [add_is2, hc]
    simp)
  rw [hl] at hr
  exact hr
end Go.Proofs.Ytnmeehhjfcciiaa
