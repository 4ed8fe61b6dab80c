/-
  The steps of Disk.Write at any bytes: the copy into a file's bytes, the append behind them.
-/
import Derived.Test.YtdjhfcopnhcljaaGreatDoorW38
import Derived.Laws.IdiomCopy
import Derived.Laws.CopyRow
namespace Go.Proofs.YtdjhfcopnhcljaaGreatDoor
section
open Go Go.RowKit Go.Maps Go.WideMaps

/-- A slice from a place on, as a value. -/
def fromV : Value → Nat → Value
  | .slice (some ⟨b, o, s⟩) n cap, k => .slice (some ⟨b, if cap = k then o else o + k, s⟩) (n - k) (cap - k)
  | v, _ => v
/-- The bytes behind a write. -/
def over (L B : List UInt8) (at_ k : Nat) : List UInt8 := L.take at_ ++ B.take k ++ L.drop (at_ + k)
theorem over_len {L B : List UInt8} {at_ k : Nat} (h : at_ + k ≤ L.length) (hk : k ≤ B.length) : (over L B at_ k).length = L.length := by
  unfold over
  simp only [List.length_append, List.length_take, List.length_drop]
  omega
theorem over_zero (L B : List UInt8) (at_ : Nat) : over L B at_ 0 = L := by
  unfold over
  simp
theorem bv_take (l : List UInt8) (k : Nat) : BV (l.take k) = (BV l).take k := by simp [BV]
theorem bv_drop (l : List UInt8) (k : Nat) : BV (l.drop k) = (BV l).drop k := by simp [BV]
theorem row_over {cur : List Value} {L B : List UInt8} {at_ k : Nat} (h : at_ + k ≤ L.length) (hk : k ≤ B.length) (hc : cur.take L.length = BV L) (hl : L.length ≤ cur.length) :
    (cur.take at_ ++ BV (B.take k) ++ cur.drop (at_ + k)).take L.length = BV (over L B at_ k) := by
  obtain ⟨R, hR⟩ : ∃ R, cur = BV L ++ R := ⟨cur.drop L.length, by rw [← hc, List.take_append_drop]⟩
  subst hR
  have e1 : (BV L ++ R).take at_ = BV (L.take at_) := by rw [List.take_append_of_le_length (by rw [bv_len]; omega), bv_take]
  have e2 : (BV L ++ R).drop (at_ + k) = BV (L.drop (at_ + k)) ++ R := by rw [List.drop_append_of_le_length (by rw [bv_len]; omega), bv_drop]
  rw [e1, e2, ← List.append_assoc, ← bv_app, ← bv_app]
  have e3 : (BV (L.take at_ ++ B.take k ++ L.drop (at_ + k))).length = L.length := by rw [bv_len]; exact over_len h hk
  rw [← e3, List.take_left]
  rfl
/-- The copy into a file's bytes from a place on. -/
theorem copy_into {w : World} {nF nB : Nat} (ty : TypeId) {fv bv : Value} {L B : List UInt8} {at_ : Nat} (hf : OwnF nF w fv L) (hb : RdIn nB w bv B) (ha : at_ ≤ L.length) (hne : ∀ x, fv.ownBlock = some x → ∀ b off n c, bv = .slice (some ⟨b, off, none⟩) n c → b ≠ x) :
    ∃ w4, (Builtin.copy_ #[24, 24] ty #[fromV fv at_, bv]).run Tryz.prog w = .ok (.int .i64 ((min B.length (L.length - at_) : Nat) : Int)) w4 ∧ OwnF nF w4 fv (over L B at_ (min B.length (L.length - at_))) ∧ Grow (fun x => fv.ownBlock = some x) w w4 ∧ RdIn nB w4 bv B ∧ w4.heap.size = w.heap.size := by
  obtain ⟨i0, hi, hz0, hz1, hz2⟩ := info_parts infoU8
  have hsz : (Tryz.prog.info? 5).map (·.size) = some 1 := by rw [hi]; simp [hz1]
  have zero : min B.length (L.length - at_) = 0 → (∃ d dl dc s sc, fromV fv at_ = .slice d dl dc ∧ bv = .slice s B.length sc ∧ dl = L.length - at_) → ∃ w4, (Builtin.copy_ #[24, 24] ty #[fromV fv at_, bv]).run Tryz.prog w = .ok (.int .i64 ((min B.length (L.length - at_) : Nat) : Int)) w4 ∧ OwnF nF w4 fv (over L B at_ (min B.length (L.length - at_))) ∧ Grow (fun x => fv.ownBlock = some x) w w4 ∧ RdIn nB w4 bv B ∧ w4.heap.size = w.heap.size := by
    rintro h0 ⟨d, dl, dc, s, sc, e1, e2, e3⟩
    refine ⟨w, ?_, by rw [h0, over_zero]; exact hf, Grow.refl _ _, hb, rfl⟩
    rw [e1, e2, h0]
    exact Go.run_copy_none (P := Tryz.prog) w 24 24 ty 5 d s dl dc B.length sc Tryz.underlying24 hsz (by rw [e3]; exact h0)
  have hbs : ∃ s sc, bv = .slice s B.length sc := by
    rcases hb with ⟨rfl, rfl | ⟨a, c, rfl⟩⟩ | ⟨b, off, c, rfl, -⟩
    · exact ⟨none, 0, rfl⟩
    · exact ⟨some a, c, rfl⟩
    · exact ⟨_, c, rfl⟩
  obtain ⟨s, sc, ebv⟩ := hbs
  rcases hf.form with ⟨hL, hv⟩ | ⟨g, cap, hv, hng, hgl, hlc, hcm, hcells⟩
  · subst hL hv
    exact zero (by simp) ⟨none, 0, 0, s, sc, rfl, ebv, by simp⟩
  · by_cases h0 : min B.length (L.length - at_) = 0
    · refine zero h0 ⟨some ⟨g, if cap = at_ then 0 else 0 + at_, none⟩, L.length - at_, cap - at_, s, sc, by rw [hv]; rfl, ebv, rfl⟩
    · rcases hb with ⟨rfl, -⟩ | ⟨bb, off, c, rfl, hbb, hbc⟩
      · exact absurd (by simp) h0
      have hlt : at_ < cap := by omega
      have hbne : bb ≠ g := hne g (by rw [hv]; rfl) bb off _ c rfl
      subst hv
      have hfrom : fromV (.slice (some ⟨g, 0, none⟩) L.length cap) at_ = .slice (some ⟨g, at_, none⟩) (L.length - at_) (cap - at_) := by
        show Value.slice (some ⟨g, if cap = at_ then 0 else 0 + at_, none⟩) (L.length - at_) (cap - at_) = _
        rw [if_neg (by omega), Nat.zero_add]
      rcases hf.2 with ⟨e, -⟩ | ⟨g', cap', cur, e, hb', hgr, h2, h3, h4, h5⟩
      · cases e
      injection e with e1 _ e2
      injection e1 with e1
      injection e1 with e1 _ _
      subst e1 e2
      have hk : (BV (B.take (min B.length (L.length - at_)))).length = min B.length (L.length - at_) := by rw [bv_len, List.length_take]; omega
      have hr := run_copy_row (P := Tryz.prog) w 24 24 ty 5 g at_ (L.length - at_) (cap - at_) ⟨bb, off, none⟩ B.length c cur 5 (BV (B.take (min B.length (L.length - at_)))) Tryz.underlying24 hsz hgr hk
        (fun j u hu => by
          obtain ⟨hj, rfl⟩ := bv_at hu
          have a : (⟨bb, off, none⟩ : Addr).add j = ⟨bb, off + j, none⟩ := by unfold Addr.add; split <;> simp_all
          rw [a, hbc j (by rw [List.length_take] at hj; omega)]
          simp) (by rw [hk]; omega) (bv_one _)
      rw [hfrom]
      refine ⟨_, by rw [hr, hk]; rfl, ?_, ?_, ?_, by simp⟩
      · have hol := over_len (L := L) (B := B) (at_ := at_) (k := min B.length (L.length - at_)) (by omega) (by omega)
        unfold OwnF
        rw [hol]
        refine ⟨by rw [bv_len, hol]; omega, .inr ⟨g, cap, _, rfl, hb', setRow_heap w g cur _ _ _ hgr, h2, h3, ?_, ?_⟩⟩
        · have : cur.toList.length = cur.size := by simp
          simp only [List.size_toArray, List.length_append, List.length_take, List.length_drop, hk, this]
          omega
        · rw [List.toList_toArray, Nat.mul_one]
          exact row_over (by omega) (by omega) (by rw [← Nat.mul_one L.length]; exact h5) (by simp; omega)
      · exact ⟨rfl, rfl, rfl, by simp, fun k hk2 hne2 => setRow_other w g k _ (fun e => hne2 (by rw [e]; rfl))⟩
      · exact .inr ⟨bb, off, c, rfl, hbb, fun j hj => (cell_setRow_other w g _ ⟨bb, off + j, none⟩ hbne).trans (hbc j hj)⟩
/-- An append of bytes as a step of a region that draws its order. -/
theorem step_appB {ops : Array Oper} {o : Oper} {a : Act} {w : World} {K : Act → World → Prop} {Q : Exit → Act → World → Prop} {E : Prop} (hgd : o.guard = none) (s x : Operand)
    (ho : o.op = .call { callee := .builtin .append, args := #[s, x], argTypes := #[24, 24] })
    {n nB : Nat} {v vx : Value} {L l : List UInt8} (hs : a.eval s = v) (hx : a.eval x = vx) (hown : OwnF n w v L) (hin : RdIn nB w vx l) (hlen : L.length + l.length ≤ 100000000000000) (hn : n ≤ w.heap.size)
    (h : ∀ v' w', OwnF n w' v' (L ++ l) → w.grownBy w' v.ownBlock → (v'.ownBlock = v.ownBlock ∨ v'.ownBlock = some w.heap.size) → K (a.put o.dst v') w') : if Region.wanted o (yielded ops a.tmps) = true then Oper.wp Tryz.prog o a w K Q else E := by
  have hw : Region.wanted o (yielded ops a.tmps) = true := by simp [Region.wanted, hgd]
  rw [if_pos hw]
  obtain ⟨v', w', hr, h2, h3, h4⟩ := run_appB o.type hown hin hlen hn
  unfold Oper.wp execOp
  simp only [ho, resolve, invoke, builtin, Sem.run_bind, Sem.run_pure, Result.andThen_ok, List.map_toArray, List.map_cons, List.map_nil, hs, hx, hr]
  exact h v' w' h2 h3 h4
/-- What loosen leaves, be it nothing or some sectors. -/
def LoU (w w3 : World) (g O no : Nat) (fv : Value) (L : List UInt8) (fixed : Int) : Prop :=
  ∃ oo' wrn no' i0 j, no' ≤ no + 16000 ∧ j ≤ 16000 ∧ MapAt w3 Tryz.prog 225 O no' oo' ∧ Olds w3 w.heap.size oo' (keptF L i0 j) ∧ FileAt w3 g fv fixed wrn ∧ w3.ownsRow w.heap.size 3 1 wrn j (ints i0 j) ∧ Grow (fun b => b = O ∨ b = g) w w3
set_option maxRecDepth 100000 in
theorem loosen_any {n0 nb nF : Nat} {w : World} {d F O D X g : Nat} {room next fixed : Int} {nf no nd nx m : Nat} {ff oo dd xx : DataW Value} {chg fv : Value} {xs : List Value} {L : List UInt8}
    (h : DkS n0 w d F O D X room next nf no nd nx m ff oo dd xx chg xs) (hO : Olds w nb oo (fun _ => none)) (hg : FileAt w g fv fixed (.slice none 0 0)) (hf : OwnF nF w fv L) (hL : L.length ≤ 1000000) (ap : g ≠ d ∧ g ≠ O) (hfd : ∀ b, fv.ownBlock = some b → b ≠ O ∧ b ≠ g) (hno : no ≤ 1000000) (a z : Nat) (haz : a ≤ z) (hz : z ≤ 1000000) :
    Calls Tryz.prog 125 #[.pointer (some ⟨d, 0, none⟩), .int .i64 0, .pointer (some ⟨g, 0, none⟩), .int .i64 (a : Int), .int .i64 (z : Int)] w fun e w' => e = .returned (.tuple #[]) ∧ LoU w w' g O no fv L fixed := by
  by_cases hlt : a < z
  · refine (loosen_clean h hO hg hf hL ap hfd hno a z hlt hz).mono ?_
    rintro e w' ⟨he, oo', wrn, hl⟩
    exact ⟨he, oo', wrn, _, _, _, by omega, by omega, hl.olds, hl.rel, hl.file, hl.own, hl.grow⟩
  · obtain rfl : a = z := by omega
    have HE := Lib.hid (show LoU w w g O no fv L fixed from ⟨oo, _, no, 0, 0, by omega, by omega, h.olds, by rw [keptF_zero]; exact ⟨hO.is, hO.no, fun _ _ e => (by cases e), hO.only⟩, hg, World.ownsRow_nil _ _ _ _, Grow.refl _ _⟩)
    clear h hO hg hf hL ap hfd hno
    go_enter Tryz.func125, Tryz.ntmps125
    go_wp2_with fail
    exact bodyPost_ret (results_none rfl _ _ _) rfl ⟨rfl, HE.out⟩
end
end Go.Proofs.YtdjhfcopnhcljaaGreatDoor
