/-
  The document's Is: which counted tuples are a run.
-/
import Derived.Test.YtdjhfcopnhcljaaGreatDoorW49
import Derived.Deep.RegionHeld3
namespace Go.Proofs.YtdjhfcopnhcljaaGreatDoor
section
open Go Go.RowKit

theorem put_norm : (∀ (t : Array Value) (ds : List Deferred) (d : Tmp) (v : Value), (⟨t, ds⟩ : Act).put (some d) v = ⟨t.setIfInBounds d v, ds⟩) ∧ (∀ (a : Act) (v : Value), a.put none v = a) ∧ (∀ (l : List Value) (i : Nat) (v : Value), l.toArray.setIfInBounds i v = (l.set i v).toArray) ∧
    (∀ (l : List Value) (x v : Value), (x :: l).set 0 v = v :: l) ∧ (∀ (l : List Value) (x v : Value) (n : Nat), (x :: l).set (n + 1) v = x :: l.set n v) ∧
    (∀ (l : List Bool) (i : Nat) (v : Bool), l.toArray.setIfInBounds i v = (l.set i v).toArray) ∧ (∀ (l : List Bool) (x v : Bool), (x :: l).set 0 v = v :: l) ∧ (∀ (l : List Bool) (x v : Bool) (n : Nat), (x :: l).set (n + 1) v = x :: l.set n v) :=
  ⟨fun _ _ _ _ => rfl, fun _ _ => rfl, fun l i v => List.setIfInBounds_toArray l i v, fun _ _ _ => rfl, fun _ _ _ _ => rfl, fun l i v => List.setIfInBounds_toArray l i v, fun _ _ _ => rfl, fun _ _ _ _ => rfl⟩
theorem wpAnyH_act {P : Program} {ops : Array Oper} {Q : Exit → Act → World → Prop} {md : Region.Mode} {S : World → Prop} {fuel : Nat} {listed : Array Bool} {a a' : Act} {W : World} (e : a = a') (h : wpAnyH P md ops Q S fuel listed a' W) : wpAnyH P md ops Q S fuel listed a W := by
  subst e
  exact h
/-- One operation that yields in every world that is held, taken first; the frame behind it laid out. -/
theorem take1 {P : Program} {ops : Array Oper} {Q : Exit → Act → World → Prop} {md : Region.Mode} {S : World → Prop} (i d : Nat) {oi : Oper} {v : Value} {fuel : Nat} {listed : Array Bool} {a a' : Act} {W : World} (hi : ops[i]? = some oi) (hd : oi.dst = some d)
    (hs : Region.noSelect ops = true) (hf : Region.free md ops listed i = true) (hr : (Region.ready md ops listed).contains i = true)
    (hQ : ∀ c a w, Q (.panic c) (a.put oi.dst v) w → Q (.panic c) a w) (hw : Region.wanted oi (yielded ops a.tmps) = true) (hy : ∀ w, S w → (execOp a.eval oi).run P w = .ok (.value v) w) (hS : S W)
    (ha : a.put (some d) v = a') (h : wpAnyH P md ops Q S fuel (listed.setIfInBounds i true) a' W) : wpAnyH P md ops Q S (fuel + 1) listed a W :=
  wpAnyH_take hi hs hf hr hQ (.inl ⟨hw, hy⟩) hS (by rw [hd, ha]; exact h)
/-- One operation whose guard forbids it, taken first. -/
theorem take0 {P : Program} {ops : Array Oper} {Q : Exit → Act → World → Prop} {md : Region.Mode} {S : World → Prop} (i d : Nat) {oi : Oper} {fuel : Nat} {listed : Array Bool} {a a' : Act} {W : World} (hi : ops[i]? = some oi) (hd : oi.dst = some d)
    (hs : Region.noSelect ops = true) (hf : Region.free md ops listed i = true) (hr : (Region.ready md ops listed).contains i = true)
    (hQ : ∀ c a w, Q (.panic c) (a.put oi.dst undef) w → Q (.panic c) a w) (hw : Region.wanted oi (yielded ops a.tmps) = false) (hS : S W)
    (ha : a.put (some d) undef = a') (h : wpAnyH P md ops Q S fuel (listed.setIfInBounds i true) a' W) : wpAnyH P md ops Q S (fuel + 1) listed a W :=
  wpAnyH_take hi hs hf hr hQ (.inr ⟨hw, rfl⟩) hS (by rw [hd, ha]; exact h)
def IsEnd (E : List Ct) (w : World) (e : Ending) (w' : World) : Prop := ((IsRun E ∧ e = .returned (.bool true)) ∨ (¬ IsRun E ∧ e = .returned (.bool false))) ∧ Below w.heap.size w w'
set_option maxHeartbeats 8000000 in
set_option maxRecDepth 100000 in
theorem refIs_any (v : Value) (E : List Ct) (w : World) (h : EnIn w.heap.size w v E) (hE : E.length ≤ 1000000) :
    Calls Tryz.prog 14 #[v] w (IsEnd E w) := by
  have HV := Lib.hid h
  obtain ⟨p, cp, rfl, -⟩ := h
  have mixed : Tryz.prog.follows .mixedOrders = true := by kernel_rfl
  obtain ⟨n, hn⟩ : ∃ n, n = E.length := ⟨_, rfl⟩
  rw [← hn] at HV hE ⊢
  have HN := Lib.hid hn
  clear hn
  go_enter Tryz.func14, Tryz.ntmps14
  go_wp2_with fail
  go_loopw [3] (fun i wr => ∃ k : Nat, k ≤ n ∧ i = .int .i64 k ∧ Hid (RunTo E k ∧ Below w.heap.size w wr)) (fun i _ => n - (intOf i).toNat)
  case atStart => exact ⟨0, Nat.zero_le _, rfl, Lib.hid ⟨RunTo.zero E, Below.refl _ _⟩⟩
  case round =>
    obtain ⟨k, hk, rfl, HJ⟩ := hrel
    by_cases hlt : k < n
    · have hlt' : (k : Int) < (n : Int) := by omega
      have hk63 : (k : Int) + 1 ≤ 1000001 := by omega
      have hk0 : (0 : Int) ≤ (k : Int) := by omega
      have hkE : k < E.length := by rw [← HN.out]; exact hlt
      obtain ⟨b, off, pu, cu, rfl, hb, hc0, hc1, ht⟩ := (HV.out.below HJ.out.2).at_ hkE
      have HRt := Lib.hid HJ.out.1
      have HBr := Lib.hid HJ.out.2
      have hbs := HJ.out.2.size
      obtain ⟨x, hx⟩ : ∃ x, x = E[k] := ⟨_, rfl⟩
      rw [← hx] at hc0 hc1 ht
      have HX := Lib.hid (show ∀ h : k < E.length, x = E[k] from fun _ => hx)
      obtain ⟨xT, xN⟩ := x
      simp only at hc0 hc1 ht
      obtain ⟨xl, hxl⟩ : ∃ n, n = xT.length := ⟨_, rfl⟩
      have HT := Lib.hid ht
      rw [← hxl] at HT hc0
      have HK := Lib.hid (fun W (hW : Below wr.heap.size wr W) => rcheckG_any _ xT w.heap.size W (HT.out.below (hW.mono hbs)) (Nat.le_trans hbs hW.size))
      have HkE := Lib.hid hkE
      have HD := Lib.hid (Below.refl wr.heap.size wr).drew
      have hbw : b < wr.heap.size := Nat.lt_of_lt_of_le hb hbs
      have HC := Lib.hid (show ∀ W, Below wr.heap.size wr W → W.cell? ⟨b, off + k * 2, none⟩ = some (.slice pu xl cu) ∧ W.cell? ⟨b, off + k * 2 + 1, none⟩ = some (.int .i64 xN) from fun W hW => ⟨(hW.cell (p := ⟨b, off + k * 2, none⟩) hbw).trans hc0, (hW.cell (p := ⟨b, off + k * 2 + 1, none⟩) hbw).trans hc1⟩)
      clear hx ht HJ hkE hxl hc0 hc1
      by_cases hok : OkT xT
      · have HOk := Lib.hid hok
        have HKy := Lib.hid (show ∀ W, Below wr.heap.size wr W → Calls Tryz.prog 46 #[.slice pu xl cu] W fun e w' => e = .returned (.int .i64 0) ∧ Below wr.heap.size wr w' from fun W hW => (HK.out W hW).mono fun e w' ⟨h, hb⟩ => by
          rcases h with ⟨-, rfl⟩ | ⟨h, -⟩
          · exact ⟨rfl, hW.trans (hb.below.mono hW.size)⟩
          · exact absurd HOk.out h)
        clear hok HK
        by_cases hx0 : xN = 0
        · subst hx0
          have HNo := Lib.hid (show ¬ IsRun E from fun hr => (hr.1 k HkE.out HkE.out).2 (by rw [← HX.out HkE.out]))
          go_wp2_with fail
          have HSd := Lib.hid (HC.out _ HD.out)
          refine wp_region_held_drew (S := fun X => X.cell? ⟨b, off + k * 2, none⟩ = some (.slice pu xl cu) ∧ X.cell? ⟨b, off + k * 2 + 1, none⟩ = some (.int .i64 0)) (by kernel_rfl) HSd.out (fun _ => ?_)
          refine take1 0 10 (v := ?_) rfl rfl (by kernel_rfl) (by kernel_rfl) (by kernel_rfl) (fun _ _ _ h => h) (by kernel_rfl) ?_ HSd.out (by simp only [put_norm]; exact rfl) ?_
          rotate_left
          · rintro W ⟨k0, k1⟩; go_simp; try (with_reducible rfl)
          refine take1 1 11 (v := ?_) rfl rfl (by kernel_rfl) (by kernel_rfl) (by kernel_rfl) (fun _ _ _ h => h) (by kernel_rfl) ?_ HSd.out (by simp only [put_norm]; exact rfl) ?_
          rotate_left
          · rintro W ⟨k0, k1⟩; go_simp; try (with_reducible rfl)
          refine take1 2 12 (v := ?_) rfl rfl (by kernel_rfl) (by kernel_rfl) (by kernel_rfl) (fun _ _ _ h => h) (by kernel_rfl) ?_ HSd.out (by simp only [put_norm]; exact rfl) ?_
          rotate_left
          · rintro W ⟨k0, k1⟩; go_simp; try (with_reducible rfl)
          refine take1 3 13 (v := ?_) rfl rfl (by kernel_rfl) (by kernel_rfl) (by kernel_rfl) (fun _ _ _ h => h) (by kernel_rfl) ?_ HSd.out (by simp only [put_norm]; exact rfl) ?_
          rotate_left
          · rintro W ⟨k0, k1⟩; go_simp; try (with_reducible rfl)
          refine take1 4 14 (v := ?_) rfl rfl (by kernel_rfl) (by kernel_rfl) (by kernel_rfl) (fun _ _ _ h => h) (by kernel_rfl) ?_ HSd.out (by simp only [put_norm]; exact rfl) ?_
          rotate_left
          · rintro W ⟨k0, k1⟩; go_simp; try (with_reducible rfl)
          refine wpAnyH_ready (rs := [5]) (by kernel_rfl) (by simp) ?_
          refine AllReadyH.cons rfl (fun K hK => ?_) AllReadyH.nil
          go_simp
          refine (HKy.out _ HD.out).mono ?_
          rintro e w4 ⟨rfl, hb4⟩
          have HB4 := Lib.hid hb4
          have HS1 := Lib.hid (HC.out _ hb4)
          clear hb4
          go_wp2_with fail
          refine hK.out _ _ HS1.out (fun _ => ?_)
          clear hK K
          refine take1 6 16 (v := ?_) rfl rfl (by kernel_rfl) (by kernel_rfl) (by kernel_rfl) (fun _ _ _ h => h) (by kernel_rfl) ?_ HS1.out (by simp only [put_norm]; exact rfl) ?_
          rotate_left
          · rintro W ⟨k0, k1⟩; go_simp; try (with_reducible rfl)
          refine take1 7 17 (v := ?_) rfl rfl (by kernel_rfl) (by kernel_rfl) (by kernel_rfl) (fun _ _ _ h => h) (by kernel_rfl) ?_ HS1.out (by simp only [put_norm]; exact rfl) ?_
          rotate_left
          · rintro W ⟨k0, k1⟩; go_simp; try (with_reducible rfl)
          refine take1 8 18 (v := ?_) rfl rfl (by kernel_rfl) (by kernel_rfl) (by kernel_rfl) (fun _ _ _ h => h) (by kernel_rfl) ?_ HS1.out (by simp only [put_norm]; exact rfl) ?_
          rotate_left
          · rintro W ⟨k0, k1⟩; go_simp; try (with_reducible rfl)
          refine take1 9 19 (v := ?_) rfl rfl (by kernel_rfl) (by kernel_rfl) (by kernel_rfl) (fun _ _ _ h => h) (by kernel_rfl) ?_ HS1.out (by simp only [put_norm]; exact rfl) ?_
          rotate_left
          · rintro W ⟨k0, k1⟩; go_simp; try (with_reducible rfl)
          refine take1 10 20 (v := ?_) rfl rfl (by kernel_rfl) (by kernel_rfl) (by kernel_rfl) (fun _ _ _ h => h) (by kernel_rfl) ?_ HS1.out (by simp only [put_norm]; exact rfl) ?_
          rotate_left
          · rintro W ⟨k0, k1⟩; go_simp; try (with_reducible rfl)
          refine take1 11 21 (v := ?_) rfl rfl (by kernel_rfl) (by kernel_rfl) (by kernel_rfl) (fun _ _ _ h => h) (by kernel_rfl) ?_ HS1.out (by simp only [put_norm]; exact rfl) ?_
          rotate_left
          · rintro W ⟨k0, k1⟩; go_simp; try (with_reducible rfl)
          refine take1 12 22 (v := ?_) rfl rfl (by kernel_rfl) (by kernel_rfl) (by kernel_rfl) (fun _ _ _ h => h) (by kernel_rfl) ?_ HS1.out (by simp only [put_norm]; exact rfl) ?_
          rotate_left
          · rintro W ⟨k0, k1⟩; go_simp; try (with_reducible rfl)
          refine take1 13 23 (v := ?_) rfl rfl (by kernel_rfl) (by kernel_rfl) (by kernel_rfl) (fun _ _ _ h => h) (by kernel_rfl) ?_ HS1.out (by simp only [put_norm]; exact rfl) ?_
          rotate_left
          · rintro W ⟨k0, k1⟩; go_simp; try (with_reducible rfl)
          refine take1 14 24 (v := ?_) rfl rfl (by kernel_rfl) (by kernel_rfl) (by kernel_rfl) (fun _ _ _ h => h) (by kernel_rfl) ?_ HS1.out (by simp only [put_norm]; exact rfl) ?_
          rotate_left
          · rintro W ⟨k0, k1⟩; go_simp; try (with_reducible rfl)
          refine take1 15 25 (v := ?_) rfl rfl (by kernel_rfl) (by kernel_rfl) (by kernel_rfl) (fun _ _ _ h => h) (by kernel_rfl) ?_ HS1.out (by simp only [put_norm]; exact rfl) ?_
          rotate_left
          · rintro W ⟨k0, k1⟩; go_simp; try (with_reducible rfl)
          refine take0 16 26 rfl rfl (by kernel_rfl) (by kernel_rfl) (by kernel_rfl) (fun _ _ _ h => h) (by kernel_rfl) HS1.out (by simp only [put_norm]; exact rfl) ?_
          refine take0 17 27 rfl rfl (by kernel_rfl) (by kernel_rfl) (by kernel_rfl) (fun _ _ _ h => h) (by kernel_rfl) HS1.out (by simp only [put_norm]; exact rfl) ?_
          refine take0 18 28 rfl rfl (by kernel_rfl) (by kernel_rfl) (by kernel_rfl) (fun _ _ _ h => h) (by kernel_rfl) HS1.out (by simp only [put_norm]; exact rfl) ?_
          refine take0 19 29 rfl rfl (by kernel_rfl) (by kernel_rfl) (by kernel_rfl) (fun _ _ _ h => h) (by kernel_rfl) HS1.out (by simp only [put_norm]; exact rfl) ?_
          refine take0 20 30 rfl rfl (by kernel_rfl) (by kernel_rfl) (by kernel_rfl) (fun _ _ _ h => h) (by kernel_rfl) HS1.out (by simp only [put_norm]; exact rfl) ?_
          refine take0 21 31 rfl rfl (by kernel_rfl) (by kernel_rfl) (by kernel_rfl) (fun _ _ _ h => h) (by kernel_rfl) HS1.out (by simp only [put_norm]; exact rfl) ?_
          refine take0 22 32 rfl rfl (by kernel_rfl) (by kernel_rfl) (by kernel_rfl) (fun _ _ _ h => h) (by kernel_rfl) HS1.out (by simp only [put_norm]; exact rfl) ?_
          refine take0 23 33 rfl rfl (by kernel_rfl) (by kernel_rfl) (by kernel_rfl) (fun _ _ _ h => h) (by kernel_rfl) HS1.out (by simp only [put_norm]; exact rfl) ?_
          refine take0 24 34 rfl rfl (by kernel_rfl) (by kernel_rfl) (by kernel_rfl) (fun _ _ _ h => h) (by kernel_rfl) HS1.out (by simp only [put_norm]; exact rfl) ?_
          refine take0 25 35 rfl rfl (by kernel_rfl) (by kernel_rfl) (by kernel_rfl) (fun _ _ _ h => h) (by kernel_rfl) HS1.out (by simp only [put_norm]; exact rfl) ?_
          refine take0 26 36 rfl rfl (by kernel_rfl) (by kernel_rfl) (by kernel_rfl) (fun _ _ _ h => h) (by kernel_rfl) HS1.out (by simp only [put_norm]; exact rfl) ?_
          refine take0 27 37 rfl rfl (by kernel_rfl) (by kernel_rfl) (by kernel_rfl) (fun _ _ _ h => h) (by kernel_rfl) HS1.out (by simp only [put_norm]; exact rfl) ?_
          refine take0 28 38 rfl rfl (by kernel_rfl) (by kernel_rfl) (by kernel_rfl) (fun _ _ _ h => h) (by kernel_rfl) HS1.out (by simp only [put_norm]; exact rfl) ?_
          refine take0 29 39 rfl rfl (by kernel_rfl) (by kernel_rfl) (by kernel_rfl) (fun _ _ _ h => h) (by kernel_rfl) HS1.out (by simp only [put_norm]; exact rfl) ?_
          refine take0 30 40 rfl rfl (by kernel_rfl) (by kernel_rfl) (by kernel_rfl) (fun _ _ _ h => h) (by kernel_rfl) HS1.out (by simp only [put_norm]; exact rfl) ?_
          refine take0 31 41 rfl rfl (by kernel_rfl) (by kernel_rfl) (by kernel_rfl) (fun _ _ _ h => h) (by kernel_rfl) HS1.out (by simp only [put_norm]; exact rfl) ?_
          refine take0 32 42 rfl rfl (by kernel_rfl) (by kernel_rfl) (by kernel_rfl) (fun _ _ _ h => h) (by kernel_rfl) HS1.out (by simp only [put_norm]; exact rfl) ?_
          refine take1 33 43 (v := ?_) rfl rfl (by kernel_rfl) (by kernel_rfl) (by kernel_rfl) (fun _ _ _ h => h) (by kernel_rfl) ?_ HS1.out (by simp only [put_norm]; exact rfl) ?_
          rotate_left
          · rintro W ⟨k0, k1⟩; go_simp; try (with_reducible rfl)
          refine wpAnyH_done (by kernel_rfl) ?_ _
          go_wp2
          go_ret
          exact ⟨.inr ⟨HNo.out, rfl⟩, HBr.out.trans (HB4.out.mono HBr.out.size)⟩
        · have hxb : (xN == 0) = false := by simpa using hx0
          have hxd : decide (xN = 0) = false := by simpa using hx0
          have HX0 := Lib.hid hx0
          clear hx0
          by_cases hk00 : k = 0
          · have hz1 : ¬ (0 : Int) < (k : Int) := by omega
            have hz2 : ¬ 0 < k := by omega
            have HK0 := Lib.hid hk00
            have HR1 := Lib.hid (HRt.out.succ HkE.out ⟨by rw [← HX.out HkE.out]; exact HOk.out, by rw [← HX.out HkE.out]; exact HX0.out⟩ (fun j hj => by have := HK0.out; omega))
            clear hk00
            go_wp2_with fail
            have HSd := Lib.hid (HC.out _ HD.out)
            refine wp_region_held_drew (S := fun X => X.cell? ⟨b, off + k * 2, none⟩ = some (.slice pu xl cu) ∧ X.cell? ⟨b, off + k * 2 + 1, none⟩ = some (.int .i64 xN)) (by kernel_rfl) HSd.out (fun _ => ?_)
            refine take1 0 10 (v := ?_) rfl rfl (by kernel_rfl) (by kernel_rfl) (by kernel_rfl) (fun _ _ _ h => h) (by kernel_rfl) ?_ HSd.out (by simp only [put_norm]; exact rfl) ?_
            rotate_left
            · rintro W ⟨k0, k1⟩; go_simp; try (with_reducible rfl)
            refine take1 1 11 (v := ?_) rfl rfl (by kernel_rfl) (by kernel_rfl) (by kernel_rfl) (fun _ _ _ h => h) (by kernel_rfl) ?_ HSd.out (by simp only [put_norm]; exact rfl) ?_
            rotate_left
            · rintro W ⟨k0, k1⟩; go_simp; try (with_reducible rfl)
            refine take1 2 12 (v := ?_) rfl rfl (by kernel_rfl) (by kernel_rfl) (by kernel_rfl) (fun _ _ _ h => h) (by kernel_rfl) ?_ HSd.out (by simp only [put_norm]; exact rfl) ?_
            rotate_left
            · rintro W ⟨k0, k1⟩; go_simp; try (with_reducible rfl)
            refine take1 3 13 (v := ?_) rfl rfl (by kernel_rfl) (by kernel_rfl) (by kernel_rfl) (fun _ _ _ h => h) (by kernel_rfl) ?_ HSd.out (by simp only [put_norm]; exact rfl) ?_
            rotate_left
            · rintro W ⟨k0, k1⟩; go_simp; try (with_reducible rfl)
            refine take1 4 14 (v := ?_) rfl rfl (by kernel_rfl) (by kernel_rfl) (by kernel_rfl) (fun _ _ _ h => h) (by kernel_rfl) ?_ HSd.out (by simp only [put_norm]; exact rfl) ?_
            rotate_left
            · rintro W ⟨k0, k1⟩; go_simp; try (with_reducible rfl)
            refine wpAnyH_ready (rs := [5]) (by kernel_rfl) (by simp) ?_
            refine AllReadyH.cons rfl (fun K hK => ?_) AllReadyH.nil
            go_simp
            refine (HKy.out _ HD.out).mono ?_
            rintro e w4 ⟨rfl, hb4⟩
            have HB4 := Lib.hid hb4
            have HS1 := Lib.hid (HC.out _ hb4)
            clear hb4
            go_wp2_with fail
            refine hK.out _ _ HS1.out (fun _ => ?_)
            clear hK K
            refine take1 6 16 (v := ?_) rfl rfl (by kernel_rfl) (by kernel_rfl) (by kernel_rfl) (fun _ _ _ h => h) (by kernel_rfl) ?_ HS1.out (by simp only [put_norm]; exact rfl) ?_
            rotate_left
            · rintro W ⟨k0, k1⟩; go_simp; try (with_reducible rfl)
            refine take1 7 17 (v := ?_) rfl rfl (by kernel_rfl) (by kernel_rfl) (by kernel_rfl) (fun _ _ _ h => h) (by kernel_rfl) ?_ HS1.out (by simp only [put_norm]; exact rfl) ?_
            rotate_left
            · rintro W ⟨k0, k1⟩; go_simp; try (with_reducible rfl)
            refine take1 8 18 (v := ?_) rfl rfl (by kernel_rfl) (by kernel_rfl) (by kernel_rfl) (fun _ _ _ h => h) (by kernel_rfl) ?_ HS1.out (by simp only [put_norm]; exact rfl) ?_
            rotate_left
            · rintro W ⟨k0, k1⟩; go_simp; try (with_reducible rfl)
            refine take1 9 19 (v := ?_) rfl rfl (by kernel_rfl) (by kernel_rfl) (by kernel_rfl) (fun _ _ _ h => h) (by kernel_rfl) ?_ HS1.out (by simp only [put_norm]; exact rfl) ?_
            rotate_left
            · rintro W ⟨k0, k1⟩; go_simp; try (with_reducible rfl)
            refine take1 10 20 (v := ?_) rfl rfl (by kernel_rfl) (by kernel_rfl) (by kernel_rfl) (fun _ _ _ h => h) (by kernel_rfl) ?_ HS1.out (by simp only [put_norm]; exact rfl) ?_
            rotate_left
            · rintro W ⟨k0, k1⟩; go_simp; try (with_reducible rfl)
            refine take1 11 21 (v := ?_) rfl rfl (by kernel_rfl) (by kernel_rfl) (by kernel_rfl) (fun _ _ _ h => h) (by kernel_rfl) ?_ HS1.out (by simp only [put_norm]; exact rfl) ?_
            rotate_left
            · rintro W ⟨k0, k1⟩; go_simp; try (with_reducible rfl)
            refine take1 12 22 (v := ?_) rfl rfl (by kernel_rfl) (by kernel_rfl) (by kernel_rfl) (fun _ _ _ h => h) (by kernel_rfl) ?_ HS1.out (by simp only [put_norm]; exact rfl) ?_
            rotate_left
            · rintro W ⟨k0, k1⟩; go_simp; try (with_reducible rfl)
            refine take1 13 23 (v := ?_) rfl rfl (by kernel_rfl) (by kernel_rfl) (by kernel_rfl) (fun _ _ _ h => h) (by kernel_rfl) ?_ HS1.out (by simp only [put_norm]; exact rfl) ?_
            rotate_left
            · rintro W ⟨k0, k1⟩; go_simp; try (with_reducible rfl)
            refine take1 14 24 (v := ?_) rfl rfl (by kernel_rfl) (by kernel_rfl) (by kernel_rfl) (fun _ _ _ h => h) (by kernel_rfl) ?_ HS1.out (by simp only [put_norm]; exact rfl) ?_
            rotate_left
            · rintro W ⟨k0, k1⟩; go_simp; try (with_reducible rfl)
            refine take1 15 25 (v := ?_) rfl rfl (by kernel_rfl) (by kernel_rfl) (by kernel_rfl) (fun _ _ _ h => h) (by kernel_rfl) ?_ HS1.out (by simp only [put_norm]; exact rfl) ?_
            rotate_left
            · rintro W ⟨k0, k1⟩; go_simp; try (with_reducible rfl)
            refine take1 16 26 (v := ?_) rfl rfl (by kernel_rfl) (by kernel_rfl) (by kernel_rfl) (fun _ _ _ h => h) (by kernel_rfl) ?_ HS1.out (by simp only [put_norm]; exact rfl) ?_
            rotate_left
            · rintro W ⟨k0, k1⟩; go_simp; try (with_reducible rfl)
            refine take1 17 27 (v := ?_) rfl rfl (by kernel_rfl) (by kernel_rfl) (by kernel_rfl) (fun _ _ _ h => h) (by kernel_rfl) ?_ HS1.out (by simp only [put_norm]; exact rfl) ?_
            rotate_left
            · rintro W ⟨k0, k1⟩; go_simp; try (with_reducible rfl)
            refine take1 18 28 (v := ?_) rfl rfl (by kernel_rfl) (by kernel_rfl) (by kernel_rfl) (fun _ _ _ h => h) (by kernel_rfl) ?_ HS1.out (by simp only [put_norm]; exact rfl) ?_
            rotate_left
            · rintro W ⟨k0, k1⟩; go_simp; try (with_reducible rfl)
            refine take0 19 29 rfl rfl (by kernel_rfl) (by kernel_rfl) (by kernel_rfl) (fun _ _ _ h => h) (by kernel_rfl) HS1.out (by simp only [put_norm]; exact rfl) ?_
            refine take0 20 30 rfl rfl (by kernel_rfl) (by kernel_rfl) (by kernel_rfl) (fun _ _ _ h => h) (by kernel_rfl) HS1.out (by simp only [put_norm]; exact rfl) ?_
            refine take0 21 31 rfl rfl (by kernel_rfl) (by kernel_rfl) (by kernel_rfl) (fun _ _ _ h => h) (by kernel_rfl) HS1.out (by simp only [put_norm]; exact rfl) ?_
            refine take0 22 32 rfl rfl (by kernel_rfl) (by kernel_rfl) (by kernel_rfl) (fun _ _ _ h => h) (by kernel_rfl) HS1.out (by simp only [put_norm]; exact rfl) ?_
            refine take0 23 33 rfl rfl (by kernel_rfl) (by kernel_rfl) (by kernel_rfl) (fun _ _ _ h => h) (by kernel_rfl) HS1.out (by simp only [put_norm]; exact rfl) ?_
            refine take0 24 34 rfl rfl (by kernel_rfl) (by kernel_rfl) (by kernel_rfl) (fun _ _ _ h => h) (by kernel_rfl) HS1.out (by simp only [put_norm]; exact rfl) ?_
            refine take0 25 35 rfl rfl (by kernel_rfl) (by kernel_rfl) (by kernel_rfl) (fun _ _ _ h => h) (by kernel_rfl) HS1.out (by simp only [put_norm]; exact rfl) ?_
            refine take0 26 36 rfl rfl (by kernel_rfl) (by kernel_rfl) (by kernel_rfl) (fun _ _ _ h => h) (by kernel_rfl) HS1.out (by simp only [put_norm]; exact rfl) ?_
            refine take0 27 37 rfl rfl (by kernel_rfl) (by kernel_rfl) (by kernel_rfl) (fun _ _ _ h => h) (by kernel_rfl) HS1.out (by simp only [put_norm]; exact rfl) ?_
            refine take0 28 38 rfl rfl (by kernel_rfl) (by kernel_rfl) (by kernel_rfl) (fun _ _ _ h => h) (by kernel_rfl) HS1.out (by simp only [put_norm]; exact rfl) ?_
            refine take0 29 39 rfl rfl (by kernel_rfl) (by kernel_rfl) (by kernel_rfl) (fun _ _ _ h => h) (by kernel_rfl) HS1.out (by simp only [put_norm]; exact rfl) ?_
            refine take0 30 40 rfl rfl (by kernel_rfl) (by kernel_rfl) (by kernel_rfl) (fun _ _ _ h => h) (by kernel_rfl) HS1.out (by simp only [put_norm]; exact rfl) ?_
            refine take0 31 41 rfl rfl (by kernel_rfl) (by kernel_rfl) (by kernel_rfl) (fun _ _ _ h => h) (by kernel_rfl) HS1.out (by simp only [put_norm]; exact rfl) ?_
            refine take1 32 42 (v := ?_) rfl rfl (by kernel_rfl) (by kernel_rfl) (by kernel_rfl) (fun _ _ _ h => h) (by kernel_rfl) ?_ HS1.out (by simp only [put_norm]; exact rfl) ?_
            rotate_left
            · rintro W ⟨k0, k1⟩; go_simp; try (with_reducible rfl)
            refine take1 33 43 (v := ?_) rfl rfl (by kernel_rfl) (by kernel_rfl) (by kernel_rfl) (fun _ _ _ h => h) (by kernel_rfl) ?_ HS1.out (by simp only [put_norm]; exact rfl) ?_
            rotate_left
            · rintro W ⟨k0, k1⟩; go_simp; try (with_reducible rfl)
            refine wpAnyH_done (by kernel_rfl) ?_ _
            go_wp2
            go_roundw
            case rel => exact ⟨k + 1, hlt, by simp, Lib.hid ⟨HR1.out, HBr.out.trans (HB4.out.mono HBr.out.size)⟩⟩
            case measure => simp [intOf]; omega
          · obtain ⟨m, rfl⟩ : ∃ m, k = m + 1 := ⟨k - 1, by omega⟩
            have hmE : m < E.length := by have := HkE.out; omega
            obtain ⟨b', off', pv, cv, e2, -, hd0, -, hdt⟩ := (HV.out.below HBr.out).at_ hmE
            injection e2 with e2
            injection e2 with e2 e2' _
            subst e2 e2'
            obtain ⟨y, hy⟩ : ∃ y, y = E[m] := ⟨_, rfl⟩
            rw [← hy] at hd0 hdt
            have HY := Lib.hid (show ∀ h : m < E.length, y = E[m] from fun _ => hy)
            obtain ⟨yT, yN⟩ := y
            simp only at hd0 hdt
            obtain ⟨yl, hyl⟩ : ∃ n, n = yT.length := ⟨_, rfl⟩
            rw [← hyl] at hd0 hdt
            obtain ⟨K, hK⟩ : ∃ K, K = m + 1 := ⟨_, rfl⟩
            rw [← hK] at hlt' hk63 hk0 hlt HC ⊢
            have HKm := Lib.hid hK
            have hw : IntKind.i64.wrap ((K : Int) - 1) = (m : Int) := by rw [IntKind.wrap_i64]; omega
            have hm1 : (m : Int) < (n : Int) := by omega
            have hm0 : (0 : Int) ≤ (m : Int) := by omega
            have hK1 : (0 : Int) < (K : Int) := by omega
            have hKn : 0 < K := by omega
            have HS := Lib.hid (show ∀ W, Below wr.heap.size wr W → W.cell? ⟨b, off + K * 2, none⟩ = some (.slice pu xl cu) ∧ W.cell? ⟨b, off + K * 2 + 1, none⟩ = some (.int .i64 xN) ∧ W.cell? ⟨b, off + m * 2, none⟩ = some (.slice pv yl cv) from fun W hW => ⟨(HC.out W hW).1, (HC.out W hW).2, (hW.cell (p := ⟨b, off + m * 2, none⟩) hbw).trans hd0⟩)
            have HCm := Lib.hid (show ∀ W, Below wr.heap.size wr W → Calls Tryz.prog 31 #[.slice pv yl cv, .slice pu xl cu] W fun e w' => e = .returned (.int .i64 (cmpT yT xT)) ∧ Below wr.heap.size wr w' from fun W hW => by
              refine (rcompareS_any _ _ yT xT W ((hdt.below (hW.mono hbs)).mono (Nat.le_trans hbs hW.size)).wide ((HT.out.below (hW.mono hbs)).mono (Nat.le_trans hbs hW.size)).wide).mono ?_
              rintro e w' ⟨he, hg⟩
              exact ⟨he, hW.trans (hg.below.mono hW.size)⟩)
            obtain ⟨z, hz⟩ : ∃ z, z = cmpT yT xT := ⟨_, rfl⟩
            rw [← hz] at HCm
            have HZ := Lib.hid hz
            clear hy hd0 hdt hK hz hyl
            by_cases hz0 : 0 ≤ z
            · have HNo := Lib.hid (show ¬ IsRun E from fun hr => by
                have h1 := hr.2 m (by have := HkE.out; omega) (by have := HkE.out; omega)
                rw [← HY.out hmE, ← HX.out HkE.out, ← HZ.out] at h1
                omega)
              go_wp2_with fail
              go_region_held3 (fun X => X.cell? ⟨b, off + K * 2, none⟩ = some (.slice pu xl cu) ∧ X.cell? ⟨b, off + K * 2 + 1, none⟩ = some (.int .i64 xN) ∧ X.cell? ⟨b, off + m * 2, none⟩ = some (.slice pv yl cv)) (first | exact HS.out _ HB5.out | exact HS.out _ HB4.out | exact HS.out _ HD.out)
                (first | (go_at_call 46; refine (HKy.out _ HD.out).mono ?_; rintro e w4 ⟨rfl, hb4⟩; have HB4 := Lib.hid hb4; clear hb4) | (go_at_call 31; refine (HCm.out _ HB4.out).mono ?_; rintro e w5 ⟨rfl, hb5⟩; have HB5 := Lib.hid hb5; clear hb5))
              go_wp2_with fail
              go_ret
              exact ⟨.inr ⟨HNo.out, rfl⟩, HBr.out.trans (HB5.out.mono HBr.out.size)⟩
            · have hz1 : z < 0 := by omega
              have hzd : decide (0 ≤ z) = false := by simpa using hz0
              have HR1 := Lib.hid (show RunTo E (m + 1 + 1) from HRt.out.succ HkE.out ⟨by rw [← HX.out HkE.out]; exact HOk.out, by rw [← HX.out HkE.out]; exact HX0.out⟩ (fun j hj => by
                obtain rfl : j = m := by omega
                rw [← HY.out hmE, ← HX.out HkE.out, ← HZ.out]
                omega))
              go_wp2_with fail
              go_region_held3 (fun X => X.cell? ⟨b, off + K * 2, none⟩ = some (.slice pu xl cu) ∧ X.cell? ⟨b, off + K * 2 + 1, none⟩ = some (.int .i64 xN) ∧ X.cell? ⟨b, off + m * 2, none⟩ = some (.slice pv yl cv)) (first | exact HS.out _ HB5.out | exact HS.out _ HB4.out | exact HS.out _ HD.out)
                (first | (go_at_call 46; refine (HKy.out _ HD.out).mono ?_; rintro e w4 ⟨rfl, hb4⟩; have HB4 := Lib.hid hb4; clear hb4) | (go_at_call 31; refine (HCm.out _ HB4.out).mono ?_; rintro e w5 ⟨rfl, hb5⟩; have HB5 := Lib.hid hb5; clear hb5))
              go_wp2_with fail
              go_roundw
              case rel => exact ⟨K + 1, hlt, by simp, Lib.hid ⟨by rw [HKm.out]; exact HR1.out, HBr.out.trans (HB5.out.mono HBr.out.size)⟩⟩
              case measure => have := HKm.out; simp [intOf]; omega
      · have HNo := Lib.hid (show ¬ IsRun E from fun hr => hok (by have := (hr.1 k HkE.out HkE.out).1; rw [← HX.out HkE.out] at this; exact this))
        have HKn := Lib.hid (show ∀ W, Below wr.heap.size wr W → Calls Tryz.prog 46 #[.slice pu xl cu] W fun e w' => e = .returned (.int .i64 20) ∧ Below wr.heap.size wr w' from fun W hW => (HK.out W hW).mono fun e w' ⟨h, hb⟩ => by
          rcases h with ⟨h, -⟩ | ⟨-, rfl⟩
          · exact absurd h hok
          · exact ⟨rfl, hW.trans (hb.below.mono hW.size)⟩)
        clear hok HK
        go_wp2_with fail
        have HSd := Lib.hid (HC.out _ HD.out)
        refine wp_region_held_drew (S := fun X => X.cell? ⟨b, off + k * 2, none⟩ = some (.slice pu xl cu) ∧ X.cell? ⟨b, off + k * 2 + 1, none⟩ = some (.int .i64 xN)) (by kernel_rfl) HSd.out (fun _ => ?_)
        refine take1 0 10 (v := ?_) rfl rfl (by kernel_rfl) (by kernel_rfl) (by kernel_rfl) (fun _ _ _ h => h) (by kernel_rfl) ?_ HSd.out (by simp only [put_norm]; exact rfl) ?_
        rotate_left
        · rintro W ⟨k0, k1⟩; go_simp; try (with_reducible rfl)
        refine take1 1 11 (v := ?_) rfl rfl (by kernel_rfl) (by kernel_rfl) (by kernel_rfl) (fun _ _ _ h => h) (by kernel_rfl) ?_ HSd.out (by simp only [put_norm]; exact rfl) ?_
        rotate_left
        · rintro W ⟨k0, k1⟩; go_simp; try (with_reducible rfl)
        refine take1 2 12 (v := ?_) rfl rfl (by kernel_rfl) (by kernel_rfl) (by kernel_rfl) (fun _ _ _ h => h) (by kernel_rfl) ?_ HSd.out (by simp only [put_norm]; exact rfl) ?_
        rotate_left
        · rintro W ⟨k0, k1⟩; go_simp; try (with_reducible rfl)
        refine take1 3 13 (v := ?_) rfl rfl (by kernel_rfl) (by kernel_rfl) (by kernel_rfl) (fun _ _ _ h => h) (by kernel_rfl) ?_ HSd.out (by simp only [put_norm]; exact rfl) ?_
        rotate_left
        · rintro W ⟨k0, k1⟩; go_simp; try (with_reducible rfl)
        refine take1 4 14 (v := ?_) rfl rfl (by kernel_rfl) (by kernel_rfl) (by kernel_rfl) (fun _ _ _ h => h) (by kernel_rfl) ?_ HSd.out (by simp only [put_norm]; exact rfl) ?_
        rotate_left
        · rintro W ⟨k0, k1⟩; go_simp; try (with_reducible rfl)
        refine wpAnyH_ready (rs := [5]) (by kernel_rfl) (by simp) ?_
        refine AllReadyH.cons rfl (fun K hK => ?_) AllReadyH.nil
        go_simp
        refine (HKn.out _ HD.out).mono ?_
        rintro e w4 ⟨rfl, hb4⟩
        have HB4 := Lib.hid hb4
        have HS1 := Lib.hid (HC.out _ hb4)
        clear hb4
        go_wp2_with fail
        refine hK.out _ _ HS1.out (fun _ => ?_)
        clear hK K
        refine take1 6 16 (v := ?_) rfl rfl (by kernel_rfl) (by kernel_rfl) (by kernel_rfl) (fun _ _ _ h => h) (by kernel_rfl) ?_ HS1.out (by simp only [put_norm]; exact rfl) ?_
        rotate_left
        · rintro W ⟨k0, k1⟩; go_simp; try (with_reducible rfl)
        refine take1 7 17 (v := ?_) rfl rfl (by kernel_rfl) (by kernel_rfl) (by kernel_rfl) (fun _ _ _ h => h) (by kernel_rfl) ?_ HS1.out (by simp only [put_norm]; exact rfl) ?_
        rotate_left
        · rintro W ⟨k0, k1⟩; go_simp; try (with_reducible rfl)
        refine take0 8 18 rfl rfl (by kernel_rfl) (by kernel_rfl) (by kernel_rfl) (fun _ _ _ h => h) (by kernel_rfl) HS1.out (by simp only [put_norm]; exact rfl) ?_
        refine take0 9 19 rfl rfl (by kernel_rfl) (by kernel_rfl) (by kernel_rfl) (fun _ _ _ h => h) (by kernel_rfl) HS1.out (by simp only [put_norm]; exact rfl) ?_
        refine take0 10 20 rfl rfl (by kernel_rfl) (by kernel_rfl) (by kernel_rfl) (fun _ _ _ h => h) (by kernel_rfl) HS1.out (by simp only [put_norm]; exact rfl) ?_
        refine take0 11 21 rfl rfl (by kernel_rfl) (by kernel_rfl) (by kernel_rfl) (fun _ _ _ h => h) (by kernel_rfl) HS1.out (by simp only [put_norm]; exact rfl) ?_
        refine take0 12 22 rfl rfl (by kernel_rfl) (by kernel_rfl) (by kernel_rfl) (fun _ _ _ h => h) (by kernel_rfl) HS1.out (by simp only [put_norm]; exact rfl) ?_
        refine take0 13 23 rfl rfl (by kernel_rfl) (by kernel_rfl) (by kernel_rfl) (fun _ _ _ h => h) (by kernel_rfl) HS1.out (by simp only [put_norm]; exact rfl) ?_
        refine take1 14 24 (v := ?_) rfl rfl (by kernel_rfl) (by kernel_rfl) (by kernel_rfl) (fun _ _ _ h => h) (by kernel_rfl) ?_ HS1.out (by simp only [put_norm]; exact rfl) ?_
        rotate_left
        · rintro W ⟨k0, k1⟩; go_simp; try (with_reducible rfl)
        refine take1 15 25 (v := ?_) rfl rfl (by kernel_rfl) (by kernel_rfl) (by kernel_rfl) (fun _ _ _ h => h) (by kernel_rfl) ?_ HS1.out (by simp only [put_norm]; exact rfl) ?_
        rotate_left
        · rintro W ⟨k0, k1⟩; go_simp; try (with_reducible rfl)
        refine take0 16 26 rfl rfl (by kernel_rfl) (by kernel_rfl) (by kernel_rfl) (fun _ _ _ h => h) (by kernel_rfl) HS1.out (by simp only [put_norm]; exact rfl) ?_
        refine take0 17 27 rfl rfl (by kernel_rfl) (by kernel_rfl) (by kernel_rfl) (fun _ _ _ h => h) (by kernel_rfl) HS1.out (by simp only [put_norm]; exact rfl) ?_
        refine take0 18 28 rfl rfl (by kernel_rfl) (by kernel_rfl) (by kernel_rfl) (fun _ _ _ h => h) (by kernel_rfl) HS1.out (by simp only [put_norm]; exact rfl) ?_
        refine take0 19 29 rfl rfl (by kernel_rfl) (by kernel_rfl) (by kernel_rfl) (fun _ _ _ h => h) (by kernel_rfl) HS1.out (by simp only [put_norm]; exact rfl) ?_
        refine take0 20 30 rfl rfl (by kernel_rfl) (by kernel_rfl) (by kernel_rfl) (fun _ _ _ h => h) (by kernel_rfl) HS1.out (by simp only [put_norm]; exact rfl) ?_
        refine take0 21 31 rfl rfl (by kernel_rfl) (by kernel_rfl) (by kernel_rfl) (fun _ _ _ h => h) (by kernel_rfl) HS1.out (by simp only [put_norm]; exact rfl) ?_
        refine take0 22 32 rfl rfl (by kernel_rfl) (by kernel_rfl) (by kernel_rfl) (fun _ _ _ h => h) (by kernel_rfl) HS1.out (by simp only [put_norm]; exact rfl) ?_
        refine take0 23 33 rfl rfl (by kernel_rfl) (by kernel_rfl) (by kernel_rfl) (fun _ _ _ h => h) (by kernel_rfl) HS1.out (by simp only [put_norm]; exact rfl) ?_
        refine take0 24 34 rfl rfl (by kernel_rfl) (by kernel_rfl) (by kernel_rfl) (fun _ _ _ h => h) (by kernel_rfl) HS1.out (by simp only [put_norm]; exact rfl) ?_
        refine take0 25 35 rfl rfl (by kernel_rfl) (by kernel_rfl) (by kernel_rfl) (fun _ _ _ h => h) (by kernel_rfl) HS1.out (by simp only [put_norm]; exact rfl) ?_
        refine take0 26 36 rfl rfl (by kernel_rfl) (by kernel_rfl) (by kernel_rfl) (fun _ _ _ h => h) (by kernel_rfl) HS1.out (by simp only [put_norm]; exact rfl) ?_
        refine take0 27 37 rfl rfl (by kernel_rfl) (by kernel_rfl) (by kernel_rfl) (fun _ _ _ h => h) (by kernel_rfl) HS1.out (by simp only [put_norm]; exact rfl) ?_
        refine take0 28 38 rfl rfl (by kernel_rfl) (by kernel_rfl) (by kernel_rfl) (fun _ _ _ h => h) (by kernel_rfl) HS1.out (by simp only [put_norm]; exact rfl) ?_
        refine take0 29 39 rfl rfl (by kernel_rfl) (by kernel_rfl) (by kernel_rfl) (fun _ _ _ h => h) (by kernel_rfl) HS1.out (by simp only [put_norm]; exact rfl) ?_
        refine take0 30 40 rfl rfl (by kernel_rfl) (by kernel_rfl) (by kernel_rfl) (fun _ _ _ h => h) (by kernel_rfl) HS1.out (by simp only [put_norm]; exact rfl) ?_
        refine take0 31 41 rfl rfl (by kernel_rfl) (by kernel_rfl) (by kernel_rfl) (fun _ _ _ h => h) (by kernel_rfl) HS1.out (by simp only [put_norm]; exact rfl) ?_
        refine take0 32 42 rfl rfl (by kernel_rfl) (by kernel_rfl) (by kernel_rfl) (fun _ _ _ h => h) (by kernel_rfl) HS1.out (by simp only [put_norm]; exact rfl) ?_
        refine take1 33 43 (v := ?_) rfl rfl (by kernel_rfl) (by kernel_rfl) (by kernel_rfl) (fun _ _ _ h => h) (by kernel_rfl) ?_ HS1.out (by simp only [put_norm]; exact rfl) ?_
        rotate_left
        · rintro W ⟨k0, k1⟩; go_simp; try (with_reducible rfl)
        refine wpAnyH_done (by kernel_rfl) ?_ _
        go_wp2
        go_ret
        exact ⟨.inr ⟨HNo.out, rfl⟩, HBr.out.trans (HB4.out.mono HBr.out.size)⟩
    · obtain rfl : k = n := by omega
      have HE := Lib.hid (And.intro (show IsRun E by have := HJ.out.1; rw [HN.out] at this; exact this) HJ.out.2)
      clear HJ
      go_wp2_with fail
      go_ret
      exact ⟨.inl ⟨HE.out.1, rfl⟩, HE.out.2⟩
end
end Go.Proofs.YtdjhfcopnhcljaaGreatDoor
