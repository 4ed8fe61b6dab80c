/-
  Contract of the document's Once.
-/
import Derived.Test.YtlccleafjpeccaaMhF
namespace Go.Proofs.Ytlccleafjpeccaa
open Go Go.RowKit Go.Shelf

/-- What the loop of the document's Once keeps. -/
def RoJ (L : List Th) (w : World) (P : List Th) (n : Nat) (v : Value) (W : World) : Prop :=
  onceL L = P ++ onlyL onStep P.getLast? (L.drop n) ∧ OwnTh w.heap.size W v P ∧ Below w.heap.size w W ∧ P.length ≤ n
theorem RoJ.below {L : List Th} {w : World} {P : List Th} {n : Nat} {v : Value} {W W' : World} (h : RoJ L w P n v W) (hb : Below W.heap.size W W') : RoJ L w P n v W' := by
  obtain ⟨h1, h2, h3, h4⟩ := h
  exact ⟨h1, h2.below hb, h3.trans (hb.mono h3.size), h4⟩
theorem RoJ.skip {L : List Th} {w : World} {P : List Th} {n : Nat} {v : Value} {W : World} {x : Th} (h : RoJ L w P n v W) (hn : n < L.length) (hx : x = L[n]) (hs : onStep P.getLast? x = (false, P.getLast?)) : RoJ L w P (n + 1) v W := by
  obtain ⟨h1, h2, h3, h4⟩ := h
  refine ⟨?_, h2, h3, by omega⟩
  rw [h1, List.drop_eq_getElem_cons hn, ← hx]
  conv => lhs; unfold onlyL
  rw [hs]
  simp
theorem RoJ.take {L : List Th} {w : World} {P : List Th} {n : Nat} {v v' : Value} {W W' : World} {x : Th} (h : RoJ L w P n v W) (hn : n < L.length) (hx : x = L[n]) (hs : onStep P.getLast? x = (true, some x)) (ho : OwnTh w.heap.size W' v' (P ++ [x])) (hb : Below w.heap.size w W') : RoJ L w (P ++ [x]) (n + 1) v' W' := by
  obtain ⟨h1, h2, h3, h4⟩ := h
  refine ⟨?_, ho, hb, by simp; omega⟩
  rw [h1, List.drop_eq_getElem_cons hn, ← hx]
  conv => lhs; unfold onlyL
  rw [hs]
  simp
def FourO (b1 o1 k b2 o2 n : Nat) (y x : Th) (X : World) : Prop := X.cell? ⟨b1, o1 + k * 2, none⟩ = some (.int .i8 y.1) ∧ X.cell? ⟨b1, o1 + k * 2 + 1, none⟩ = some (.int .i64 y.2) ∧ X.cell? ⟨b2, o2 + n * 2, none⟩ = some (.int .i8 x.1) ∧ X.cell? ⟨b2, o2 + n * 2 + 1, none⟩ = some (.int .i64 x.2)
theorem FourO.below {b1 o1 k b2 o2 n : Nat} {y x : Th} {W W' : World} (hb : Below W.heap.size W W') (h : FourO b1 o1 k b2 o2 n y x W) : FourO b1 o1 k b2 o2 n y x W' := by
  obtain ⟨h1, h2, h3, h4⟩ := h
  have g : ∀ {b o v}, W.cell? ⟨b, o, none⟩ = some v → W'.cell? ⟨b, o, none⟩ = some v := fun {b o v} e => (hb.cell (p := ⟨b, o, none⟩) (World.block_lt_of_cell? W _ e)).trans e
  exact ⟨g h1, g h2, g h3, g h4⟩
set_option maxRecDepth 100000 in
set_option maxHeartbeats 4000000 in
theorem ronce_any {S : Nat → Prop} {v : Value} {L : List Th} {w : World} (h : ThIn S w v L) (hl : L.length ≤ 1000) :
    Calls Try.prog 26 #[v] w (RowEnd (onceL L) w) := by
  have HV := Lib.hid (show ∀ W, Below w.heap.size w W → ThIn (fun k => S k ∧ k < w.heap.size) W v L from fun W hb => h.keep hb.size (fun k e hk => ⟨⟨e, hk⟩, hb.block k hk⟩))
  obtain ⟨p, c, rfl, hc1, hc2, -⟩ := h
  have HL := Lib.hid hl
  have H0 := Lib.hid (show RoJ L w [] 0 (.slice none 0 0) w from ⟨rfl, OwnTh.nil _ _, Below.refl _ _, Nat.le_refl _⟩)
  go_enter Try.func26, Try.ntmps26
  go_wp2_with fail
  go_loopw [3, 4] (fun v i wr => ∃ n : Nat, n ≤ L.length ∧ i = .int .i64 n ∧ ∃ P, Hid (RoJ L w P n v wr)) (fun _ i _ => L.length - (intOf i).toNat)
  case atStart => exact ⟨0, Nat.zero_le _, rfl, [], H0⟩
  case round =>
    obtain ⟨n, hn, rfl, P, HJ⟩ := hrel
    by_cases hlt : n < L.length
    · have hlt' : (n : Int) < (L.length : Int) := by omega
      obtain ⟨x, hx⟩ : ∃ x, x = L[n] := ⟨_, rfl⟩
      obtain ⟨b2, o2, rfl, hbl2, hcl⟩ := (HV.out wr HJ.out.2.2.1).row (by rintro rfl; simp at hlt)
      have hxc := hcl n hlt
      rw [← hx] at hxc
      have HX := Lib.hid hx
      obtain ⟨p3, c3, e3, -⟩ := HJ.out.2.1.in_ (fun _ => True) (fun _ _ => trivial)
      subst e3
      have HJd := Lib.hid (HJ.out.below ((Below.refl _ _).drew))
      have hP6 : P.length ≤ 1000000 := by have := HJ.out.2.2.2; omega
      have HP6 := Lib.hid hP6
      have HXc := Lib.hid hxc
      clear hcl hx hP6
      rcases List.eq_nil_or_concat P with rfl | ⟨P0, y, rfl⟩
      · obtain ⟨hx0, hx1⟩ := hxc
        have HT := Lib.hid (fun v' W' => HJd.out.take (v' := v') (W' := W') hlt HX.out rfl)
        go_wp2_with fail
        go_region
        obtain ⟨W, hW⟩ : ∃ W, W = wr.drew := ⟨_, rfl⟩
        have x0w : W.cell? ⟨b2, o2 + n * 2, none⟩ = some (.int .i8 x.1) := by rw [hW]; exact hx0
        have x1w : W.cell? ⟨b2, o2 + n * 2 + 1, none⟩ = some (.int .i64 x.2) := by rw [hW]; exact hx1
        rw [← hW] at HJd ⊢
        clear hW hx0 hx1
        go_wp2_with (at_builtin; refine wpList_appTh rfl (.tmp 28) (.tmp 33) rfl w.heap.size _ _ _ [] [x] rfl rfl (HJd.out.2.1.alloc _) (litTh_in W x.1 x.2) (by simp) (by simp) (HJd.out.2.2.1.alloc HJd.out.2.2.1.size _).size ?_; rintro v9 w9 ho9 hg9 -; have HN9 := Lib.hid (HT.out v9 w9 ho9 ((HJd.out.2.2.1.alloc HJd.out.2.2.1.size _).grown hg9 (HJd.out.2.2.1.alloc HJd.out.2.2.1.size _).size (fun k e => (HJd.out.2.1.lt k e).1))); clear ho9 hg9)
        go_roundw
        case rel => exact ⟨n + 1, hlt, by simp, _, HN9⟩
        case measure => simp [intOf]; omega
      · have hpl : (P0.concat y).length = P0.length + 1 := by simp
        have hls : (P0.concat y).getLast? = some y := by simp
        obtain ⟨b1, o1, ep, hbl1, hcl1⟩ := (HJ.out.2.1.in_ (fun _ => True) (fun _ _ => trivial)).row (by simp)
        have hyc := hcl1 P0.length (by simp)
        have hyg : (P0.concat y)[P0.length]'(by simp) = y := by simp
        rw [hyg] at hyc
        subst ep
        have HF := Lib.hid (show FourO b1 o1 P0.length b2 o2 n y x wr from ⟨hyc.1, hyc.2, hxc.1, hxc.2⟩)
        obtain ⟨K, hK⟩ : ∃ K, K = P0.length := ⟨_, rfl⟩
        rw [← hK] at HF hpl
        obtain ⟨N, hN⟩ : ∃ N, N = (P0.concat y).length := ⟨_, rfl⟩
        rw [← hN]
        have hNK : N = K + 1 := hN.trans hpl
        have hw : IntKind.i64.wrap ((N : Int) - 1) = (K : Int) := by
          have := HP6.out
          rw [← hN] at this
          rw [IntKind.wrap_i64]; omega
        have hN0 : ((N : Int) == 0) = false := by simp; omega
        have hN1 : ¬ N = 0 := by omega
        have hN2 : ¬ (N : Int) = 0 := by omega
        have hKN : (K : Int) < (N : Int) := by omega
        have hNc : (N : Int) ≤ (c3 : Int) := by
          obtain ⟨_, _, e, g, -⟩ := HJ.out.2.1.in_ (fun _ => True) (fun _ _ => trivial)
          injection e with _ _ e
          omega
        obtain ⟨Q, hQ⟩ : ∃ Q, Q = P0.concat y := ⟨_, rfl⟩
        rw [← hQ] at HJ HJd HP6 hN hls
        have HQl := Lib.hid hN.symm
        have HQs := Lib.hid hls
        obtain ⟨z, hz⟩ : ∃ z, z = cmpT2 y x := ⟨_, rfl⟩
        have HZ := Lib.hid hz
        clear hcl1 hyc hyg hpl hls hQ hK hz hxc hN hNK
        by_cases hz0 : z = 0
        · have HS := Lib.hid (HJd.out.skip hlt HX.out (by rw [HQs.out]; unfold onStep; simp only; rw [if_pos ((cmp_swap x y).1 (by rw [← HZ.out]; exact hz0))]))
          have HS2 := Lib.hid (fun W hb => RoJ.below (W' := W) HS.out hb)
          subst hz0
          go_wp2_with fail
          go_region_held3 (fun X => X.cell? ⟨b1, o1 + K * 2, none⟩ = some (.int .i8 y.1) ∧ X.cell? ⟨b1, o1 + K * 2 + 1, none⟩ = some (.int .i64 y.2) ∧ X.cell? ⟨b2, o2 + n * 2, none⟩ = some (.int .i8 x.1) ∧ X.cell? ⟨b2, o2 + n * 2 + 1, none⟩ = some (.int .i64 x.2)) (first | exact HF.out | exact HF4.out)
            ((go_at_call 22; refine (cmp_any y x _).mono ?_; rintro e w4 ⟨rfl, hb4⟩; rw [← HZ.out]; have HS4 := Lib.hid (HS2.out w4 hb4); have HF4 := Lib.hid (HF.out.below ((Below.refl _ _).drew.trans hb4)); clear hb4))
          go_wp2_with fail
          go_roundw
          case rel => exact ⟨n + 1, hlt, by simp, _, by rw [HQl.out] at HS4; exact HS4⟩
          case measure => simp [intOf]; omega
        · have hz2 : (z == 0) = false := by simpa using hz0
          have hz3 : (z != 0) = true := by unfold bne; rw [hz2]; rfl
          have HJ4 := Lib.hid (fun W hb => RoJ.below (W' := W) HJd.out hb)
          have HSt := Lib.hid (show onStep Q.getLast? x = (true, some x) by rw [HQs.out]; unfold onStep; simp only; rw [if_neg (fun e => hz0 (by rw [HZ.out]; exact (cmp_swap x y).2 e))])
          go_wp2_with fail
          go_region_held3 (fun X => X.cell? ⟨b1, o1 + K * 2, none⟩ = some (.int .i8 y.1) ∧ X.cell? ⟨b1, o1 + K * 2 + 1, none⟩ = some (.int .i64 y.2) ∧ X.cell? ⟨b2, o2 + n * 2, none⟩ = some (.int .i8 x.1) ∧ X.cell? ⟨b2, o2 + n * 2 + 1, none⟩ = some (.int .i64 x.2)) (first | exact HF.out | exact HF4.out)
            ((go_at_call 22; refine (cmp_any y x _).mono ?_; rintro e w4 ⟨rfl, hb4⟩; rw [← HZ.out]; have HS4 := Lib.hid (HJ4.out w4 hb4); have HF4 := Lib.hid (HF.out.below ((Below.refl _ _).drew.trans hb4)); clear hb4))
          obtain ⟨-, -, x0w, x1w⟩ := HF4.out
          go_wp2_with (at_builtin; refine wpList_appTh rfl (.tmp 28) (.tmp 33) rfl w.heap.size _ _ _ Q [x] rfl rfl (by have h := HS4.out.2.1; rw [HQl.out] at h; exact h.alloc _) (litTh_in w4 x.1 x.2) HP6.out (by simp) (HS4.out.2.2.1.alloc HS4.out.2.2.1.size _).size ?_; rintro v9 w9 ho9 hg9 -; have HN9 := Lib.hid (HS4.out.take hlt HX.out HSt.out ho9 ((HS4.out.2.2.1.alloc HS4.out.2.2.1.size _).grown hg9 (HS4.out.2.2.1.alloc HS4.out.2.2.1.size _).size (fun k e => (HS4.out.2.1.lt k (by rw [HQl.out]; exact e)).1))); clear ho9 hg9)
          go_roundw
          case rel => exact ⟨n + 1, hlt, by simp, _, HN9⟩
          case measure => simp [intOf]; omega
    · obtain rfl : n = L.length := by omega
      go_wp2_with fail
      go_ret
      obtain ⟨h1, h2, h3, -⟩ := HJ.out
      rw [List.drop_length] at h1
      have e : onceL L = P := by rw [h1]; unfold onlyL; rw [List.append_nil]
      rw [e]
      exact ⟨_, rfl, h2, h3⟩
end Go.Proofs.Ytlccleafjpeccaa
