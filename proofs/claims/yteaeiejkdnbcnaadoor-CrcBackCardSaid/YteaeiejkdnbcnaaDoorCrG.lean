/-
  Contract of the document's Frame.
-/
import Derived.Test.YteaeiejkdnbcnaaDoorCrF
namespace Go.Proofs.YteaeiejkdnbcnaaDoor
open Go Go.RowKit

/-- An append of bytes at a step of a region that draws its order. -/
theorem step_app {w : World} {ops : Array Oper} {o : Oper} {a : Act} {K : Act → World → Prop} {Q : Exit → Act → World → Prop} {E : Prop} (hgd : o.guard = none) (s x : Operand)
    (ho : o.op = .call { callee := .builtin .append, args := #[s, x], argTypes := #[22, 22] })
    (B n₀ : Nat) (w0 : World) (v vx : Value) (l m : List UInt8) (hs : a.eval s = v) (hx : a.eval x = vx) (hown : OwnB B w v l) (hin : BytIn n₀ w vx m) (hlen : l.length + m.length ≤ 100000000000000) (hb : Below B w0 w) (hB : B ≤ w0.heap.size)
    (h : ∀ v' w', OwnB B w' v' (l ++ m) → Below B w0 w' → K (a.put o.dst v') w') : if Region.wanted o (yielded ops a.tmps) = true then Oper.wp Tryd.prog o a w K Q else E := by
  have hw : Region.wanted o (yielded ops a.tmps) = true := by simp [Region.wanted, hgd]
  rw [if_pos hw]
  have hBw : B ≤ w.heap.size := Nat.le_trans hB hb.size
  obtain ⟨v', w', hr, h2, h3⟩ := run_app w B n₀ o.type v vx l m hown hin hlen hBw
  unfold Oper.wp execOp
  simp only [ho, resolve, invoke, builtin, Sem.run_bind, Sem.run_pure, Result.andThen_ok, List.map_toArray, List.map_cons, List.map_nil, hs, hx, hr]
  exact h v' w' h2 (hb.grown h3 hBw fun k hk => (World.ownsRow.lt hown k hk).1)
set_option maxHeartbeats 1000000 in
set_option maxRecDepth 100000 in
theorem rframe_long (k : UInt8) (p : Option Addr) (c : Nat) (l : List UInt8) (w : World) (hl : 1048576 < l.length) :
    Calls Tryd.prog 21 #[.agg #[.int .u8 (k.toNat : Int), .slice p l.length c]] w fun e w' => e = .returned (.tuple #[.slice none 0 0, .int .i64 2]) ∧ Below w.heap.size w w' := by
  have h1 : (1048576 : Int) < (l.length : Int) := by omega
  go_enter Tryd.func21, Tryd.ntmps21
  go_wp2_with fail
  go_ret2
  exact ⟨rfl, (Below.refl _ _).alloc (Nat.le_refl _) _⟩
theorem PieceAt.keep {w w' : World} {b B : Nat} {k : UInt8} {p : Option Addr} {c : Nat} {l : List UInt8} (h : PieceAt w b k p c l) (hb : Below B w w') (hB : b < B) (hn : BytIn B w (.slice p l.length c) l) (hs : w.heap.size ≤ w'.heap.size) (hB2 : B ≤ w.heap.size) : PieceAt w' b k p c l :=
  ⟨Nat.lt_of_lt_of_le h.1 hs, (hb.cell (p := ⟨b, 0, none⟩) hB).trans h.2.1, (hb.cell (p := ⟨b, 1, none⟩) hB).trans h.2.2.1, (hn.below hb).mono (by have := hb.size; omega)⟩
set_option maxHeartbeats 1000000 in
set_option maxRecDepth 100000 in
theorem rframe_any (k : UInt8) (p : Option Addr) (c : Nat) (l : List UInt8) (w : World) (h : BytIn w.heap.size w (.slice p l.length c) l) (hl : l.length ≤ 1048576) :
    Calls Tryd.prog 21 #[.agg #[.int .u8 (k.toNat : Int), .slice p l.length c]] w (FrameEnd k l w) := by
  have HP := Lib.hid (PieceAt.box (T := 35) (k := k) h)
  have h1 : (l.length : Int) ≤ 1048576 := by omega
  obtain ⟨x, hx, HX⟩ : ∃ x : Reg, IntKind.u32.wrap (l.length : Int) = rg x ∧ Hid (x = BitVec.ofNat 32 l.length) := ⟨BitVec.ofNat 32 l.length, by
    unfold rg
    rw [IntKind.wrap_u32', BitVec.toNat_ofNat]
    omega, Lib.hid rfl⟩
  have H := Lib.hid h
  clear h
  go_enter Tryd.func21, Tryd.ntmps21
  go_wp2_with fail
  obtain ⟨wb, hwb⟩ : ∃ wb, wb = w.alloc (.cells #[.int .u8 (k.toNat : Int), .slice p l.length c] 35) := ⟨_, rfl⟩
  rw [← hwb] at HP ⊢
  have HB := Lib.hid (show Below w.heap.size w wb by rw [hwb]; exact (Below.refl _ _).alloc (Nat.le_refl _) _)
  obtain ⟨N, hN⟩ : ∃ N, N = w.heap.size := ⟨_, rfl⟩
  have HS := Lib.hid (show wb.heap.size = N + 1 by rw [hwb, hN]; simp)
  rw [← hN] at HP ⊢
  have HN := Lib.hid hN
  have HI := Lib.hid (show BytIn (N + 1) wb (.slice p l.length c) l by rw [← HS.out]; exact HP.out.2.2.2)
  clear hwb hN
  have c0 := HP.out.2.1
  have c1 := HP.out.2.2.1
  have HL := Lib.hid (show Below (N + 1) wb (wb.alloc (.cells #[.int .u8 (k.toNat : Int)] 5)).drew from (((Below.refl _ _).alloc (Nat.le_of_eq HS.out.symm) _).drew))
  have HO := Lib.hid (show OwnB (N + 1) (wb.alloc (.cells #[.int .u8 (k.toNat : Int)] 5)).drew (.slice (some ⟨wb.heap.size, 0, none⟩) 1 1) [k] from (OwnB.lit (N + 1) wb #[.int .u8 (k.toNat : Int)] [k] 1 (Nat.le_of_eq HS.out.symm) rfl (by simp) (bytesV_single rfl)).below (Below.refl _ _).drew)
  have HL2 := Lib.hid (show Below (N + 1) wb wb.drew from (Below.refl _ _).drew)
  have hNl : N + 1 ≤ wb.heap.size := Nat.le_of_eq HS.out.symm
  go_region_held3 (fun w' => w'.cell? ⟨N, 0, none⟩ = some (.int .u8 (k.toNat : Int)) ∧ w'.cell? ⟨N, 1, none⟩ = some (.slice p l.length c))
    (first | go_keep | with_reducible exact ⟨d0, d1⟩ | with_reducible exact ⟨e0, e1⟩)
    ((first
      | (go_at_call 39; (with_reducible refine (four_any x (wb.alloc (.cells #[.int .u8 (k.toNat : Int)] 5)).drew).mono ?_); rintro e w1 ⟨v1, rfl, ho1, hb1⟩; have HB1 := Lib.hid (HL.out.trans (hb1.mono (Nat.le_trans hNl HL.out.size))); have HO1 := Lib.hid (HO.out.below hb1); have HI1 := Lib.hid ho1.in_; clear ho1 hb1; have d0 := (HB1.out.cell (p := ⟨N, 0, none⟩) (Nat.lt_succ_self N)).trans c0; have d1 := (HB1.out.cell (p := ⟨N, 1, none⟩) (Nat.lt_succ_self N)).trans c1)
      | (go_at_call 39; (with_reducible refine (four_any x wb.drew).mono ?_); rintro e w1 ⟨v1, rfl, ho1, hb1⟩; have HB0 := Lib.hid (HL2.out.trans (hb1.mono (Nat.le_trans hNl HL2.out.size))); have HB1 := Lib.hid (HB0.out.alloc (Nat.le_trans hNl HB0.out.size) (.cells #[.int .u8 (k.toNat : Int)] 5)); have HO1 := Lib.hid (OwnB.lit (N + 1) w1 #[.int .u8 (k.toNat : Int)] [k] 1 (Nat.le_trans hNl HB0.out.size) rfl (by simp) (bytesV_single rfl)); have HI1 := Lib.hid (ho1.in_.below ((Below.refl _ _).alloc (Nat.le_refl _) (.cells #[.int .u8 (k.toNat : Int)] 5))); clear ho1 hb1; have d0 := (HB0.out.cell (p := ⟨N, 0, none⟩) (Nat.lt_succ_self N)).trans c0; have d1 := (HB0.out.cell (p := ⟨N, 1, none⟩) (Nat.lt_succ_self N)).trans c1)
      | (refine step_app rfl (.tmp 11) (.tmp 16) rfl (N + 1) _ wb _ _ [k] (encL x) rfl rfl HO1.out HI1.out (by rw [encL_len, List.length_singleton]; decide) HB1.out hNl ?_; intro v2 w2 ho2 hb2; have HO2 := Lib.hid ho2; have HB2 := Lib.hid hb2; clear ho2 hb2; have e0 := (HB2.out.cell (p := ⟨N, 0, none⟩) (Nat.lt_succ_self N)).trans c0; have e1 := (HB2.out.cell (p := ⟨N, 1, none⟩) (Nat.lt_succ_self N)).trans c1)))
  all_goals
    clear HO1 HI1 HB1 HL HL2 HO hx d0 d1
    obtain ⟨h, hh⟩ : ∃ h, h = [k] ++ encL x := ⟨_, rfl⟩
    rw [← hh] at HO2
    have HH : Hid (h = headL k l) := Lib.hid (by rw [hh, HX.out]; rfl)
    clear hh
    have hN2 := Nat.le_trans hNl HB2.out.size
    have HW := Lib.hid (show Below (N + 1) wb w2.drew from HB2.out.drew)
    have HIh := Lib.hid (show BytIn w2.drew.heap.size w2.drew v2 h from HO2.out.in_)
    have c0 := e0
    have c1 := e1
    go_wp2_with fail
    go_region_held3 (fun w' => w'.cell? ⟨N, 1, none⟩ = some (.slice p l.length c))
      (first | go_keep | with_reducible exact f1 | with_reducible exact g1 | with_reducible exact j1)
      ((first
        | (go_at_call 16; (with_reducible refine (rseal_any v2 h w2.drew HIh.out (by rw [HH.out, headL_len]; decide)).mono ?_); rintro e w3 ⟨v3, rfl, ho3, hb3⟩; have HB3 := Lib.hid (HW.out.trans (hb3.mono hN2)); have HO3 := Lib.hid (ho3.mono hN2); clear ho3 hb3; have f1 := (HB3.out.cell (p := ⟨N, 1, none⟩) (Nat.lt_succ_self N)).trans (HP.out.2.2.1))
        | (refine step_app rfl (.tmp 19) (.tmp 22) rfl (N + 1) _ wb _ _ (sealL h) (sealL l) rfl rfl HO4.out HI4.out (by rw [sealL_len, sealL_len, HH.out, headL_len]; omega) HB4.out hNl ?_; intro v5 w5 ho5 hb5; have HO5 := Lib.hid ho5; have HB5 := Lib.hid hb5; clear ho5 hb5; have j1 := (HB5.out.cell (p := ⟨N, 1, none⟩) (Nat.lt_succ_self N)).trans HP.out.2.2.1)
        | (go_at_call 16; (with_reducible refine (rseal_any (.slice p l.length c) l w3 ((HI.out.below HB3.out).mono (Nat.le_trans hNl HB3.out.size)) (by omega)).mono ?_); rintro e w4 ⟨v4, rfl, ho4, hb4⟩; have HB4 := Lib.hid (HB3.out.trans (hb4.mono (Nat.le_trans hNl HB3.out.size))); have HO4 := Lib.hid (HO3.out.below hb4); have HI4 := Lib.hid ho4.in_; clear ho4 hb4; have g1 := (HB4.out.cell (p := ⟨N, 1, none⟩) (Nat.lt_succ_self N)).trans HP.out.2.2.1)))
    have HF : Hid (sealL h ++ sealL l = frameL k l) := Lib.hid (by rw [HH.out]; rfl)
    go_wp2_with fail
    go_ret2
    exact ⟨v5, rfl, by rw [← HF.out]; exact HO5.out.mono (by have := HN.out; omega), HB.out.trans (HB5.out.mono (by have := HN.out; omega))⟩
end Go.Proofs.YteaeiejkdnbcnaaDoor
