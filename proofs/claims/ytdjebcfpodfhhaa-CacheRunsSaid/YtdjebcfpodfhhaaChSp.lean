/-
  The walk of step at Put.
-/
import Derived.Test.YtdjebcfpodfhhaaChSg
namespace Go.Proofs.Ytdjebcfpodfhhaa
open Go Go.RowKit Go.Maps Go.WideMaps

section
variable {lo : Nat} {w : World} {Z Y : Nat → Prop} {cnt c b n : Nat} {room h m g : Int} {L : List Pg}
theorem putL_len (room : Int) (r : ByteArray) (i : Int) (E : List (List V3 × Int)) (L : List Pg) : (putL room r i E L).length ≤ L.length + 1 := by
  unfold putL
  rw [List.length_take, List.length_cons]
  have := rest_len r i L
  omega
theorem StJ.put {w1 w2 w3 : World} {r : ByteArray} {i : Int} {E : List (List V3 × Int)} {e e' : Ending} (H : StJ lo w Z Y cnt c b n room h m g L) (hb1 : Below w.heap.size w w1) (hp : PutY Z cnt w1 c room h m g L r i E e w2) (hr : RPut Y w2 b room h m g L r i E e' w3) :
    ∀ W C, Upd C w3 W → (∀ k o, C k o → w.heap.size ≤ k ∧ k < w1.heap.size) → StS lo W c b (n + 1) room ∧ Below lo w W := by
  obtain ⟨-, hu2, hca⟩ := hp
  obtain ⟨-, Y', hY', hu3, hrf⟩ := hr
  have hz := H.ca.ltZ
  have hy := H.rf.lt
  have s1 := hb1.size
  have s2 := hu2.size
  have s3 := hu3.size
  have zb := H.zb
  have hb := hy b H.rf.inb
  have hll := H.ll
  have hbl := H.yl b H.rf.inb
  have b3 : Below lo w w3 := (hb1.mono hll).trans ((hu2.below (by omega) (fun k _ e => H.zl k e)).trans (hu3.below (by omega) (fun k _ e => by rw [e]; exact hbl)))
  have gn := H.gn
  have hn := H.hn
  have mn := H.mn
  have hg : 0 ≤ putG room r i g L ∧ putG room r i g L ≤ g + 1 := by
    unfold putG
    split
    · omega
    · split <;> omega
  have K : StJ lo w3 (fun k => Z k ∨ (w1.heap.size ≤ k ∧ k < w2.heap.size)) Y' (cnt + 1) c b (n + 1) room h m (putG room r i g L) (putL room r i E L) := by
    refine ⟨hca.upd hu3 (fun k o hk e => ?_), hrf, fun k hk e => ?_, fun k hk => ?_, fun k e => ?_, by omega, by have := H.cn; omega, ⟨hn.1, by omega⟩, ⟨mn.1, by omega⟩, ⟨hg.1, by omega⟩, by have := putL_len room r i E L; have := H.ln; omega⟩
    · subst e
      rcases hk with hk | hk
      · exact zb hk
      · omega
    · rcases hk with hk | hk
      · rcases hY' k e with e | e
        · exact H.ap k hk e
        · have := hz k hk; omega
      · rcases hY' k e with e | e
        · have := hy k e; omega
        · omega
    · rcases hk with hk | hk
      · exact H.zl k hk
      · omega
    · rcases hY' k e with e | e
      · exact H.yl k e
      · omega
  intro W C hu hC
  refine ⟨⟨_, _, _, _, _, _, _, K.upd hu (fun k o hk e => ?_) (fun k o hk e => ?_)⟩, b3.trans (hu.below (by omega) (fun k o e => by have := hC k o e; omega))⟩
  · have := hC k o e
    rcases hk with hk | hk
    · have := hz k hk; omega
    · omega
  · have := hC k o e
    rcases hY' k hk with hk | hk
    · have := hy k hk; omega
    · omega
set_option maxHeartbeats 4000000 in
set_option maxRecDepth 100000 in
theorem step_put (H : StJ lo w Z Y cnt c b n room h m g L) (hn : n ≤ 60) (r : ByteArray) (pg : Int) (hk : KeyOk r pg) (pt : Option Addr) (lt ct : Nat) (E : List (List V3 × Int)) (hE : EntS (fun k => k < lo) w (.slice pt lt ct) E) :
    Calls Try.prog 11 #[ptr c, ptr b, .agg #[.int .i64 2, .string r, .int .i64 pg, .slice pt lt ct]] w (StepE lo w c b n room) := by
  have HB0 := Lib.hid (below_new w (.cells #[.int .i64 2, .string r, .int .i64 pg, .slice pt lt ct] 36))
  have HO0 := Lib.hid (opBox_mk w 2 r pg (.slice pt lt ct))
  have H0 := Lib.hid (H.keep HB0.out)
  have HbZ := Lib.hid (show ¬ Z w.heap.size from fun e => by have := H.ca.ltZ _ e; omega)
  have HL := Lib.hid H.ll
  have HE0 := Lib.hid (hE.same (W' := w.alloc (.cells #[.int .i64 2, .string r, .int .i64 pg, .slice pt lt ct] 36)) (fun _ h => h) (fun x o hx => HB0.out.cell (p := ⟨x, o, none⟩) (Nat.lt_of_lt_of_le hx HL.out)))
  have HK := Lib.hid hk
  clear H hk hE
  go_enter Try.func11, Try.ntmps11
  go_wp2_with fail
  generalize w.alloc (.cells #[.int .i64 2, .string r, .int .i64 pg, .slice pt lt ct] 36) = W0 at *
  refine (rcopy_any W0 (.slice pt lt ct) E (HE0.out.mono fun k hk => Nat.lt_of_lt_of_le hk H0.out.ll)).mono ?_
  rintro e w1 ⟨v1, rfl, he1, hb1, Q, hQ, hrow⟩
  have HE1 := Lib.hid (he1.inside.mono (S' := fun k => k < w1.heap.size ∧ ¬ Z k) fun k hk => ⟨hk.2, fun e => by have := H0.out.ca.ltZ k e; have := hk.1; omega⟩)
  have HO1 := Lib.hid (HO0.out.below hb1)
  have HB1 := Lib.hid hb1
  have H1 := Lib.hid (H0.out.keep hb1)
  have HEp := Lib.hid (HE0.out.same (W' := w1) (fun _ h => h) (fun x o hx => hb1.cell (p := ⟨x, o, none⟩) (Nat.lt_of_lt_of_le hx H0.out.ll)))
  obtain ⟨q0, q1, q2, q3⟩ := HO1.out
  have hform : (∃ cp, v1 = .slice none 0 cp) ∨ ∃ gb len cap mm, v1 = .slice (some ⟨gb, 0, none⟩) len cap ∧ len ≤ 100 ∧ W0.heap.size ≤ gb ∧ Bk w1 gb 76 mm ∧ len * 2 ≤ mm := by
    rcases hrow.form with ⟨-, rfl⟩ | ⟨gb, cap, mm, rfl, hg1, hg2, hg3, -⟩
    · exact .inl ⟨0, rfl⟩
    · obtain ⟨p', cap', Q', -, e, hl, -⟩ := he1
      injection e with _ e _
      exact .inr ⟨gb, Q.length, cap, mm, rfl, by omega, hg1, hg2, hg3⟩
  clear he1 hb1 hQ hrow
  go_wp2_with fail
  refine (putY H1.out.ca r pg HK.out v1 E HE1.out (by have := H1.out.cn; omega) (by have := H1.out.gn; omega)).mono ?_
  intro e w2 hp
  have HP := Lib.hid hp
  obtain ⟨rfl, hu2, -⟩ := hp
  have HO2 := Lib.hid (HO1.out.upd hu2 HbZ.out)
  have HR2 := Lib.hid (H1.out.rf.upd hu2 (fun k o hk e => H1.out.ap k e hk))
  have HU2 := Lib.hid hu2
  have HEq := Lib.hid (show EntS (fun k => k < w2.heap.size) w2 (.slice pt lt ct) E from HEp.out.same (fun x hx => Nat.lt_of_lt_of_le hx (Nat.le_trans H1.out.ll hu2.size)) (fun x o hx => hu2.cell x o (Nat.lt_of_lt_of_le hx H1.out.ll) (fun e => by have := H1.out.zl x e; omega)))
  clear hu2 q0 q1 q2 q3
  obtain ⟨q0, q1, q2, q3⟩ := HO2.out
  go_wp2_with fail
  refine (rput_any HR2.out r pg pt lt ct E HEq.out (by have := H1.out.ln; omega) H1.out.ca.len.1 ⟨by have := H1.out.ca.len.1; omega, H1.out.ca.len.2⟩ ⟨H1.out.gn.1, by have := H1.out.gn.2; omega⟩).mono ?_
  intro e w3 hr
  have HFin := Lib.hid (H0.out.put HB1.out HP.out hr)
  have HU3 := Lib.hid (show Upd (fun k _ => k = b) w2 w3 from hr.2.choose_spec.2.1)
  have HB := Lib.hid (HB0.out.mono HL.out)
  obtain ⟨rfl, -⟩ := hr
  clear q0 q1 q2 q3
  rcases hform with ⟨cp, rfl⟩ | ⟨gb, len, cap, mm, rfl, hlen, hg1, hbk, hmm⟩
  · go_wp2_with fail
    go_loopw [14] (fun i' wr => i' = .int .i64 0 ∧ Hid (wr = w3)) (fun _ _ => 0)
    case atStart => exact ⟨rfl, Lib.hid rfl⟩
    case round =>
      obtain ⟨rfl, hw⟩ := hrel
      obtain rfl := hw.out
      have HF := Lib.hid (HFin.out wr (fun _ _ => False) (Upd.refl _ _) (fun _ _ e => e.elim))
      go_wp2_with fail
      go_ret
      exact ⟨rfl, HF.out.1, HB.out.trans HF.out.2⟩
  · have HBk := Lib.hid (HU3.out.kind _ _ _ (HU2.out.kind _ _ _ hbk))
    have HGb := Lib.hid (And.intro hg1 (And.intro hbk.lt hmm))
    have hlen' : (len : Int) ≤ 100 := by omega
    clear hbk hg1 hmm
    go_wp2_with fail
    go_loopw [14] (fun i' wr => ∃ k : Nat, k ≤ len ∧ i' = .int .i64 k ∧ Hid (Upd (fun x _ => x = gb) w3 wr)) (fun i' _ => len - (intOf i').toNat)
    case atStart => exact ⟨0, Nat.zero_le _, rfl, Lib.hid (Upd.refl _ _)⟩
    case round =>
      obtain ⟨k, hk, rfl, hU⟩ := hrel
      have h0 : (0 : Int) ≤ (k : Int) := by omega
      by_cases hlt : k < len
      · have hlt' : (k : Int) < (len : Int) := by omega
        have bk := hU.out.kind _ _ _ HBk.out
        have t0 : (wr.cell? ⟨gb, k * 2, none⟩).isSome = true := bk.there (by have := HGb.out.2.2; omega)
        have t1 : (wr.cell? ⟨gb, k * 2 + 1, none⟩).isSome = true := bk.there (by have := HGb.out.2.2; omega)
        have f0 : wr.frozen? ⟨gb, k * 2, none⟩ = false := bk.free _
        have f1 : wr.frozen? ⟨gb, k * 2 + 1, none⟩ = false := bk.free _
        obtain ⟨v0, hv0⟩ := Option.isSome_iff_exists.1 t0
        obtain ⟨v1, hv1⟩ := Option.isSome_iff_exists.1 t1
        clear t0 t1 bk
        go_wp2_with fail
        go_roundw
        case rel => exact ⟨k + 1, by omega, by go_num, Lib.hid ((hU.out.setCell gb _ _ (fun _ => rfl)).setCell gb _ _ (fun _ => rfl))⟩
        case measure => simp [intOf]; omega
      · obtain rfl : k = len := by omega
        have hge : (k : Int) ≤ (k : Int) := by omega
        have HF := Lib.hid (HFin.out wr _ hU.out (fun x _ e => by rw [e]; exact ⟨HGb.out.1, HGb.out.2.1⟩))
        go_wp2_with fail
        go_ret
        exact ⟨rfl, HF.out.1, HB.out.trans HF.out.2⟩
end
end Go.Proofs.Ytdjebcfpodfhhaa
