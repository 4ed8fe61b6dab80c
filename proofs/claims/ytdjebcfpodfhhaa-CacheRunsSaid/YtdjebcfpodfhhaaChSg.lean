/-
  The walk of step at Get.
-/
import Derived.Test.YtdjebcfpodfhhaaChSt
namespace Go.Proofs.Ytdjebcfpodfhhaa
open Go Go.RowKit Go.Maps Go.WideMaps

theorem ent_nil (S : Nat → Prop) (W : World) (c : Nat) : EntS S W (.slice none 0 c) [] := ⟨none, c, [], rfl, rfl, by simp, by simp, .inl rfl⟩
def StepE (lo : Nat) (w : World) (c b n : Nat) (room : Int) (e : Ending) (w' : World) : Prop := e = .returned (.bool true) ∧ StS lo w' c b (n + 1) room ∧ Below lo w w'
section
variable {lo : Nat} {w : World} {Z Y : Nat → Prop} {cnt c b n : Nat} {room h m g : Int} {L : List Pg}
set_option maxHeartbeats 4000000 in
set_option maxRecDepth 100000 in
theorem step_get (H : StJ lo w Z Y cnt c b n room h m g L) (hn : n ≤ 60) (r : ByteArray) (pg : Int) (hk : KeyOk r pg) (pt : Option Addr) (lt ct : Nat) :
    Calls Try.prog 11 #[ptr c, ptr b, .agg #[.int .i64 1, .string r, .int .i64 pg, .slice pt lt ct]] w (StepE lo w c b n room) := by
  have HB0 := Lib.hid (below_new w (.cells #[.int .i64 1, .string r, .int .i64 pg, .slice pt lt ct] 36))
  have HO0 := Lib.hid (opBox_mk w 1 r pg (.slice pt lt ct))
  have H0 := Lib.hid (H.keep HB0.out)
  have HbZ := Lib.hid (show ¬ Z w.heap.size from fun e => by have := H.ca.ltZ _ e; omega)
  have Hbb := Lib.hid (show w.heap.size ≠ b from fun e => by have := H.rf.kind.lt; omega)
  have HL := Lib.hid H.ll
  have HK := Lib.hid hk
  clear H hk
  go_enter Try.func11, Try.ntmps11
  go_wp2_with fail
  generalize w.alloc (.cells #[.int .i64 1, .string r, .int .i64 pg, .slice pt lt ct] 36) = W0 at *
  refine (getY H0.out.ca r pg HK.out (by have := H0.out.hn; omega) (by have := H0.out.mn; omega)).mono ?_
  intro e w2 hg
  have HG := Lib.hid hg
  have HO2 := Lib.hid (HO0.out.upd hg.1 HbZ.out)
  have HR2 := Lib.hid (H0.out.rf.upd hg.1 (fun k o hk e => H0.out.ap k e hk))
  obtain ⟨v, ok, rfl⟩ : ∃ v ok, e = .returned (.tuple #[v, .bool ok]) := by
    rcases hg.2 with ⟨-, e, -⟩ | ⟨_, _, -, e, -⟩
    · exact ⟨_, _, e⟩
    · exact ⟨_, _, e⟩
  obtain ⟨q0, q1, q2, q3⟩ := HO2.out
  clear hg
  go_wp2_with fail
  refine (rget_any HR2.out r pg (by have := H0.out.ln; omega) (by have := H0.out.hn; omega) (by have := H0.out.mn; omega)).mono ?_
  intro e w3 hr
  obtain ⟨hs, hb, hfin, hcase⟩ := H0.out.get HG.out hr
  have HS := Lib.hid hs
  have HB := Lib.hid (HB0.out.mono HL.out)
  have HB3 := Lib.hid (HB.out.trans hb)
  have HFin := Lib.hid hfin
  clear q0 q1 q2 q3 hs hb hfin hr
  rcases hcase with ⟨e1, rfl⟩ | ⟨E, v1, v', e1, rfl, hE1, hE2, hp⟩
  · injection e1 with e1
    injection e1 with e1
    injection e1 with e1
    injection e1 with e1 e2
    injection e2 with e2
    injection e2 with e2
    subst e1 e2
    go_wp2_with fail
    refine (rsame_same (.slice none 0 0) (.slice none 0 0) [] w3 (ent_nil _ _ _) (ent_nil _ _ _)).mono ?_
    rintro e w5 ⟨rfl, hg⟩
    have HF := Lib.hid (HFin.out w5 (fun _ _ => False) (Upd.of_below hg.below) (fun _ _ e => e.elim))
    clear hg
    go_wp2_with fail
    go_loopw [12] (fun i' wr => i' = .int .i64 0 ∧ Hid (wr = w5)) (fun _ _ => 0)
    case atStart => exact ⟨rfl, Lib.hid rfl⟩
    case round =>
      obtain ⟨rfl, hw⟩ := hrel
      obtain rfl := hw.out
      go_wp2_with fail
      go_ret
      exact ⟨rfl, HF.out.1, HB.out.trans HF.out.2⟩
  · injection e1 with e1
    injection e1 with e1
    injection e1 with e1
    injection e1 with e1 e2
    injection e2 with e2
    injection e2 with e2
    subst e1 e2
    have HE1 := Lib.hid hE1
    have HE2 := Lib.hid hE2
    clear hE1 hE2
    obtain ⟨p2, l2, c2, hv'⟩ := HE2.out.slice3
    subst hv'
    rcases hp with ⟨cp, rfl⟩ | ⟨gb, len, cap, mm, rfl, hlen, hg1, hg2, hbk, hmm⟩
    · go_wp2_with fail
      refine (rsame_same (.slice none 0 cp) (.slice p2 l2 c2) E w3 HE1.out HE2.out).mono ?_
      rintro e w5 ⟨rfl, hg⟩
      have HF := Lib.hid (HFin.out w5 (fun _ _ => False) (Upd.of_below hg.below) (fun _ _ e => e.elim))
      clear hg
      go_wp2_with fail
      go_loopw [12] (fun i' wr => i' = .int .i64 0 ∧ Hid (wr = w5)) (fun _ _ => 0)
      case atStart => exact ⟨rfl, Lib.hid rfl⟩
      case round =>
        obtain ⟨rfl, hw⟩ := hrel
        obtain rfl := hw.out
        go_wp2_with fail
        go_ret
        exact ⟨rfl, HF.out.1, HB.out.trans HF.out.2⟩
    · have HBk := Lib.hid hbk
      have HGb := Lib.hid (And.intro hg1 (And.intro hg2 hmm))
      have hlen' : (len : Int) ≤ 100 := by omega
      clear hbk hg1 hg2 hmm
      go_wp2_with fail
      refine (rsame_same (.slice (some ⟨gb, 0, none⟩) len cap) (.slice p2 l2 c2) E w3 HE1.out HE2.out).mono ?_
      rintro e w5 ⟨rfl, hg⟩
      have HU5 := Lib.hid (show Upd (fun x _ => x = gb) w3 w5 from Upd.of_below hg.below)
      clear hg
      go_wp2_with fail
      go_loopw [12] (fun i' wr => ∃ k : Nat, k ≤ len ∧ i' = .int .i64 k ∧ Hid (Upd (fun x _ => x = gb) w3 wr)) (fun i' _ => len - (intOf i').toNat)
      case atStart => exact ⟨0, Nat.zero_le _, rfl, HU5⟩
      case round =>
        obtain ⟨k, hk, rfl, hU⟩ := hrel
        clear HU5
        have h0 : (0 : Int) ≤ (k : Int) := by omega
        by_cases hlt : k < len
        · have hlt' : (k : Int) < (len : Int) := by omega
          have bk := hU.out.kind _ _ _ HBk.out
          have t0 : (wr.cell? ⟨gb, k * 2, none⟩).isSome = true := bk.there (by have := HGb.out.2.2; omega)
          have t1 : (wr.cell? ⟨gb, k * 2 + 1, none⟩).isSome = true := bk.there (by have := HGb.out.2.2; omega)
          have f0 : wr.frozen? ⟨gb, k * 2, none⟩ = false := bk.free _
          have f1 : wr.frozen? ⟨gb, k * 2 + 1, none⟩ = false := bk.free _
          obtain ⟨v0, hv0⟩ := Option.isSome_iff_exists.1 t0
          obtain ⟨v1, hv1⟩ := Option.isSome_iff_exists.1 t1
          clear t0 t1 bk
          go_wp2_with fail
          go_roundw
          case rel => exact ⟨k + 1, by omega, by go_num, Lib.hid ((hU.out.setCell gb _ _ (fun _ => rfl)).setCell gb _ _ (fun _ => rfl))⟩
          case measure => simp [intOf]; omega
        · obtain rfl : k = len := by omega
          have hge : (k : Int) ≤ (k : Int) := by omega
          have HF := Lib.hid (HFin.out wr _ hU.out (fun x _ e => by rw [e]; exact ⟨HGb.out.1, HGb.out.2.1⟩))
          go_wp2_with fail
          go_ret
          exact ⟨rfl, HF.out.1, HB.out.trans HF.out.2⟩
end
end Go.Proofs.Ytdjebcfpodfhhaa
