/-
  The walk of step at Drop and at other calls.
-/
import Derived.Test.YtdjebcfpodfhhaaChSp
namespace Go.Proofs.Ytdjebcfpodfhhaa
open Go Go.RowKit Go.Maps Go.WideMaps

section
variable {lo : Nat} {w : World} {Z Y : Nat → Prop} {cnt c b n : Nat} {room h m g : Int} {L : List Pg}
theorem StJ.drop {w2 w3 : World} {nm : ByteArray} {e e' : Ending} (H : StJ lo w Z Y cnt c b n room h m g L) (hp : DropY Z cnt w c room h m g L nm e w2) (hr : RDrop Y w2 b room h m g L nm e' w3) : StS lo w3 c b (n + 1) room ∧ Below lo w w3 := by
  obtain ⟨-, hu2, hca⟩ := hp
  obtain ⟨-, hu3, hrf⟩ := hr
  have hz := H.ca.ltZ
  have hy := H.rf.lt
  have s2 := hu2.size
  have s3 := hu3.size
  have zb := H.zb
  have hll := H.ll
  have hbl := H.yl b H.rf.inb
  have gn := H.gn
  have hn := H.hn
  have mn := H.mn
  refine ⟨⟨Z, _, cnt, h, m, g, dropL nm L, hca.upd hu3 (fun k o hk e => zb (e ▸ hk)), hrf, fun k hk e => ?_, H.zl, fun k e => ?_, by omega, by have := H.cn; omega, ⟨hn.1, by omega⟩, ⟨mn.1, by omega⟩, ⟨gn.1, by omega⟩, ?_⟩, (hu2.below (by omega) (fun k _ e => H.zl k e)).trans (hu3.below (by omega) (fun k _ e => by rw [e]; exact hbl))⟩
  · rcases e with e | e
    · exact H.ap k hk e
    · have := hz k hk; omega
  · rcases e with e | e
    · exact H.yl k e
    · omega
  · have : (dropL nm L).length ≤ L.length := List.length_filter_le _ _
    have := H.ln
    omega
set_option maxHeartbeats 4000000 in
set_option maxRecDepth 100000 in
theorem step_drop (H : StJ lo w Z Y cnt c b n room h m g L) (hn : n ≤ 60) (r : ByteArray) (pg : Int) (pt : Option Addr) (lt ct : Nat) :
    Calls Try.prog 11 #[ptr c, ptr b, .agg #[.int .i64 3, .string r, .int .i64 pg, .slice pt lt ct]] w (StepE lo w c b n room) := by
  have HB0 := Lib.hid (below_new w (.cells #[.int .i64 3, .string r, .int .i64 pg, .slice pt lt ct] 36))
  have HO0 := Lib.hid (opBox_mk w 3 r pg (.slice pt lt ct))
  have H0 := Lib.hid (H.keep HB0.out)
  have HbZ := Lib.hid (show ¬ Z w.heap.size from fun e => by have := H.ca.ltZ _ e; omega)
  have Hbb := Lib.hid (show w.heap.size ≠ b from fun e => by have := H.rf.kind.lt; omega)
  have HL := Lib.hid H.ll
  clear H
  go_enter Try.func11, Try.ntmps11
  go_wp2_with fail
  generalize w.alloc (.cells #[.int .i64 3, .string r, .int .i64 pg, .slice pt lt ct] 36) = W0 at *
  have HD := Lib.hid (show StJ lo W0.drew Z Y cnt c b n room h m g L from H0.out.keep ((Below.refl _ W0).drew))
  have q1 : W0.cell? ⟨w.heap.size, 1, none⟩ = some (.string r) := HO0.out.2.1
  have HB := Lib.hid (show Below lo w W0.drew from (HB0.out.mono HL.out).trans (Below.refl _ W0).drew)
  go_region_held3 (fun X => X.cell? ⟨w.heap.size, 1, none⟩ = some (.string r))
    (first | exact q1 | exact HQ2.out | exact HQ3.out)
    ((first
      | (go_at_call 19; refine (dropY HD.out.ca r).mono ?_; intro e w2 hp; have HP := Lib.hid hp; have HQ2 := Lib.hid (show w2.cell? ⟨w.heap.size, 1, none⟩ = some (.string r) from (hp.2.1.cell _ _ (lt_of_cell q1) HbZ.out).trans q1); have HR2 := Lib.hid (HD.out.rf.upd hp.2.1 (fun k o hk e => HD.out.ap k e hk)); obtain ⟨rfl, -⟩ := hp)
      | (go_at_call 28; refine (rdrop_any HR2.out r (by have := HD.out.ln; omega)).mono ?_; intro e w3 hr; have HF := Lib.hid (HD.out.drop HP.out hr); have HQ3 := Lib.hid (show w3.cell? ⟨w.heap.size, 1, none⟩ = some (.string r) from (hr.2.1.cell _ _ (lt_of_cell HQ2.out) Hbb.out).trans HQ2.out); obtain ⟨rfl, -⟩ := hr)))
  all_goals
    go_wp2_with fail
    go_ret
    exact ⟨rfl, HF.out.1, HB.out.trans HF.out.2⟩
set_option maxHeartbeats 4000000 in
set_option maxRecDepth 100000 in
theorem step_other (H : StJ lo w Z Y cnt c b n room h m g L) (kd : Int) (n1 : kd ≠ 1) (n2 : kd ≠ 2) (n3 : kd ≠ 3) (r : ByteArray) (pg : Int) (pt : Option Addr) (lt ct : Nat) :
    Calls Try.prog 11 #[ptr c, ptr b, .agg #[.int .i64 kd, .string r, .int .i64 pg, .slice pt lt ct]] w (StepE lo w c b n room) := by
  have HB0 := Lib.hid (below_new w (.cells #[.int .i64 kd, .string r, .int .i64 pg, .slice pt lt ct] 36))
  have H0 := Lib.hid (H.keep HB0.out)
  have HL := Lib.hid H.ll
  clear H
  go_enter Try.func11, Try.ntmps11
  go_wp2_with fail
  go_ret
  exact ⟨rfl, H0.out.up, HB0.out.mono HL.out⟩
theorem step_any (H : StJ lo w Z Y cnt c b n room h m g L) (hn : n ≤ 60) (kd : Int) (r : ByteArray) (pg : Int) (hk : KeyOk r pg) (pt : Option Addr) (lt ct : Nat) (E : List (List V3 × Int)) (hE : EntS (fun k => k < lo) w (.slice pt lt ct) E) :
    Calls Try.prog 11 #[ptr c, ptr b, .agg #[.int .i64 kd, .string r, .int .i64 pg, .slice pt lt ct]] w (StepE lo w c b n room) := by
  by_cases h1 : kd = 1
  · subst h1; exact step_get H hn r pg hk pt lt ct
  by_cases h2 : kd = 2
  · subst h2; exact step_put H hn r pg hk pt lt ct E hE
  by_cases h3 : kd = 3
  · subst h3; exact step_drop H hn r pg pt lt ct
  exact step_other H kd h1 h2 h3 r pg pt lt ct
end
end Go.Proofs.Ytdjebcfpodfhhaa
