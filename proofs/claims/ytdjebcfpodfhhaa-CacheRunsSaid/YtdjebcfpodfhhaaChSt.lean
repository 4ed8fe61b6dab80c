/-
  Both caches beside each other: step at Get.
-/
import Derived.Test.YtdjebcfpodfhhaaChRd
namespace Go.Proofs.Ytdjebcfpodfhhaa
open Go Go.RowKit Go.Maps Go.WideMaps

/-- The cache and the document's. -/
structure StJ (lo : Nat) (w : World) (Z Y : Nat → Prop) (cnt c b n : Nat) (room h m g : Int) (L : List Pg) : Prop where
  ca : CaY Z cnt w c room h m g L
  rf : RfA Y w b room h m g L
  ap : ∀ k, Z k → ¬ Y k
  zl : ∀ k, Z k → lo ≤ k
  yl : ∀ k, Y k → lo ≤ k
  ll : lo ≤ w.heap.size
  cn : cnt ≤ n
  hn : 0 ≤ h ∧ h ≤ n
  mn : 0 ≤ m ∧ m ≤ n
  gn : 0 ≤ g ∧ g ≤ n
  ln : L.length ≤ n
def StS (lo : Nat) (w : World) (c b n : Nat) (room : Int) : Prop := ∃ Z Y cnt h m g L, StJ lo w Z Y cnt c b n room h m g L
section
variable {lo : Nat} {w : World} {Z Y : Nat → Prop} {cnt c b n : Nat} {room h m g : Int} {L : List Pg}
theorem StJ.upd {W : World} (H : StJ lo w Z Y cnt c b n room h m g L) {C : Nat → Nat → Prop} (hu : Upd C w W) (h1 : ∀ k o, Z k → ¬ C k o) (h2 : ∀ k o, Y k → ¬ C k o) : StJ lo W Z Y cnt c b n room h m g L :=
  ⟨H.ca.upd hu h1, H.rf.upd hu h2, H.ap, H.zl, H.yl, Nat.le_trans H.ll hu.size, H.cn, H.hn, H.mn, H.gn, H.ln⟩
theorem StJ.keep {W : World} (H : StJ lo w Z Y cnt c b n room h m g L) (hb : Below w.heap.size w W) : StJ lo W Z Y cnt c b n room h m g L := H.upd (Upd.of_below (C := fun _ _ => False) hb) (fun _ _ _ e => e) (fun _ _ _ e => e)
theorem StJ.zb (H : StJ lo w Z Y cnt c b n room h m g L) : ¬ Z b := fun e => H.ap b e H.rf.inb
theorem StJ.up (H : StJ lo w Z Y cnt c b n room h m g L) : StS lo w c b (n + 1) room :=
  ⟨Z, Y, cnt, h, m, g, L, H.ca, H.rf, H.ap, H.zl, H.yl, H.ll, Nat.le_succ_of_le H.cn, ⟨H.hn.1, by have := H.hn.2; omega⟩, ⟨H.mn.1, by have := H.mn.2; omega⟩, ⟨H.gn.1, by have := H.gn.2; omega⟩, Nat.le_succ_of_le H.ln⟩
theorem rest_len (r : ByteArray) (i : Int) (L : List Pg) : (restL r i L).length ≤ L.length := List.length_filter_le _ _
theorem rest_hit {r : ByteArray} {i : Int} {L : List Pg} {x : Pg} (h : findL r i L = some x) : (x :: restL r i L).length ≤ L.length := by
  obtain ⟨L1, L2, rfl, e1, e2⟩ := findL_some h
  unfold restL
  rw [List.filter_append, List.filter_cons_of_neg (by rw [eqK_iff.2 ⟨e1, e2⟩]; decide)]
  have a1 := List.length_filter_le (fun x : Pg => !eqK x.1 x.2.1 r i) L1
  have a2 := List.length_filter_le (fun x : Pg => !eqK x.1 x.2.1 r i) L2
  simp only [List.length_cons, List.length_append]
  omega
/-- Both look up. -/
theorem StJ.get {w2 w3 : World} {r : ByteArray} {i : Int} {e e' : Ending} (H : StJ lo w Z Y cnt c b n room h m g L) (hg : GetY Z cnt w c room h m g L r i e w2) (hr : RGet Y w2 b room h m g L r i e' w3) :
    StS lo w3 c b (n + 1) room ∧ Below lo w w3 ∧ (∀ W C, Upd C w3 W → (∀ k o, C k o → w.heap.size ≤ k ∧ k < w2.heap.size) → StS lo W c b (n + 1) room ∧ Below lo w W) ∧
      ((e = .returned (.tuple #[.slice none 0 0, .bool false]) ∧ e' = .returned (.tuple #[.slice none 0 0, .bool false])) ∨ ∃ E v v', e = .returned (.tuple #[v, .bool true]) ∧ e' = .returned (.tuple #[v', .bool true]) ∧ EntS (fun k => k < w3.heap.size) w3 v E ∧ EntS (fun k => k < w3.heap.size) w3 v' E ∧
        ((∃ cp, v = .slice none 0 cp) ∨ ∃ gb len cap mm, v = .slice (some ⟨gb, 0, none⟩) len cap ∧ len ≤ 100 ∧ w.heap.size ≤ gb ∧ gb < w2.heap.size ∧ Bk w3 gb 76 mm ∧ len * 2 ≤ mm)) := by
  obtain ⟨hu2, hg⟩ := hg
  obtain ⟨Y', hY', hu3, hr⟩ := hr
  have hz := H.ca.ltZ
  have hy := H.rf.lt
  have s2 := hu2.size
  have s3 := hu3.size
  have zb := H.zb
  have hbl := H.yl b H.rf.inb
  have hap' : ∀ k, Z k → ¬ Y' k := fun k hk e => by
    rcases hY' k e with e | e
    · exact H.ap k hk e
    · have := hz k hk; omega
  have hyl' : ∀ k, Y' k → lo ≤ k := fun k e => by
    rcases hY' k e with e | e
    · exact H.yl k e
    · have := H.ll; omega
  have b2 : Below lo w w2 := hu2.below H.ll (fun k _ e => H.zl k e)
  have b3 : Below lo w w3 := b2.trans (hu3.below (Nat.le_trans H.ll s2) (fun k _ e => by rw [e]; exact hbl))
  have fin : ∀ {h' m' : Int} {L' : List Pg}, CaY Z cnt w2 c room h' m' g L' → RfA Y' w3 b room h' m' g L' → (0 ≤ h' ∧ h' ≤ (n + 1 : Nat)) → (0 ≤ m' ∧ m' ≤ (n + 1 : Nat)) → L'.length ≤ n → StJ lo w3 Z Y' cnt c b (n + 1) room h' m' g L' := fun k1 k2 k3 k4 k5 =>
    ⟨k1.upd hu3 (fun k o hk e => zb (e ▸ hk)), k2, hap', H.zl, hyl', Nat.le_trans H.ll (Nat.le_trans s2 s3), Nat.le_succ_of_le H.cn, k3, k4, ⟨H.gn.1, by have := H.gn.2; omega⟩, Nat.le_succ_of_le k5⟩
  have fin2 : ∀ {h' m' : Int} {L' : List Pg}, StJ lo w3 Z Y' cnt c b (n + 1) room h' m' g L' → ∀ W C, Upd C w3 W → (∀ k o, C k o → w.heap.size ≤ k ∧ k < w2.heap.size) → StS lo W c b (n + 1) room ∧ Below lo w W := fun K W C hu hC =>
    ⟨⟨_, _, _, _, _, _, _, K.upd hu (fun k o hk e => by have := hC k o e; have := hz k hk; omega) (fun k o hk e => by
      have := hC k o e
      rcases hY' k hk with hk | hk
      · have := hy k hk; omega
      · omega)⟩, b3.trans (hu.below (Nat.le_trans H.ll (Nat.le_trans s2 s3)) (fun k o e => Nat.le_trans H.ll (hC k o e).1))⟩
  have hn1 := H.hn
  have mn1 := H.mn
  rcases hg with ⟨hno, rfl, hca⟩ | ⟨x, v, hx, rfl, hca, hE, Q, hQ, hrow⟩
  · rcases hr with ⟨-, rfl, hrf⟩ | ⟨x, _, hx, -⟩
    · have K := fin hca hrf ⟨hn1.1, by omega⟩ ⟨by omega, by omega⟩ H.ln
      exact ⟨⟨_, _, _, _, _, _, _, K⟩, b3, fin2 K, .inl ⟨rfl, rfl⟩⟩
    · rw [hno] at hx; cases hx
  · rcases hr with ⟨hno, -⟩ | ⟨x', v', hx', rfl, hrf, hE'⟩
    · rw [hno] at hx; cases hx
    · rw [hx] at hx'
      obtain rfl := Option.some.inj hx'
      have K := fin hca hrf ⟨by omega, by omega⟩ ⟨mn1.1, by omega⟩ (Nat.le_trans (rest_hit hx) H.ln)
      have hEi := hE.inside
      refine ⟨⟨_, _, _, _, _, _, _, K⟩, b3, fin2 K, .inr ⟨x.2.2, v, v', rfl, rfl, hEi.same (fun k hk => Nat.lt_of_lt_of_le hk.2 s3) (fun k o hk => hu3.cell k o hk.2 (fun e => by have := hy b H.rf.inb; have := hk.1; omega)), hE'.inside.mono fun k hk => hk.2, ?_⟩⟩
      rcases hrow.form with ⟨-, rfl⟩ | ⟨gb, cap, mm, rfl, hg1, hg2, hg3, -⟩
      · exact .inl ⟨0, rfl⟩
      · obtain ⟨p', cap', Q', -, e, hl, -⟩ := hE
        injection e with _ e _
        exact .inr ⟨gb, Q.length, cap, mm, rfl, by omega, hg1, hg2.lt, hu3.kind _ _ _ hg2, hg3⟩
end
end Go.Proofs.Ytdjebcfpodfhhaa
