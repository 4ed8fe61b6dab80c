/-
  The document's cache: Drop.
-/
import Derived.Test.YtdjebcfpodfhhaaChRk
namespace Go.Proofs.Ytdjebcfpodfhhaa
open Go Go.RowKit Go.Maps Go.WideMaps

section
variable {Y : Nat → Prop} {w : World} {b : Nat} {room h m g : Int} {L : List Pg}
def RDrop (Y : Nat → Prop) (w : World) (b : Nat) (room h m g : Int) (L : List Pg) (nm : ByteArray) (e : Ending) (w' : World) : Prop :=
  e = .returned (.int .i64 ((L.length - (dropL nm L).length : Nat))) ∧ RfE Y w b room h m g (dropL nm L) w'
def offN (nm : ByteArray) (q : Value × Pg) : Bool := !(q.2.1.toList == nm.toList)
theorem off_map {Q : List (Value × Pg)} {L : List Pg} (hQ : Q.map (·.2) = L) (nm : ByteArray) : (Q.filter (offN nm)).map (·.2) = dropL nm L := by
  rw [← hQ]
  unfold dropL
  rw [List.filter_map]
  rfl
set_option maxHeartbeats 4000000 in
set_option maxRecDepth 100000 in
theorem rdrop_any (H : RfA Y w b room h m g L) (nm : ByteArray) (hL : L.length ≤ 800) :
    Calls Try.prog 28 #[ptr b, .string nm] w (RDrop Y w b room h m g L nm) := by
  obtain ⟨p, cap, Q, hQ, -, hc1, hQe, hcs⟩ := H.open_
  have HH := Lib.hid H
  have HC1 := Lib.hid hc1
  have HCs := Lib.hid hcs
  have HQe := Lib.hid hQe
  have HFr := Lib.hid H.kind
  have hl : Q.length ≤ 800 := by rw [← hQ] at hL; simpa using hL
  have hl' : (Q.length : Int) ≤ 800 := by omega
  have HQ := Lib.hid hQ
  clear hc1 hcs hQ hL H hQe
  go_enter Try.func28, Try.ntmps28
  go_wp2_with fail
  go_loopw [5, 6] (fun lv i' wr => ∃ (k : Nat) (K : List (Value × Pg)), k ≤ Q.length ∧ i' = .int .i64 k ∧ Hid (K = (Q.take k).filter (offN nm)) ∧ Hid (wr.ownsRow w.heap.size 52 3 lv K.length (rowH K)) ∧ Hid (Below w.heap.size w wr)) (fun _ i' _ => Q.length - (intOf i').toNat)
  case atStart => exact ⟨0, [], Nat.zero_le _, rfl, Lib.hid rfl, Lib.hid (World.ownsRow_nil _ _ _ _), Lib.hid (Below.refl _ _)⟩
  case round =>
    obtain ⟨k, K, hk, rfl, hK, hR, hB⟩ := hrel
    have h0 : (0 : Int) ≤ (k : Int) := by omega
    have c1 := HC1.out wr hB.out
    have hKl : K.length ≤ Q.length := by
      rw [hK.out]
      refine Nat.le_trans (List.length_filter_le _ _) ?_
      rw [List.length_take]
      omega
    obtain ⟨pk, ck, hlv⟩ : ∃ p c, u5 = .slice p K.length c := by
      rcases hR.out.2 with ⟨e, hz⟩ | ⟨g, cap, cur, e, -⟩
      · exact ⟨none, 0, by rw [e, hz]⟩
      · exact ⟨_, cap, e⟩
    subst hlv
    by_cases hlt : k < Q.length
    · have hlt' : (k : Int) < (Q.length : Int) := by omega
      have HKl := Lib.hid hKl
      clear hKl
      obtain ⟨q, hq⟩ : ∃ q, Q[k]? = some q := ⟨_, List.getElem?_eq_getElem hlt⟩
      obtain ⟨bb, off, hp, hcq⟩ : ∃ bb off, p = some ⟨bb, off, none⟩ ∧ ∀ W, Below w.heap.size w W → CellsH W bb off Q := by
        rcases HCs.out with h | h
        · rw [h] at hlt; simp at hlt
        · exact h
      subst hp
      obtain ⟨d0, d1, d2⟩ := hcq wr hB.out k q hq
      have HT := Lib.hid (show Q.take (k + 1) = Q.take k ++ [q] from by
        rw [List.take_add_one, hq]
        rfl)
      obtain ⟨lp, ll, lc, hsl⟩ := (HQe.out q (List.mem_of_getElem? hq)).slice3
      obtain ⟨qv, rq, iq, Eq⟩ := q
      dsimp only at d0 d1 d2 hsl
      subst hsl
      clear hcq hq
      cases hb : offN nm (.slice lp ll lc, rq, iq, Eq) with
      | false =>
        have hb' : (rq.toList == nm.toList) = true := by simpa [offN] using hb
        have HN := Lib.hid hb
        clear hb
        go_wp2_with fail
        go_roundw
        case rel => exact ⟨k + 1, K, by omega, by go_num, Lib.hid (by rw [hK.out, HT.out, List.filter_append]; simp [HN.out]), hR, hB⟩
        case measure => simp [intOf]; omega
      | true =>
        have hb' : (rq.toList == nm.toList) = false := by simpa [offN] using hb
        have HN := Lib.hid hb
        have HO := Lib.hid (show (wr.alloc (.cells #[.string rq, .int .i64 iq, .slice lp ll lc] 52)).ownsRow w.heap.size 52 3 (.slice pk K.length ck) K.length (rowH K) from World.ownsRow.alloc hR.out _)
        have HC := Lib.hid (heldBox wr rq iq lp ll lc)
        have HSz := Lib.hid (show w.heap.size ≤ (wr.alloc (.cells #[.string rq, .int .i64 iq, .slice lp ll lc] 52)).heap.size from by
          have h1 := hB.out.size
          have h3 : (wr.alloc (.cells #[.string rq, .int .i64 iq, .slice lp ll lc] 52)).heap.size = wr.heap.size + 1 := by simp
          omega)
        clear hb
        go_wp2_with (first
          | (at_builtin; refine wpList_appH1 rfl _ _ rfl w.heap.size (.slice pk K.length ck) K (.slice lp ll lc, rq, iq, Eq) ⟨wr.heap.size, 0, none⟩ rfl rfl HO.out (by have := HKl.out; omega) HSz.out HC.out.1 HC.out.2.1 HC.out.2.2 ⟨_, _, _, rfl⟩ ?_; intro p' cap' w8 ho8 hg8
             have HO8 := Lib.hid ho8
             have HG8 := Lib.hid hg8
             clear ho8 hg8))
        go_roundw
        case rel => exact ⟨k + 1, K ++ [(.slice lp ll lc, rq, iq, Eq)], by omega, by go_num, Lib.hid (by rw [hK.out, HT.out, List.filter_append]; simp [HN.out]), HO8, Lib.hid ((hB.out.alloc hB.out.size _).grown HG8.out HSz.out (fun k hk => (World.ownsRow.lt HO.out k hk).1))⟩
        case measure => simp [intOf]; omega
    · obtain rfl : k = Q.length := by omega
      have hge : (Q.length : Int) ≤ (Q.length : Int) := by omega
      have f1 : wr.frozen? ⟨b, 1, none⟩ = false := ((Upd.of_below (C := fun _ _ => False) hB.out).kind _ _ _ HFr.out).free 1
      have hKi : (K.length : Int) ≤ (Q.length : Int) := by omega
      have hK0 : (0 : Int) ≤ (K.length : Int) := by omega
      have HE2 := Lib.hid (show RDrop Y w b room h m g L nm (.returned (.int .i64 ((Q.length : Int) - (K.length : Int)))) (wr.setCell ⟨b, 1, none⟩ (.slice pk K.length ck)) from by
        have hK' := hK.out
        rw [List.take_length] at hK'
        have e := off_map HQ.out nm
        rw [← hK'] at e
        have e1 : K.length = (dropL nm L).length := by rw [← e]; simp
        have e2 : Q.length = L.length := by rw [← HQ.out]; simp
        refine ⟨by rw [← e1, ← e2, Int.ofNat_sub hKl], ?_⟩
        rw [← e]
        refine HH.out.setL hB.out (HeB.own hR.out (fun x h1 h2 => ⟨.inr ⟨h1, h2⟩, fun e => by have := HFr.out.lt; omega⟩) ?_)
        intro q hq
        rw [hK'] at hq
        exact (HQe.out q (List.mem_filter.1 hq).1).same (fun x hx => ⟨.inl hx.1, hx.2⟩) (fun x o hx => hB.out.cell (p := ⟨x, o, none⟩) (HH.out.lt x hx.1)))
      clear hKl
      go_wp2_with fail
      go_ret
      exact HE2.out
end
end Go.Proofs.Ytdjebcfpodfhhaa
