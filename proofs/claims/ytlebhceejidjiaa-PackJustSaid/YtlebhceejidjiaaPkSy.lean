/-
  Contract of the document's symbol.
-/
import Derived.Test.YtlebhceejidjiaaPkFk
namespace Go.Proofs.Ytlebhceejidjiaa
open Go Go.RowKit

/-- What symbol answers. -/
def SymEnd (l : List UInt8) (w : World) (e : Ending) (w' : World) : Prop :=
  Below w.heap.size w w' ∧ ((∃ r s r', l = 2 :: r ∧ symR r [] = some (s, r') ∧ e = .returned (.tuple #[.string ⟨s.toArray⟩, .int .i64 ((l.length : Int) - (r'.length : Int)), .bool true])) ∨
    ((∀ r, l = 2 :: r → symR r [] = none) ∧ e = .returned (.tuple #[.string ⟨#[]⟩, .int .i64 0, .bool false])))
theorem symR_short {l : List UInt8} (acc : List UInt8) (h : l.length ≤ 1) : symR l acc = none := by
  match l, h with
  | [], _ => rfl
  | [_], _ => rfl
theorem drop_two {l : List UInt8} {k : Nat} (h : k + 1 < l.length) : l.drop k = l[k] :: l[k + 1] :: l.drop (k + 2) := by
  rw [List.drop_eq_getElem_cons (by omega), List.drop_eq_getElem_cons h]
theorem add_succ (a : Addr) (k : Nat) : a.add (k + 1) = { block := a.block, off := a.off + (k + 1) } := by unfold Addr.add; simp
theorem byte_is {c d : UInt8} {n : Int} (h : ((c.toNat : Int) == n) = true) (hd : (d.toNat : Int) = n) : c = d := by
  have h' : (c.toNat : Int) = n := by simpa using h
  exact UInt8.toNat_inj.1 (by omega)
theorem front_of {l r : List UInt8} {c : UInt8} (h : l = c :: r) (h0 : 0 < l.length) : l[0] = c := by subst h; rfl
theorem symR_two {l acc : List UInt8} {k : Nat} (h : k + 1 < l.length) : symR (l.drop k) acc = if l[k] = 0 then (if l[k + 1] = 1 then some (acc, l.drop (k + 2)) else if l[k + 1] = 255 then symR (l.drop (k + 2)) (acc ++ [0]) else none) else symR (l.drop (k + 1)) (acc ++ [l[k]]) := by
  rw [drop_two h, symR, ← List.drop_eq_getElem_cons h]
theorem symR_end {l acc : List UInt8} {k : Nat} (h : ¬ k + 1 < l.length) : symR (l.drop k) acc = none := symR_short acc (by rw [List.length_drop]; omega)
set_option maxHeartbeats 2000000 in
set_option maxRecDepth 100000 in
theorem symbol_any (v : Value) (l : List UInt8) (w : World) (h : ArgB w v l) (hl : l.length ≤ 3000) : Calls Try.prog 60 #[v] w (SymEnd l w) := by
  obtain ⟨hb, p, cap, rfl, h1, h2⟩ := h
  have h1' : (l.length : Int) ≤ (cap : Int) := by omega
  have hl' : (l.length : Int) ≤ 3000 := by omega
  have HB := Lib.hid hb
  clear hb
  obtain rfl | ⟨c, r, hcr⟩ : l = [] ∨ ∃ c r, l = c :: r := by cases l <;> simp
  · go_enter Try.func60, Try.ntmps60
    go_wp2_with fail
    go_ret3
    exact ⟨Below.refl _ _, .inr ⟨fun r hr => (by cases hr), rfl⟩⟩
  · have HCR := Lib.hid hcr
    have hpos : 0 < l.length := by rw [hcr]; simp
    rcases HB.out with ⟨-, e⟩ | ⟨a, c', e, hc⟩
    · rw [e] at hpos; cases hpos
    injection e with e1 e2 e3
    subst e1
    clear e2 e3
    have HC := Lib.hid hc
    have c0 := (hc 0 hpos).2
    rw [show a.add 0 = a from by unfold Addr.add; simp, front_of hcr hpos] at c0
    have hne0 : ((l.length : Int) == 0) = false := by rw [beq_eq_false_iff_ne]; omega
    have hpos' : (0 : Int) < (l.length : Int) := by omega
    clear hc hcr
    cases h2 : ((c.toNat : Int) == 2) with
    | false =>
      have hcz := Lib.hid (other_of h2 2 rfl)
      have hcn : ((c.toNat : Int) != 2) = true := by unfold bne; rw [h2]; rfl
      go_enter Try.func60, Try.ntmps60
      go_wp2_with fail
      go_ret3
      exact ⟨Below.refl _ _, .inr ⟨fun r' hr => (by rw [HCR.out] at hr; injection hr with hr; exact absurd hr hcz.out), rfl⟩⟩
    | true =>
      obtain rfl := zero_of h2 (by decide)
      clear h2
      have HL : Hid (l = 2 :: r) := Lib.hid HCR.out
      clear HCR
      go_enter Try.func60, Try.ntmps60
      go_wp2_with fail
      go_loopw [5, 6] (fun v i wr => ∃ k : Nat, i = .int .i64 k ∧ k ≤ l.length ∧ ∃ acc : List UInt8, Hid (symR r [] = symR (l.drop k) acc ∧ OwnB w.heap.size wr v acc ∧ Below w.heap.size w wr ∧ acc.length ≤ k)) (fun _ i _ => l.length - (intOf i).toNat)
      case atStart => exact ⟨1, rfl, hpos, [], Lib.hid ⟨by rw [HL.out]; rfl, OwnB.nil _ _, Below.refl _ _, by simp⟩⟩
      case round =>
        obtain ⟨k, rfl, hk, acc, HI⟩ := hrel
        obtain ⟨p5, cap5, rfl⟩ := HI.out.2.1.in_.shape
        have k0 : (0 : Int) ≤ (k : Int) := by omega
        have hkl : (k : Int) ≤ (l.length : Int) := by omega
        have w1 : wrap64 ((k : Int) + 1) = (k : Int) + 1 := by unfold wrap64; omega
        by_cases hlt : k + 1 < l.length
        · have hlt' : (k : Int) + 1 < (l.length : Int) := by omega
          have hlt0 : (k : Int) < (l.length : Int) := by omega
          have n1 : ((k : Int) + 1).toNat = k + 1 := by omega
          have w2 : wrap64 ((k : Int) + 2) = (k : Int) + 2 := by unfold wrap64; omega
          have q0 : wr.cell? (a.add k) = some (.int .u8 (l[k].toNat : Int)) := (HI.out.2.2.1.cell (p := a.add k) (by rw [add_block]; exact (HC.out k (by omega)).1)).trans (HC.out k (by omega)).2
          have q1 : wr.cell? (a.add (k + 1)) = some (.int .u8 (l[k + 1].toNat : Int)) := (HI.out.2.2.1.cell (p := a.add (k + 1)) (by rw [add_block]; exact (HC.out (k + 1) hlt).1)).trans (HC.out (k + 1) hlt).2
          rw [add_succ a k] at q1
          have HS := Lib.hid (HI.out.1.trans (symR_two hlt))
          have HRoom : Hid (acc.length + [(0 : UInt8)].length ≤ 100000000000000) := Lib.hid (by have := HI.out.2.2.2; simp; omega)
          cases hz : ((l[k].toNat : Int) == 0) with
          | false =>
            have hzn : ((l[k].toNat : Int) != 0) = true := by unfold bne; rw [hz]; rfl
            have HS' : Hid (symR r [] = symR (l.drop (k + 1)) (acc ++ [l[k]])) := Lib.hid (by rw [HS.out, if_neg (other_of hz 0 rfl)])
            go_wp2_with (at_builtin; refine wpList_app rfl (.tmp 29) (.tmp 34) rfl w.heap.size (wr.heap.size + 1) w _ _ acc [l[k]] rfl rfl (HI.out.2.1.alloc _) (BytIn.lit wr _ _ 1 rfl (bytesV_single rfl)) HRoom.out (HI.out.2.2.1.alloc HI.out.2.2.1.size _) (Nat.le_refl _) ?_; intro v3 w3 ho hb)
            go_roundw
            case rel => exact ⟨k + 1, by go_num, by omega, _, Lib.hid ⟨HS'.out, ho, hb, by have := HI.out.2.2.2; simp; omega⟩⟩
            case measure => simp [intOf]; omega
          | true =>
            have hzn : ((l[k].toNat : Int) != 0) = false := by unfold bne; rw [hz]; rfl
            have HZ := Lib.hid (byte_is (d := 0) hz rfl)
            cases ho1 : ((l[k + 1].toNat : Int) == 1) with
            | true =>
              have HS' : Hid (symR r [] = some (acc, l.drop (k + 2))) := Lib.hid (by rw [HS.out, if_pos HZ.out, if_pos (byte_is (d := 1) ho1 rfl)])
              have hcv := run_str wr _ _ _ HI.out.2.1.in_
              have HN : Hid ((k : Int) + 2 = (l.length : Int) - ((l.drop (k + 2)).length : Int)) := Lib.hid (by rw [List.length_drop]; omega)
              go_wp2_with fail
              go_ret3
              exact ⟨HI.out.2.2.1, .inl ⟨r, acc, _, HL.out, HS'.out, by rw [HN.out]; rfl⟩⟩
            | false =>
              cases ho2 : ((l[k + 1].toNat : Int) == 255) with
              | true =>
                have HS' : Hid (symR r [] = symR (l.drop (k + 2)) (acc ++ [0])) := Lib.hid (by rw [HS.out, if_pos HZ.out, if_neg (other_of ho1 1 rfl), if_pos (byte_is (d := 255) ho2 rfl)])
                go_wp2_with (at_builtin; refine wpList_app rfl (.tmp 54) (.tmp 55) rfl w.heap.size (wr.heap.size + 1) w _ _ acc [0] rfl rfl (HI.out.2.1.alloc _) (BytIn.lit wr _ _ 1 rfl (bytesV_single rfl)) HRoom.out (HI.out.2.2.1.alloc HI.out.2.2.1.size _) (Nat.le_refl _) ?_; intro v3 w3 ho hb)
                go_roundw
                case rel => exact ⟨k + 2, by go_num, by omega, _, Lib.hid ⟨HS'.out, ho, hb, by have := HI.out.2.2.2; simp; omega⟩⟩
                case measure => simp [intOf]; omega
              | false =>
                have HS' : Hid (symR r [] = none) := Lib.hid (by rw [HS.out, if_pos HZ.out, if_neg (other_of ho1 1 rfl), if_neg (other_of ho2 255 rfl)])
                go_wp2_with fail
                go_ret3
                exact ⟨HI.out.2.2.1, .inr ⟨fun r' hr => (by rw [HL.out] at hr; injection hr with _ hr; rw [← hr]; exact HS'.out), rfl⟩⟩
        · have hge : (l.length : Int) ≤ (k : Int) + 1 := by omega
          have HS' := Lib.hid (HI.out.1.trans (symR_end hlt))
          go_wp2_with fail
          go_ret3
          exact ⟨HI.out.2.2.1, .inr ⟨fun r' hr => (by rw [HL.out] at hr; injection hr with _ hr; rw [← hr]; exact HS'.out), rfl⟩⟩
end Go.Proofs.Ytlebhceejidjiaa
