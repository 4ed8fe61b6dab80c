/-
  Contracts of pack.FromKey and of the document's symbol; the laws' own short as an argument.
  Contract of the document's symbol.
  Plain facts on the reading of numbers. No program is named here.
-/
import Derived.Test.YtdjhfcopnhcljaaGreatDoorW15
import Derived.Test.YtdjhfcopnhcljaaGreatDoorW12
import Derived.Test.YtdjhfcopnhcljaaGreatDoorW01
import Derived.Laws.BitsAllLaws
namespace Go.Proofs.YtdjhfcopnhcljaaGreatDoor
section
open Go Go.RowKit

/-- What FromKey answers: a tuple of its own, or the error. -/
def FromEnd (o : Option (List V3)) (w : World) (e : Ending) (w' : World) : Prop :=
  Below w.heap.size w w' ∧ ((∃ T v, o = some T ∧ e = .returned (.tuple #[v, .int .i64 0]) ∧ OwnR w.heap.size w' v T) ∨ (o = none ∧ e = .returned (.tuple #[.slice none 0 0, .int .i64 30])))
set_option maxHeartbeats 1000000 in
set_option maxRecDepth 100000 in
theorem fromKey_any (v : Value) (l : List UInt8) (w : World) (h : ArgB w v l) : Calls Tryz.prog 175 #[v] w (FromEnd (keysP l.length l []) w) := by
  have HT := Lib.hid (taken_any v l ((keysP l.length l []).map fun T => (T, [])) w h.1 h.2 (fun W R hr hs => (rdKeys_any _ R l W hr).mono (by
    rintro e w' ⟨hk, ⟨x, r, v, ho, he, hv, hr'⟩ | hx⟩
    · exact ⟨hk, .inl ⟨x, r, v, ho, he, hv.mono hs, hr'⟩⟩
    · exact ⟨hk, .inr hx⟩)))
  clear h
  go_enter Tryz.func175, Tryz.ntmps175
  go_wp2_with fail
  refine HT.out.mono ?_
  rintro e w1 ⟨hb, ⟨T, r, vt, ho, rfl, hv⟩ | ⟨ho, rfl⟩⟩
  · have HO : Hid (keysP l.length l [] = some T) := Lib.hid (by
      cases e : keysP l.length l [] with
      | none => rw [e] at ho; cases ho
      | some U => rw [e] at ho; injection ho with ho; injection ho with ho; rw [ho])
    have HB := Lib.hid hb
    have HV := Lib.hid hv
    clear hb hv ho
    go_wp2_with fail
    go_ret2
    exact ⟨HB.out, .inl ⟨T, vt, HO.out, rfl, HV.out⟩⟩
  · have HO : Hid (keysP l.length l [] = none) := Lib.hid (by
      cases e : keysP l.length l [] with
      | none => rfl
      | some U => rw [e] at ho; cases ho)
    have HB := Lib.hid hb
    clear hb ho
    go_wp2_with fail
    go_ret2
    exact ⟨HB.out, .inr ⟨HO.out, rfl⟩⟩
end
section
open Go Go.RowKit

/-- What symbol answers. -/
def SymEnd (l : List UInt8) (w : World) (e : Ending) (w' : World) : Prop :=
  Below w.heap.size w w' ∧ ((∃ r s r', l = 2 :: r ∧ symR r [] = some (s, r') ∧ e = .returned (.tuple #[.string ⟨s.toArray⟩, .int .i64 ((l.length : Int) - (r'.length : Int)), .bool true])) ∨
    ((∀ r, l = 2 :: r → symR r [] = none) ∧ e = .returned (.tuple #[.string ⟨#[]⟩, .int .i64 0, .bool false])))
theorem symR_short {l : List UInt8} (acc : List UInt8) (h : l.length ≤ 1) : symR l acc = none := by
  match l, h with
  | [], _ => rfl
  | [_], _ => rfl
theorem drop_two {l : List UInt8} {k : Nat} (h : k + 1 < l.length) : l.drop k = l[k] :: l[k + 1] :: l.drop (k + 2) := by
  rw [List.drop_eq_getElem_cons (by omega), List.drop_eq_getElem_cons h]
theorem add_succ (a : Addr) (k : Nat) : a.add (k + 1) = { block := a.block, off := a.off + (k + 1) } := by unfold Addr.add; simp
theorem byte_is {c d : UInt8} {n : Int} (h : ((c.toNat : Int) == n) = true) (hd : (d.toNat : Int) = n) : c = d := by
  have h' : (c.toNat : Int) = n := by simpa using h
  exact UInt8.toNat_inj.1 (by omega)
theorem front_of {l r : List UInt8} {c : UInt8} (h : l = c :: r) (h0 : 0 < l.length) : l[0] = c := by subst h; rfl
theorem symR_two {l acc : List UInt8} {k : Nat} (h : k + 1 < l.length) : symR (l.drop k) acc = if l[k] = 0 then (if l[k + 1] = 1 then some (acc, l.drop (k + 2)) else if l[k + 1] = 255 then symR (l.drop (k + 2)) (acc ++ [0]) else none) else symR (l.drop (k + 1)) (acc ++ [l[k]]) := by
  rw [drop_two h, symR, ← List.drop_eq_getElem_cons h]
theorem symR_end {l acc : List UInt8} {k : Nat} (h : ¬ k + 1 < l.length) : symR (l.drop k) acc = none := symR_short acc (by rw [List.length_drop]; omega)
set_option maxHeartbeats 2000000 in
set_option maxRecDepth 100000 in
theorem symbol_any (v : Value) (l : List UInt8) (w : World) (h : ArgB w v l) (hl : l.length ≤ 3000) : Calls Tryz.prog 161 #[v] w (SymEnd l w) := by
  obtain ⟨hb, p, cap, rfl, h1, h2⟩ := h
  have h1' : (l.length : Int) ≤ (cap : Int) := by omega
  have hl' : (l.length : Int) ≤ 3000 := by omega
  have HB := Lib.hid hb
  clear hb
  obtain rfl | ⟨c, r, hcr⟩ : l = [] ∨ ∃ c r, l = c :: r := by cases l <;> simp
  · go_enter Tryz.func161, Tryz.ntmps161
    go_wp2_with fail
    go_ret3
    exact ⟨Below.refl _ _, .inr ⟨fun r hr => (by cases hr), rfl⟩⟩
  · have HCR := Lib.hid hcr
    have hpos : 0 < l.length := by rw [hcr]; simp
    rcases HB.out with ⟨-, e⟩ | ⟨a, c', e, hc⟩
    · rw [e] at hpos; cases hpos
    injection e with e1 e2 e3
    subst e1
    clear e2 e3
    have HC := Lib.hid hc
    have c0 := (hc 0 hpos).2
    rw [show a.add 0 = a from by unfold Addr.add; simp, front_of hcr hpos] at c0
    have hne0 : ((l.length : Int) == 0) = false := by rw [beq_eq_false_iff_ne]; omega
    have hpos' : (0 : Int) < (l.length : Int) := by omega
    clear hc hcr
    cases h2 : ((c.toNat : Int) == 2) with
    | false =>
      have hcz := Lib.hid (other_of h2 2 rfl)
      have hcn : ((c.toNat : Int) != 2) = true := by unfold bne; rw [h2]; rfl
      go_enter Tryz.func161, Tryz.ntmps161
      go_wp2_with fail
      go_ret3
      exact ⟨Below.refl _ _, .inr ⟨fun r' hr => (by rw [HCR.out] at hr; injection hr with hr; exact absurd hr hcz.out), rfl⟩⟩
    | true =>
      obtain rfl := zero_of h2 (by decide)
      clear h2
      have HL : Hid (l = 2 :: r) := Lib.hid HCR.out
      clear HCR
      go_enter Tryz.func161, Tryz.ntmps161
      go_wp2_with fail
      go_loopw [5, 6] (fun v i wr => ∃ k : Nat, i = .int .i64 k ∧ k ≤ l.length ∧ ∃ acc : List UInt8, Hid (symR r [] = symR (l.drop k) acc ∧ OwnB w.heap.size wr v acc ∧ Below w.heap.size w wr ∧ acc.length ≤ k)) (fun _ i _ => l.length - (intOf i).toNat)
      case atStart => exact ⟨1, rfl, hpos, [], Lib.hid ⟨by rw [HL.out]; rfl, OwnB.nil _ _, Below.refl _ _, by simp⟩⟩
      case round =>
        obtain ⟨k, rfl, hk, acc, HI⟩ := hrel
        obtain ⟨p5, cap5, rfl⟩ := HI.out.2.1.in_.shape
        have k0 : (0 : Int) ≤ (k : Int) := by omega
        have hkl : (k : Int) ≤ (l.length : Int) := by omega
        have w1 : wrap64 ((k : Int) + 1) = (k : Int) + 1 := by unfold wrap64; omega
        by_cases hlt : k + 1 < l.length
        · have hlt' : (k : Int) + 1 < (l.length : Int) := by omega
          have hlt0 : (k : Int) < (l.length : Int) := by omega
          have n1 : ((k : Int) + 1).toNat = k + 1 := by omega
          have w2 : wrap64 ((k : Int) + 2) = (k : Int) + 2 := by unfold wrap64; omega
          have q0 : wr.cell? (a.add k) = some (.int .u8 (l[k].toNat : Int)) := (HI.out.2.2.1.cell (p := a.add k) (by rw [add_block]; exact (HC.out k (by omega)).1)).trans (HC.out k (by omega)).2
          have q1 : wr.cell? (a.add (k + 1)) = some (.int .u8 (l[k + 1].toNat : Int)) := (HI.out.2.2.1.cell (p := a.add (k + 1)) (by rw [add_block]; exact (HC.out (k + 1) hlt).1)).trans (HC.out (k + 1) hlt).2
          rw [add_succ a k] at q1
          have HS := Lib.hid (HI.out.1.trans (symR_two hlt))
          have HRoom : Hid (acc.length + [(0 : UInt8)].length ≤ 100000000000000) := Lib.hid (by have := HI.out.2.2.2; simp; omega)
          cases hz : ((l[k].toNat : Int) == 0) with
          | false =>
            have hzn : ((l[k].toNat : Int) != 0) = true := by unfold bne; rw [hz]; rfl
            have HS' : Hid (symR r [] = symR (l.drop (k + 1)) (acc ++ [l[k]])) := Lib.hid (by rw [HS.out, if_neg (other_of hz 0 rfl)])
            go_wp2_with (at_builtin; refine wpList_app rfl (.tmp 29) (.tmp 34) rfl w.heap.size (wr.heap.size + 1) w _ _ acc [l[k]] rfl rfl (HI.out.2.1.alloc _) (BytIn.lit wr _ _ 1 rfl (bytesV_single rfl)) HRoom.out (HI.out.2.2.1.alloc HI.out.2.2.1.size _) (Nat.le_refl _) ?_; intro v3 w3 ho hb)
            go_roundw
            case rel => exact ⟨k + 1, by go_num, by omega, _, Lib.hid ⟨HS'.out, ho, hb, by have := HI.out.2.2.2; simp; omega⟩⟩
            case measure => simp [intOf]; omega
          | true =>
            have hzn : ((l[k].toNat : Int) != 0) = false := by unfold bne; rw [hz]; rfl
            have HZ := Lib.hid (byte_is (d := 0) hz rfl)
            cases ho1 : ((l[k + 1].toNat : Int) == 1) with
            | true =>
              have HS' : Hid (symR r [] = some (acc, l.drop (k + 2))) := Lib.hid (by rw [HS.out, if_pos HZ.out, if_pos (byte_is (d := 1) ho1 rfl)])
              have hcv := run_str wr _ _ _ HI.out.2.1.in_
              have HN : Hid ((k : Int) + 2 = (l.length : Int) - ((l.drop (k + 2)).length : Int)) := Lib.hid (by rw [List.length_drop]; omega)
              go_wp2_with fail
              go_ret3
              exact ⟨HI.out.2.2.1, .inl ⟨r, acc, _, HL.out, HS'.out, by rw [HN.out]; rfl⟩⟩
            | false =>
              cases ho2 : ((l[k + 1].toNat : Int) == 255) with
              | true =>
                have HS' : Hid (symR r [] = symR (l.drop (k + 2)) (acc ++ [0])) := Lib.hid (by rw [HS.out, if_pos HZ.out, if_neg (other_of ho1 1 rfl), if_pos (byte_is (d := 255) ho2 rfl)])
                go_wp2_with (at_builtin; refine wpList_app rfl (.tmp 54) (.tmp 55) rfl w.heap.size (wr.heap.size + 1) w _ _ acc [0] rfl rfl (HI.out.2.1.alloc _) (BytIn.lit wr _ _ 1 rfl (bytesV_single rfl)) HRoom.out (HI.out.2.2.1.alloc HI.out.2.2.1.size _) (Nat.le_refl _) ?_; intro v3 w3 ho hb)
                go_roundw
                case rel => exact ⟨k + 2, by go_num, by omega, _, Lib.hid ⟨HS'.out, ho, hb, by have := HI.out.2.2.2; simp; omega⟩⟩
                case measure => simp [intOf]; omega
              | false =>
                have HS' : Hid (symR r [] = none) := Lib.hid (by rw [HS.out, if_pos HZ.out, if_neg (other_of ho1 1 rfl), if_neg (other_of ho2 255 rfl)])
                go_wp2_with fail
                go_ret3
                exact ⟨HI.out.2.2.1, .inr ⟨fun r' hr => (by rw [HL.out] at hr; injection hr with _ hr; rw [← hr]; exact HS'.out), rfl⟩⟩
        · have hge : (l.length : Int) ≤ (k : Int) + 1 := by omega
          have HS' := Lib.hid (HI.out.1.trans (symR_end hlt))
          go_wp2_with fail
          go_ret3
          exact ⟨HI.out.2.2.1, .inr ⟨fun r' hr => (by rw [HL.out] at hr; injection hr with _ hr; rw [← hr]; exact HS'.out), rfl⟩⟩
end
section
open Go

/-- A number, read group by group: the j-th group, what the groups before it make. -/
def numP : List UInt8 → Nat → Nat → Option (Nat × List UInt8)
  | [], _, _ => none
  | c :: r, j, x =>
    if j = 10 then none
    else if 18446744073709551616 ≤ c.toNat % 128 * 2 ^ (7 * j) ∨ (c = 0 ∧ 0 < j) then none
    else if c.toNat < 128 then some (x + c.toNat % 128 * 2 ^ (7 * j), r)
    else numP r (j + 1) (x + c.toNat % 128 * 2 ^ (7 * j))
theorem group_fits {x g j : Nat} (hj : j < 10) (hx : x < 2 ^ (7 * j)) (hg : g * 2 ^ (7 * j) < 18446744073709551616) : x + g * 2 ^ (7 * j) < 18446744073709551616 := by
  have e : (18446744073709551616 : Nat) = 2 ^ (64 - 7 * j) * 2 ^ (7 * j) := by
    rw [← Nat.pow_add, show 64 - 7 * j + 7 * j = 64 by omega]
  have h1 : g < 2 ^ (64 - 7 * j) := by
    apply Nat.lt_of_mul_lt_mul_right (a := 2 ^ (7 * j))
    rw [← e]; exact hg
  have h2 : (g + 1) * 2 ^ (7 * j) ≤ 2 ^ (64 - 7 * j) * 2 ^ (7 * j) := Nat.mul_le_mul_right _ h1
  rw [← e, Nat.add_mul, Nat.one_mul] at h2
  omega
theorem group_next {x g j : Nat} (hx : x < 2 ^ (7 * j)) (hg : g < 128) : x + g * 2 ^ (7 * j) < 2 ^ (7 * (j + 1)) := by
  rw [show 7 * (j + 1) = 7 + 7 * j by omega, Nat.pow_add, show (2 : Nat) ^ 7 = 128 from rfl]
  have h2 : (g + 1) * 2 ^ (7 * j) ≤ 128 * 2 ^ (7 * j) := Nat.mul_le_mul_right _ hg
  rw [Nat.add_mul, Nat.one_mul] at h2
  omega
theorem numP_is : ∀ (l : List UInt8) (j x y : Nat) (r : List UInt8), x < 2 ^ (7 * j) → numP l j x = some (y, r) → ∃ z, l = numL z ++ r ∧ y = x + z * 2 ^ (7 * j) ∧ (0 < j → 0 < z) ∧ y < 18446744073709551616
  | [], _, _, _, _ => fun _ h => by cases h
  | c :: l, j, x, y, r => fun hx h => by
    rw [numP] at h
    by_cases hj : j = 10
    · rw [if_pos hj] at h; cases h
    rw [if_neg hj] at h
    by_cases hb : 18446744073709551616 ≤ c.toNat % 128 * 2 ^ (7 * j) ∨ (c = 0 ∧ 0 < j)
    · rw [if_pos hb] at h; cases h
    rw [if_neg hb] at h
    by_cases h7 : c.toNat < 128
    · rw [if_pos h7] at h
      injection h with h
      injection h with h1 h2
      subst h2
      have hm : c.toNat % 128 = c.toNat := Nat.mod_eq_of_lt h7
      rw [hm] at h1 hb
      refine ⟨c.toNat, ?_, h1.symm, ?_, ?_⟩
      · rw [numL_lt h7, UInt8.ofNat_toNat]; rfl
      · intro hj0
        apply Nat.pos_of_ne_zero
        intro h0
        exact hb (.inr ⟨UInt8.toNat_inj.1 (by simpa using h0), hj0⟩)
      · by_cases hj' : j < 10
        · rw [← h1]; exact group_fits hj' hx (by omega)
        · have hg : c.toNat * 2 ^ (7 * j) < 18446744073709551616 := by omega
          have hp : 2 ^ 70 ≤ 2 ^ (7 * j) := Nat.pow_le_pow_right (by decide) (by omega)
          have hp' : (2 : Nat) ^ 70 = 1180591620717411303424 := by decide
          have h0 : c.toNat = 0 := by
            rcases Nat.eq_zero_or_pos c.toNat with h0 | h0
            · exact h0
            · have := Nat.mul_le_mul_right (2 ^ (7 * j)) h0
              omega
          exact absurd (.inr ⟨UInt8.toNat_inj.1 (by simpa using h0), by omega⟩) hb
    · rw [if_neg h7] at h
      have hg : c.toNat % 128 < 128 := Nat.mod_lt _ (by decide)
      obtain ⟨z, hl, hy, hz, hY⟩ := numP_is l (j + 1) _ y r (group_next hx hg) h
      have hz0 := hz (by omega)
      have hc := c.toNat_lt
      refine ⟨c.toNat % 128 + 128 * z, ?_, ?_, fun _ => by omega, hY⟩
      · rw [numL_ge (by omega), show (c.toNat % 128 + 128 * z) % 128 + 128 = c.toNat by omega, show (c.toNat % 128 + 128 * z) / 128 = z by omega, UInt8.ofNat_toNat, hl]; rfl
      · rw [hy, show 7 * (j + 1) = 7 + 7 * j by omega, Nat.pow_add, show (2 : Nat) ^ 7 = 128 from rfl, Nat.add_mul, Nat.add_assoc]
        congr 2
        rw [← Nat.mul_assoc, Nat.mul_comm z 128]
theorem numP_all {l : List UInt8} {y : Nat} {r : List UInt8} (h : numP l 0 0 = some (y, r)) : l = numL y ++ r ∧ y < 18446744073709551616 := by
  obtain ⟨z, h1, h2, -, h3⟩ := numP_is l 0 0 y r (by decide) h
  obtain rfl : y = z := by simpa using h2
  exact ⟨h1, h3⟩
theorem or_group {x g j : Nat} (hj : j < 10) (hx : x < 2 ^ (7 * j)) (hg : g * 2 ^ (7 * j) < 18446744073709551616) : bits .or .u64 (x : Int) ((g * 2 ^ (7 * j) : Nat) : Int) = ((x + g * 2 ^ (7 * j) : Nat) : Int) := by
  have hf := group_fits hj hx hg
  rw [u64_or_nat _ _ (by omega) hg, Nat.or_comm]
  have h := Nat.two_pow_add_eq_or_of_lt (i := 7 * j) (b := x) hx g
  rw [Nat.mul_comm] at h
  rw [← h, Nat.add_comm]
end
end Go.Proofs.YtdjhfcopnhcljaaGreatDoor
