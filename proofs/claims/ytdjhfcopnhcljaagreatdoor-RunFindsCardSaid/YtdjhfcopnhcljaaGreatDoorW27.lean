/-
  Contract of run.Bytes.
  Contracts of crc.Open, crc.decoded, and the document's get and Open.
  Contracts of crc.Open and of the document's Open.
-/
import Derived.Test.YtdjhfcopnhcljaaGreatDoorW25
import Derived.Test.YtdjhfcopnhcljaaGreatDoorW04
namespace Go.Proofs.YtdjhfcopnhcljaaGreatDoor
section
open Go Go.RowKit

/-- The numbers of these entries are of their kinds. -/
def Kin (E : List Ct) : Prop := ∀ c ∈ E, AllI c.1 ∧ -9223372036854775808 ≤ c.2 ∧ c.2 ≤ 9223372036854775807
theorem Kin.ok {E : List Ct} (h : Kin E) (hr : IsRun E) : ∀ c ∈ E, OkC c := fun c hc => by
  obtain ⟨j, hj, rfl⟩ := List.getElem_of_mem hc
  exact ⟨(hr.1 j hj hj).1, (h _ hc).1, (h _ hc).2.1, (h _ hc).2.2⟩
/-- What Bytes answers. -/
def BytesEnd (E : List Ct) (w : World) (e : Ending) (w' : World) : Prop :=
  ((IsRun E ∧ ∃ v, e = .returned (.tuple #[v, .int .i64 0]) ∧ OwnB w.heap.size w' v (runL E)) ∨ (¬ IsRun E ∧ e = .returned (.tuple #[.slice none 0 0, .int .i64 70]))) ∧ Below w.heap.size w w'
set_option maxRecDepth 100000 in
set_option maxHeartbeats 2000000 in
theorem runBytes_any (v : Value) (E : List Ct) (w : World) (h : EnIn w.heap.size w v E) (hE : E.length ≤ 1000) (hK : Kin E) (G : Glob w) :
    Calls Tryz.prog 10 #[v] w (BytesEnd E w) := by
  have HV := Lib.hid h
  have HK := Lib.hid hK
  have HG := Lib.hid G
  have HC := Lib.hid (check_any v E w h (by omega))
  obtain ⟨p0, c0, rfl, -⟩ := h
  clear hK G
  go_enter Tryz.func10, Tryz.ntmps10
  go_wp2_with fail
  refine HC.out.mono ?_
  rintro e w1 ⟨⟨hr, rfl⟩ | ⟨hr, rfl⟩, hb1⟩
  · have HB1 := Lib.hid hb1
    have HR := Lib.hid hr
    clear hb1 hr HC
    go_wp2_with fail
    refine (encoded_any _ E _ ((HV.out.below HB1.out).mono HB1.out.size) hE (HK.out.ok HR.out) (HG.out.below HB1.out)).mono ?_
    rintro e w2 ⟨v2, rfl, ho2, hb2⟩
    have HO := Lib.hid (ho2.mono HB1.out.size)
    have HB2 := Lib.hid (HB1.out.trans (hb2.mono HB1.out.size))
    clear ho2 hb2
    go_wp2_with fail
    go_ret2
    exact ⟨.inl ⟨HR.out, _, rfl, HO.out⟩, HB2.out⟩
  · have HB1 := Lib.hid hb1
    have HR := Lib.hid hr
    clear hb1 hr HC
    go_wp2_with fail
    go_ret2
    exact ⟨.inr ⟨HR.out, rfl⟩, HB1.out⟩
end
section
open Go Go.RowKit

/-- The number of four bytes. -/
def decN (l : List UInt8) : Nat := (l.getD 0 0).toNat + 256 * (l.getD 1 0).toNat + 65536 * (l.getD 2 0).toNat + 16777216 * (l.getD 3 0).toNat
/-- A slice value reads as some bytes, of which four are named. -/
theorem four_cells {n₀ : Nat} {w : World} {p : Option Addr} {n c : Nat} {l : List UInt8} (h : BytIn n₀ w (.slice p n c) l) (h4 : 4 ≤ l.length) :
    n = l.length ∧ ∃ a, p = some a ∧ ∃ c0 c1 c2 c3 : UInt8, (l.getD 0 0 = c0 ∧ l.getD 1 0 = c1 ∧ l.getD 2 0 = c2 ∧ l.getD 3 0 = c3) ∧ w.cell? a = some (.int .u8 (c0.toNat : Int)) ∧ w.cell? ⟨a.block, a.off + 1, none⟩ = some (.int .u8 (c1.toNat : Int)) ∧ w.cell? ⟨a.block, a.off + 2, none⟩ = some (.int .u8 (c2.toNat : Int)) ∧ w.cell? ⟨a.block, a.off + 3, none⟩ = some (.int .u8 (c3.toNat : Int)) := by
  rcases h with ⟨e, rfl⟩ | ⟨a, cap, e, h⟩
  · simp at h4
  · injection e with e1 e2
    refine ⟨e2, a, e1, _, _, _, _, ⟨rfl, rfl, rfl, rfl⟩, ?_, ?_, ?_, ?_⟩
    all_goals
      rw [List.getD_eq_getElem?_getD, List.getElem?_eq_getElem (by omega), Option.getD_some]
    · have := (h 0 (by omega)).2
      have e0 : a.add 0 = a := by unfold Addr.add; simp
      rwa [e0] at this
    · have := (h 1 (by omega)).2
      have e0 : a.add 1 = ⟨a.block, a.off + 1, none⟩ := by unfold Addr.add; simp
      rwa [e0] at this
    · have := (h 2 (by omega)).2
      have e0 : a.add 2 = ⟨a.block, a.off + 2, none⟩ := by unfold Addr.add; simp
      rwa [e0] at this
    · have := (h 3 (by omega)).2
      have e0 : a.add 3 = ⟨a.block, a.off + 3, none⟩ := by unfold Addr.add; simp
      rwa [e0] at this
theorem cor_byte (A x k : Nat) (hA : A < 2 ^ k) (hx : x * 2 ^ k < 4294967296) (hA2 : A < 4294967296) : bits .or .u32 (A : Int) ((x * 2 ^ k : Nat) : Int) = ((A + x * 2 ^ k : Nat) : Int) := by
  rw [u32_or_nat _ _ hA2 hx, Nat.or_comm, nat_join k _ _ (Nat.mul_mod_left _ _) hA, Nat.add_comm]
theorem or_four (c0 c1 c2 c3 : UInt8) : bits .or .u32 (bits .or .u32 (bits .or .u32 ((c0.toNat : Int) % 4294967296) ((c1.toNat : Int) % 4294967296 * 256 % 4294967296)) ((c2.toNat : Int) % 4294967296 * 65536 % 4294967296)) ((c3.toNat : Int) % 4294967296 * 16777216 % 4294967296) =
    ((c0.toNat + 256 * c1.toNat + 65536 * c2.toNat + 16777216 * c3.toNat : Nat) : Int) := by
  have b0 := c0.toNat_lt
  have b1 := c1.toNat_lt
  have b2 := c2.toNat_lt
  have b3 := c3.toNat_lt
  generalize c0.toNat = x0 at *
  generalize c1.toNat = x1 at *
  generalize c2.toNat = x2 at *
  generalize c3.toNat = x3 at *
  rw [show (x0 : Int) % 4294967296 = (x0 : Nat) by omega, show (x1 : Int) % 4294967296 * 256 % 4294967296 = ((x1 * 2 ^ 8 : Nat) : Int) by omega,
    show (x2 : Int) % 4294967296 * 65536 % 4294967296 = ((x2 * 2 ^ 16 : Nat) : Int) by omega, show (x3 : Int) % 4294967296 * 16777216 % 4294967296 = ((x3 * 2 ^ 24 : Nat) : Int) by omega,
    cor_byte x0 x1 8 (by omega) (by omega) (by omega), cor_byte _ x2 16 (by omega) (by omega) (by omega), cor_byte _ x3 24 (by omega) (by omega) (by omega)]
  omega
theorem or_zero (c : UInt8) : bits .or .u32 0 ((c.toNat : Int) % 4294967296) = (c.toNat : Int) % 4294967296 := by
  have b0 := c.toNat_lt
  rw [show (c.toNat : Int) % 4294967296 = (c.toNat : Nat) by omega, show (0 : Int) = ((0 : Nat) : Int) from rfl, u32_or_nat _ _ (by decide) (by omega), Nat.zero_or]
theorem or_dec {l : List UInt8} {c0 c1 c2 c3 : UInt8} (h : l.getD 0 0 = c0 ∧ l.getD 1 0 = c1 ∧ l.getD 2 0 = c2 ∧ l.getD 3 0 = c3) :
    bits .or .u32 (bits .or .u32 (bits .or .u32 ((c0.toNat : Int) % 4294967296) ((c1.toNat : Int) % 4294967296 * 256 % 4294967296)) ((c2.toNat : Int) % 4294967296 * 65536 % 4294967296)) ((c3.toNat : Int) % 4294967296 * 16777216 % 4294967296) = (decN l : Nat) := by
  obtain ⟨rfl, rfl, rfl, rfl⟩ := h
  exact or_four _ _ _ _
theorem decN_lt (l : List UInt8) : decN l < 4294967296 := by
  unfold decN
  have b0 := (l.getD 0 0).toNat_lt
  have b1 := (l.getD 1 0).toNat_lt
  have b2 := (l.getD 2 0).toNat_lt
  have b3 := (l.getD 3 0).toNat_lt
  omega
theorem decN_enc (x : Reg) : decN (encL x) = x.toNat := by
  have := x.isLt
  unfold decN encL encB
  simp only [List.getD_cons_zero, List.getD_cons_succ, UInt8.toNat_ofNat']
  omega
theorem enc_decN {l : List UInt8} (h : l.length = 4) : encL (BitVec.ofNat 32 (decN l)) = l := by
  match l, h with
  | [a, b, c, d], _ =>
    have b0 := a.toNat_lt
    have b1 := b.toNat_lt
    have b2 := c.toNat_lt
    have b3 := d.toNat_lt
    unfold decN encL encB
    simp only [List.getD_cons_zero, List.getD_cons_succ, BitVec.toNat_ofNat]
    have e (x : UInt8) (n : Nat) (h : n % 256 = x.toNat) : UInt8.ofNat n = x := UInt8.toNat_inj.1 (by rw [UInt8.toNat_ofNat']; exact h)
    rw [e a _ (by omega), e b _ (by omega), e c _ (by omega), e d _ (by omega)]
theorem decN_iff {l : List UInt8} (h : l.length = 4) (x : Reg) : decN l = x.toNat ↔ l = encL x := by
  constructor
  · intro e
    rw [← enc_decN h, e, BitVec.ofNat_toNat, BitVec.setWidth_eq]
  · intro e
    rw [e, decN_enc]
set_option maxHeartbeats 1000000 in
set_option maxRecDepth 100000 in
theorem get_any (v : Value) (l : List UInt8) (w : World) (h : BytIn w.heap.size w v l) (h4 : 4 ≤ l.length) (hl : l.length ≤ 9223372036854775807) :
    Calls Tryz.prog 133 #[v] w fun e w' => e = .returned (.int .u32 (decN l : Nat)) ∧ ∃ n, w' = w.drewN n := by
  obtain ⟨p, c, rfl⟩ := h.shape
  obtain ⟨-, a, rfl, c0, c1, c2, c3, hc, k0, k1, k2, k3⟩ := four_cells h h4
  have HC := Lib.hid hc
  have g0 : (0 : Int) < (l.length : Int) := by omega
  have n0 : 0 < l.length := by omega
  have n1 : 1 < l.length := by omega
  have n2 : 2 < l.length := by omega
  have n3 : 3 < l.length := by omega
  have g1 : (1 : Int) < (l.length : Int) := by omega
  have g2 : (2 : Int) < (l.length : Int) := by omega
  have g3 : (3 : Int) < (l.length : Int) := by omega
  have g5 : (l.length : Int) ≤ 9223372036854775807 := by omega
  clear hc h h4 hl
  go_enter Tryz.func133, Tryz.ntmps133
  go_wp2_with fail
  go_quiet (fail)
  go_wp2_with fail
  go_ret
  exact ⟨ret_int (or_dec HC.out), _, rfl⟩
end
section
open Go Go.RowKit

/-- Do the last four bytes tell the sum of those before? -/
def openB (l : List UInt8) : Bool := sameB (l.drop (l.length - 4)) (encL (sumL (l.take (l.length - 4))))
/-- What Open answers: an error's number, and bytes. -/
def openE (l : List UInt8) : Int × List UInt8 := if l.length < 4 then (41, []) else if openB l then (0, l.take (l.length - 4)) else (40, [])
def OpenEnd (l : List UInt8) (w : World) (e : Ending) (w' : World) : Prop := ∃ v, e = .returned (.tuple #[v, .int .i64 (openE l).1]) ∧ OwnB w.heap.size w' v (openE l).2 ∧ Below w.heap.size w w'
theorem OpenEnd.mk {l : List UInt8} {w w' : World} {v : Value} {k : Int} {m : List UInt8} (h : openE l = (k, m)) (ho : OwnB w.heap.size w' v m) (hb : Below w.heap.size w w') : OpenEnd l w (.returned (.tuple #[v, .int .i64 k])) w' :=
  ⟨v, by rw [h], by rw [h]; exact ho, hb⟩
theorem BytIn.ctake {n₀ : Nat} {w : World} {a : Addr} {cap : Nat} {l : List UInt8} (h : BytIn n₀ w (.slice (some a) l.length cap) l) (n : Nat) (hn : n ≤ l.length) : BytIn n₀ w (.slice (some a) n cap) (l.take n) := by
  rcases h with ⟨e, -⟩ | ⟨a', c', e, h⟩
  · simp at e
  · injection e with e1 _ e3
    injection e1 with e1
    subst e1 e3
    refine .inr ⟨_, _, by rw [List.length_take, Nat.min_eq_left hn], fun j hj => ?_⟩
    have hj' : j < l.length := by rw [List.length_take] at hj; omega
    rw [List.getElem_take]
    exact h j hj'
theorem BytIn.cdrop {n₀ : Nat} {w : World} {a : Addr} {cap : Nat} {l : List UInt8} (h : BytIn n₀ w (.slice (some a) l.length cap) l) (n c' : Nat) : BytIn n₀ w (.slice (some (a.add n)) (l.length - n) c') (l.drop n) := by
  rcases h with ⟨e, -⟩ | ⟨a', c', e, h⟩
  · simp at e
  · injection e with e1 _ e3
    injection e1 with e1
    subst e1 e3
    refine .inr ⟨_, _, by rw [List.length_drop], fun j hj => ?_⟩
    have hj' : n + j < l.length := by rw [List.length_drop] at hj; omega
    obtain ⟨h1, h2⟩ := h (n + j) hj'
    refine ⟨by rw [add_block]; exact h1, ?_⟩
    have hadd : (a.add n).add j = a.add (n + j) := by
      unfold Addr.add
      by_cases hi : n = 0 <;> by_cases hj : j = 0 <;> simp [hi, hj, Nat.add_assoc]
    rw [hadd, List.getElem_drop]
    exact h2
theorem below_drewN (w : World) (n : Nat) : Below w.heap.size w (w.drewN n) := ⟨rfl, rfl, rfl, Nat.le_refl _, fun _ _ => rfl⟩
set_option maxHeartbeats 1000000 in
set_option maxRecDepth 100000 in
theorem open_any (v : Value) (l : List UInt8) (w : World) (h : ByC w.heap.size w v l) (hl : l.length ≤ 90000000000000) (G : Glob w) :
    Calls Tryz.prog 151 #[v] w (OpenEnd l w) := by
  obtain ⟨hb, p, c, rfl, hlc, hc⟩ := h
  unfold maxLen at hc
  by_cases h4 : l.length < 4
  · have HE : Hid ((openE l) = (41, [])) := Lib.hid (by unfold openE; rw [if_pos h4])
    have h4' : (l.length : Int) < 4 := by omega
    clear hb
    go_enter Tryz.func151, Tryz.ntmps151
    go_wp2_with fail
    go_ret2
    exact OpenEnd.mk HE.out (OwnB.nil _ _) (Below.refl _ _)
  · obtain ⟨n, hn⟩ : ∃ n, l.length = n + 4 := ⟨l.length - 4, by omega⟩
    obtain ⟨a, rfl⟩ : ∃ a, p = some a := by
      rcases hb with ⟨e, rfl⟩ | ⟨a, c', e, -⟩
      · simp at h4
      · injection e with e1; exact ⟨a, e1⟩
    have HT := Lib.hid (hb.ctake n (by omega))
    have HD := Lib.hid (hb.cdrop n (c - n))
    have HLn := Lib.hid hn
    have hw : IntKind.i64.wrap ((l.length : Int) - 4) = (n : Int) := by rw [IntKind.wrap_i64]; omega
    have h1 : (4 : Int) ≤ (l.length : Int) := by omega
    have h2 : (n : Int) ≤ (c : Int) := by omega
    have h3 : (0 : Int) ≤ (n : Int) := by omega
    have h5 : (n : Int) ≤ (l.length : Int) := by omega
    have h6 : ¬ c = n := by omega
    have h7 : n ≤ l.length := by omega
    have h8 : n ≤ c := by omega
    clear hb hn
    go_enter Tryz.func151, Tryz.ntmps151
    go_wp2_with fail
    go_quiet (fail)
    rename_i nq
    obtain ⟨wq, hwq⟩ : ∃ wq, wq = w.drewN nq := ⟨_, rfl⟩
    rw [← hwq]
    have HQ : Hid (Below w.heap.size w wq ∧ w.heap.size = wq.heap.size) := Lib.hid (by rw [hwq]; exact ⟨below_drewN w nq, rfl⟩)
    clear hwq
    obtain ⟨T, hT⟩ : ∃ T, T = l.take n := ⟨_, rfl⟩
    obtain ⟨D, hD⟩ : ∃ D, D = l.drop n := ⟨_, rfl⟩
    have HT1 : Hid (BytIn wq.heap.size wq (.slice (some a) n c) T) := Lib.hid (by rw [hT, ← HQ.out.2]; exact HT.out.below HQ.out.1)
    have HD1 : Hid (BytIn wq.heap.size wq (.slice (some (a.add n)) (l.length - n) (c - n)) D) := Lib.hid (by rw [hD, ← HQ.out.2]; exact HD.out.below HQ.out.1)
    have HTl : Hid (T.length = n) := Lib.hid (by rw [hT, List.length_take]; omega)
    have HO : Hid (openE l = if sameB D (encL (sumL T)) then (0, T) else (40, [])) := Lib.hid (by
      unfold openE openB
      rw [if_neg h4, show l.length - 4 = n by have := HLn.out; omega, hT, hD])
    clear hT hD
    go_wp2_with fail
    refine (sum_any _ T _ HT1.out (by have := HTl.out; omega) (G.below HQ.out.1)).mono ?_
    rintro e w' ⟨rfl, rfl⟩
    go_wp2_with fail
    refine (cenc_any _ _).mono ?_
    rintro e w1 ⟨v1, rfl, ho1, hb1⟩
    have HB1 := Lib.hid hb1
    have HI1 := Lib.hid ho1.in_
    have HD2 := Lib.hid (HD1.out.below hb1)
    have HT2 := Lib.hid ((HT1.out.below hb1).mono hb1.size)
    clear ho1 hb1
    go_wp2_with fail
    refine (equal_any _ _ D (encL (sumL T)) _ _ (HD2.out.mono HB1.out.size) HI1.out).mono ?_
    rintro e w' ⟨rfl, rfl⟩
    have HBW : Hid (Below w.heap.size w w1) := Lib.hid (HQ.out.1.trans (HB1.out.mono (by rw [HQ.out.2]; exact Nat.le_refl _)))
    cases hs : sameB D (encL (sumL T))
    · have HE : Hid (openE l = (40, [])) := Lib.hid (by rw [HO.out, hs]; rfl)
      clear hs
      go_wp2_with fail
      go_ret2
      exact OpenEnd.mk HE.out (OwnB.nil _ _) HBW.out
    · have HE : Hid (openE l = (0, T)) := Lib.hid (by rw [HO.out, hs]; rfl)
      clear hs
      go_wp2_with fail
      refine (clone_any _ T _ HT2.out (by have := HTl.out; omega)).mono ?_
      rintro e w2 ⟨v2, rfl, ho2, hb2⟩
      have HO2 := Lib.hid (ho2.mono HBW.out.size)
      have HB2 := Lib.hid (HBW.out.trans (hb2.mono HBW.out.size))
      clear ho2 hb2
      go_wp2_with fail
      go_ret2
      exact OpenEnd.mk HE.out HO2.out HB2.out
theorem glob_eq {w W : World} (h : Below w.heap.size w W) (G : Glob w) : Glob W := G.below h
set_option maxHeartbeats 1000000 in
set_option maxRecDepth 100000 in
theorem ropen_any (v : Value) (l : List UInt8) (w : World) (h : ByC w.heap.size w v l) (hl : l.length ≤ 90000000000000) :
    Calls Tryz.prog 88 #[v] w (OpenEnd l w) := by
  obtain ⟨hb, p, c, rfl, hlc, hc⟩ := h
  unfold maxLen at hc
  have hwn : IntKind.i64.wrap ((l.length : Int) - 4) = (l.length : Int) - 4 := by rw [IntKind.wrap_i64]; omega
  by_cases h4 : l.length < 4
  · have HE : Hid ((openE l) = (41, [])) := Lib.hid (by unfold openE; rw [if_pos h4])
    have h4' : (l.length : Int) < 4 := by omega
    have h5' : (l.length : Int) - 4 < 0 := by omega
    clear hb
    go_enter Tryz.func88, Tryz.ntmps88
    go_wp2_with fail
    go_ret2
    exact OpenEnd.mk HE.out (OwnB.nil _ _) (Below.refl _ _)
  · obtain ⟨n, hn⟩ : ∃ n, l.length = n + 4 := ⟨l.length - 4, by omega⟩
    obtain ⟨a, rfl⟩ : ∃ a, p = some a := by
      rcases hb with ⟨e, rfl⟩ | ⟨a, c', e, -⟩
      · simp at h4
      · injection e with e1; exact ⟨a, e1⟩
    have HT := Lib.hid (hb.ctake n (by omega))
    have HD := Lib.hid (hb.cdrop n (c - n))
    have HLn := Lib.hid hn
    have hw : wrap64 ((l.length : Int) - 4) = (n : Int) := by unfold wrap64; omega
    have hw2 : (l.length : Int) - 4 = (n : Int) := by omega
    have h1 : (4 : Int) ≤ (l.length : Int) := by omega
    have h2 : (n : Int) ≤ (c : Int) := by omega
    have h3 : (0 : Int) ≤ (n : Int) := by omega
    have h3' : ¬ (n : Int) < 0 := by omega
    have h5 : (n : Int) ≤ (l.length : Int) := by omega
    have h6 : ¬ c = n := by omega
    have h7 : n ≤ l.length := by omega
    have h8 : n ≤ c := by omega
    obtain ⟨T, hT⟩ : ∃ T, T = l.take n := ⟨_, rfl⟩
    obtain ⟨D, hD⟩ : ∃ D, D = l.drop n := ⟨_, rfl⟩
    have hTl : T.length = n := by rw [hT, List.length_take]; omega
    have hDl : D.length = 4 := by rw [hD, List.length_drop]; omega
    have HGet : Hid (∀ k, Calls Tryz.prog 133 #[.slice (some (a.add n)) (l.length - n) (c - n)] (w.drewN k) fun e w' => e = .returned (.int .u32 (decN D : Nat)) ∧ ∃ m, w' = w.drewN m) := Lib.hid (fun k =>
      Calls.quiet_of (get_any _ D (w.drewN k) (by rw [hD]; exact HD.out.below (below_drewN w k)) (by omega) (by omega)))
    have HSum : Hid (∀ k, Calls Tryz.prog 100 #[.slice (some a) n c] (w.drewN k) fun e w' => e = .returned (regV (sumL T)) ∧ ∃ m, w' = w.drewN m) := Lib.hid (fun k =>
      Calls.quiet_of_same ((rsum_any _ T (w.drewN k) (by rw [hT]; exact HT.out.below (below_drewN w k)) (by omega)).mono fun _ _ h => ⟨h.1, h.2.symm⟩))
    have HO : Hid (openE l = if sameB D (encL (sumL T)) then (0, T) else (40, [])) := Lib.hid (by
      unfold openE openB
      rw [if_neg h4, show l.length - 4 = n by have := HLn.out; omega, hT, hD])
    have HTT : Hid (BytIn w.heap.size w (.slice (some a) n c) T) := Lib.hid (by rw [hT]; exact HT.out)
    have HTl := Lib.hid hTl
    have hsame : sameB D (encL (sumL T)) = decide ((decN D : Int) = rg (sumL T)) := by
      rw [Bool.eq_iff_iff, sameB_iff, decide_eq_true_iff, ← decN_iff hDl]
      unfold rg
      exact ⟨fun h => by rw [h], fun h => by exact_mod_cast h⟩
    rw [hsame] at HO
    clear hsame hDl hTl hT hD hb hn hwn
    generalize (decN D : Int) = x at *
    by_cases hxy : x = rg (sumL T)
    · subst hxy
      have HE : Hid (openE l = (0, T)) := Lib.hid (by rw [HO.out, decide_eq_true rfl]; rfl)
      go_enter Tryz.func88, Tryz.ntmps88
      go_wp2_with fail
      go_quiet ((first | (go_at_call 133; exact HGet.out _) | (go_at_call 100; exact HSum.out _)))
      rename_i nq
      obtain ⟨wq, hwq⟩ : ∃ wq, wq = w.drewN nq := ⟨_, rfl⟩
      rw [← hwq]
      have HQ : Hid (Below w.heap.size w wq ∧ w.heap.size = wq.heap.size) := Lib.hid (by rw [hwq]; exact ⟨below_drewN w nq, rfl⟩)
      clear hwq
      have HI : Hid (BytIn w.heap.size (wq.alloc (.cells #[] 5)) (.slice (some a) n c) T) := Lib.hid (HTT.out.below (HQ.out.1.alloc (by rw [HQ.out.2]; exact Nat.le_refl _) _))
      have HO : Hid (OwnB w.heap.size (wq.alloc (.cells #[] 5)) (.slice (some ⟨wq.heap.size, 0, none⟩) 0 0) []) := Lib.hid (OwnB.lit w.heap.size wq #[] [] 0 (by rw [HQ.out.2]; exact Nat.le_refl _) rfl (by decide) rfl)
      have HW : Hid (Below w.heap.size w (wq.alloc (.cells #[] 5))) := Lib.hid (HQ.out.1.alloc (by rw [HQ.out.2]; exact Nat.le_refl _) _)
      go_wp2_with (at_builtin; refine wpList_app rfl (.tmp 19) (.tmp 22) rfl w.heap.size w.heap.size w _ _ [] T rfl (by show Value.slice (some a) n c = _; rfl) HO.out HI.out (by have := HTl.out; rw [List.length_nil]; omega) HW.out (Nat.le_refl _) ?_; intro v' w1 ho hb)
      go_ret2
      exact OpenEnd.mk HE.out ho hb
    · have HE : Hid (openE l = (40, [])) := Lib.hid (by rw [HO.out, decide_eq_false hxy]; rfl)
      have hx1 : (x == rg (sumL T)) = false := by simpa using hxy
      have hx2 : (x != rg (sumL T)) = true := by simpa using hxy
      clear hxy
      go_enter Tryz.func88, Tryz.ntmps88
      go_wp2_with fail
      go_quiet ((first | (go_at_call 133; exact HGet.out _) | (go_at_call 100; exact HSum.out _)))
      rename_i nq
      obtain ⟨wq, hwq⟩ : ∃ wq, wq = w.drewN nq := ⟨_, rfl⟩
      rw [← hwq]
      have HQ : Hid (Below w.heap.size w wq) := Lib.hid (by rw [hwq]; exact below_drewN w nq)
      clear hwq
      go_wp2_with fail
      go_ret2
      exact OpenEnd.mk HE.out (OwnB.nil _ _) HQ.out
end
end Go.Proofs.YtdjhfcopnhcljaaGreatDoor
