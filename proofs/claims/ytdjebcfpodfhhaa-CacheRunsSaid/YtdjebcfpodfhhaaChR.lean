/-
  The iterator over the places of a list.
-/
import Derived.Test.YtdjebcfpodfhhaaChQ2
import Derived.RangeFuncBox
import Derived.RangeFuncLeaves
import Derived.RangeFuncCalls
import Derived.Shelf.Abstract
import Derived.OwnWalkIn
import Derived.TacticsInMore
import Derived.LoopNIn
import Derived.LoopIn
namespace Go.Proofs.Ytdjebcfpodfhhaa
open Go Go.RowKit Go.Maps Go.WideMaps Go.Shelf

attribute [local go_sem] Oper.semAt_some

/-- The block at place k of a list of blocks; behind its end the one that ends it. -/
def blkAt (bs : List Nat) (s k : Nat) : Nat := bs.getD k s
theorem blkAt_lt {bs : List Nat} {s k : Nat} (h : k < bs.length) : blkAt bs s k ∈ bs := by
  unfold blkAt
  rw [List.getD_eq_getElem?_getD, List.getElem?_eq_getElem h]
  exact List.getElem_mem h
theorem blkAt_end {bs : List Nat} {s k : Nat} (h : bs.length ≤ k) : blkAt bs s k = s := by
  unfold blkAt
  rw [List.getD_eq_getElem?_getD, List.getElem?_eq_none h]
  rfl
/-- Where a pointer stands in a list of blocks. -/
def idxP (bs : List Nat) : Value → Nat
  | .pointer (some a) => bs.idxOf a.block
  | _ => 0
theorem idxP_at {bs : List Nat} {s k : Nat} (hn : bs.Nodup) (hs : s ∉ bs) (hk : k ≤ bs.length) : idxP bs (ptr (blkAt bs s k)) = k := by
  show bs.idxOf (blkAt bs s k) = k
  rcases Nat.lt_or_ge k bs.length with h | h
  · unfold blkAt
    rw [List.getD_eq_getElem?_getD, List.getElem?_eq_getElem h]
    exact hn.idxOf_getElem k h
  · rw [blkAt_end h, List.idxOf_eq_length hs]
    omega
theorem run_neq_ptr_same {P : Program} (w : World) {tp te : TypeId} {j : TypeInfo} (a : Addr) (hp : P.underlying tp = some (.pointer te)) (hte : P.info? te = some j) :
    (binOp .neq tp (.pointer (some a)) (.pointer (some a))).run P w = .ok (.bool false) w := by
  have h := run_eql_ptr_same w a hp hte
  simp only [binOp, Sem.run_bind] at h ⊢
  revert h
  cases (Op.equal tp (.pointer (some a)) (.pointer (some a))).run P w <;> simp [Result.andThen] <;> grind
theorem run_neq_ptr_other {P : Program} (w : World) {tp te : TypeId} {j : TypeInfo} {a b : Addr} {ca cb : Array Value} {ta tb : TypeId} (hp : P.underlying tp = some (.pointer te)) (hte : P.info? te = some j) (hsz : j.size ≠ 0)
    (hne : a ≠ b) (ha : w.heap[a.block]? = some (.cells ca ta (0, 0))) (hb : w.heap[b.block]? = some (.cells cb tb (0, 0))) :
    (binOp .neq tp (.pointer (some a)) (.pointer (some b))).run P w = .ok (.bool true) w := by
  have h := run_eql_ptr_other w hp hte hsz hne ha hb
  simp only [binOp, Sem.run_bind] at h ⊢
  revert h
  cases (Op.equal tp (.pointer (some a)) (.pointer (some b))).run P w <;> simp [Result.andThen] <;> grind
theorem infoPl : (Try.prog.info? 81).map (fun i => i.size) = some 5 := by kernel_rfl
/-- What the iterator reads. -/
structure RdP (bs : List Nat) (s cb : Nat) (k : Nat) (W : World) : Prop where
  box : W.cell? ⟨cb, 0, none⟩ = some (ptr s)
  kind : ∀ b ∈ s :: bs, Bk W b 81 5
  next : k < bs.length → W.cell? ⟨blkAt bs s k, 4, none⟩ = some (ptr (blkAt bs s (k + 1)))
  first : k = 0 → W.cell? ⟨s, 4, none⟩ = some (ptr (blkAt bs s 0))
theorem neq_run {bs : List Nat} {s cb k : Nat} {W : World} (h : RdP bs s cb k W) (hs : s ∉ bs) (hk : k < bs.length) : (binOp .neq 63 (ptr (blkAt bs s k)) (ptr s)).run Try.prog W = .ok (.bool true) W := by
  obtain ⟨j, hj, hz⟩ := Option.map_eq_some_iff.1 infoPl
  obtain ⟨c1, h1, -⟩ := h.kind _ (List.mem_cons_of_mem _ (blkAt_lt (s := s) hk))
  obtain ⟨c2, h2, -⟩ := h.kind s List.mem_cons_self
  exact run_neq_ptr_other W Try.underlying63 hj (by rw [hz]; decide) (fun e => hs (by injection e with e; rw [← e]; exact blkAt_lt hk)) h1 h2
theorem neq_run_end (s : Nat) (W : World) : (binOp .neq 63 (ptr s) (ptr s)).run Try.prog W = .ok (.bool false) W := by
  obtain ⟨j, hj, hz⟩ := Option.map_eq_some_iff.1 infoPl
  exact run_neq_ptr_same W _ Try.underlying63 hj
set_option maxRecDepth 100000 in
set_option maxHeartbeats 4000000 in
theorem places_in (l s cb : Nat) (bs : List Nat) (hn : bs.Nodup) (hs : s ∉ bs) (W : World) (J : Nat → World → Prop) (hrd : ∀ k W1, k ≤ bs.length → J k W1 → RdP bs s cb k W1)
    (hround : ∀ k W1, k < bs.length → J k W1 → YieldAt Fence.wide 7 Try.prog l #[ptr (blkAt bs s k)] W1 fun e W' => e = .returned (.bool true) ∧ J (k + 1) W') (h0 : J 0 W) :
    CallsIn Fence.wide 8 Try.prog 39 (#[.func (.yield l) #[] #[]] ++ #[ptr cb]) W fun e W' => (∃ v, e = .returned v) ∧ J bs.length W' := by
  have HR := Lib.hid hrd
  have HY := Lib.hid hround
  have HN := Lib.hid (And.intro hn hs)
  have h00 := (hrd 0 W (Nat.zero_le _) h0)
  have b0 := h00.box
  have f0 := h00.first rfl
  have HJ0 := Lib.hid h0
  have HI := Lib.hid (show ∀ k, k ≤ bs.length → idxP bs (ptr (blkAt bs s k)) = k from fun k hk => idxP_at hn hs hk)
  clear hrd hround hn hs h0 h00
  refine callsIn_of_wp Try.func39 rfl trivial ?_ rfl
  simp only [Try.ntmps39, List.size_toArray, List.length_cons, List.length_nil, Nat.reduceAdd, Nat.reduceSub, Array.replicate_succ, Array.replicate_zero, List.push_toArray, List.append_toArray, List.nil_append, List.cons_append]
  gi_wp2
  gi_loopw [3] (fun p wr => ∃ k : Nat, k ≤ bs.length ∧ p = ptr (blkAt bs s k) ∧ Hid (J k wr)) (fun p _ => bs.length - idxP bs p)
  case atStart => exact ⟨0, Nat.zero_le _, rfl, HJ0⟩
  case round =>
    obtain ⟨k, hk, rfl, hJ⟩ := hrel
    by_cases hlt : k < bs.length
    · have hr := HR.out k wr hk hJ.out
      have q := neq_run hr HN.out.2 hlt
      have b1 := hr.box
      have n1 := hr.next hlt
      obtain ⟨fn, tmps, assign, body, hy, hRd⟩ := HY.out k wr hlt hJ.out
      clear hr
      gi_wp2
      refine hRd.mono ?_
      rintro e W3 ⟨rfl, hJ3⟩
      gi_wp2
      go_roundw
      case rel => exact ⟨k + 1, by omega, rfl, Lib.hid hJ3⟩
      case measure => rw [HI.out k (by omega), HI.out (k + 1) (by omega)]; omega
    · obtain rfl : k = bs.length := by omega
      have hr := HR.out _ wr hk hJ.out
      have b1 := hr.box
      have q := neq_run_end s wr
      have e := Lib.hid (blkAt_end (s := s) (Nat.le_refl bs.length))
      rw [e.out]
      clear hr
      gi_wp2
      go_end0
      exact ⟨⟨_, rfl⟩, hJ.out⟩
end Go.Proofs.Ytdjebcfpodfhhaa
