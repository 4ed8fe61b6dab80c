/-
  Contracts of tuple.values and tuple.Read at any text.
-/
import Derived.Test.YtdfepeeicbpicaaGreatDoorTtX
import Derived.Test.YtdfepeeicbpicaaGreatDoorTtT
import Derived.Test.YtdfepeeicbpicaaGreatDoorTupO
namespace Go.Proofs.YtdfepeeicbpicaaGreatDoor
open Go Go.RowKit

def ValT (T : List V3) : Prop := ∀ v ∈ T, ValV v
/-- More values are to come: the text is that of the values so far and of one or more behind. -/
def InvM (L : List UInt8) (A : List V3) (r : List UInt8) : Prop := ∀ T, ValT T → (joinT T = L ↔ ∃ B, B ≠ [] ∧ T = A ++ B ∧ joinT B = r)
/-- No more values are to come. -/
def InvE (L : List UInt8) (A : List V3) (r : List UInt8) : Prop := ∀ T, ValT T → (joinT T = L ↔ T = A ∧ r = [])
theorem joinT_empty {T : List V3} (h : joinT T = []) : T = [] := by
  cases T with
  | nil => rfl
  | cons v r =>
    have := congrArg List.length h
    rw [joinT_cons, List.length_append, List.length_nil] at this
    have := textV_pos (v := v)
    omega
theorem invM_start {L : List UInt8} (h : L ≠ []) : InvM L [] L := fun T _ => by
  constructor
  · intro e
    exact ⟨T, fun e' => h (by rw [← e, e']; rfl), rfl, e⟩
  · rintro ⟨B, -, rfl, e⟩
    exact e
theorem invE_start : InvE [] [] [] := fun T _ => ⟨fun e => ⟨joinT_empty e, rfl⟩, fun h => by rw [h.1]; rfl⟩
theorem valT_app {A B : List V3} (h : ValT (A ++ B)) : ValT B := fun v hv => h v (List.mem_append_right _ hv)
theorem invM_bad {L : List UInt8} {A : List V3} {r : List UInt8} (h : InvM L A r) (hb : ∀ v, ValV v → textV v ≠ r.take (extL false r)) : ∀ T, ValT T → joinT T ≠ L := fun T hT e => by
  obtain ⟨B, hB, rfl, e2⟩ := (h T hT).1 e
  cases B with
  | nil => exact hB rfl
  | cons v B' =>
    refine hb v (valT_app hT v List.mem_cons_self) ?_
    rw [← e2, ext_join, joinT_cons, List.take_left']
    rfl
theorem invM_long {L : List UInt8} {A : List V3} {r : List UInt8} (h : InvM L A r) (ha : A.length = 8) : ∀ T, ValT T → T.length ≤ 8 → joinT T ≠ L := fun T hT h8 e => by
  obtain ⟨B, hB, rfl, -⟩ := (h T hT).1 e
  have := List.length_pos_iff.2 hB
  rw [List.length_append] at h8
  omega
theorem join_head {v : V3} {B : List V3} {r : List UInt8} {u : V3} (hv : ValV v) (hu : ValV u) (he : textV v = r.take (extL false r)) (h : joinT (u :: B) = r) : u = v ∧ r.drop (extL false r) = if B = [] then [] else 44 :: 32 :: joinT B := by
  have hx : extL false r = (textV u).length := by rw [← h, ext_join]
  have h1 : textV u = r.take (extL false r) := by rw [hx, ← h, joinT_cons, List.take_left']; rfl
  refine ⟨textV_inj hu hv (by rw [h1, he]), ?_⟩
  rw [hx, ← h, joinT_cons, List.drop_left']
  rfl
theorem invM_more {L : List UInt8} {A : List V3} {r r2 : List UInt8} {v : V3} (h : InvM L A r) (hv : ValV v) (he : textV v = r.take (extL false r)) (hp : r.drop (extL false r) = 44 :: 32 :: r2) : InvM L (A ++ [v]) r2 := fun T hT => by
  rw [h T hT]
  constructor
  · rintro ⟨B, hB, rfl, e⟩
    cases B with
    | nil => exact absurd rfl hB
    | cons u B' =>
      obtain ⟨rfl, h2⟩ := join_head hv (valT_app hT u List.mem_cons_self) he e
      rw [hp] at h2
      by_cases hb : B' = []
      · rw [if_pos hb] at h2; cases h2
      · rw [if_neg hb] at h2
        injection h2 with _ h2
        injection h2 with _ h2
        exact ⟨B', hb, by simp, h2.symm⟩
  · rintro ⟨B, hB, rfl, rfl⟩
    refine ⟨v :: B, by simp, by simp, ?_⟩
    rw [joinT_cons, if_neg hB, he, ← hp, List.take_append_drop]
theorem invM_last {L : List UInt8} {A : List V3} {r : List UInt8} {v : V3} (h : InvM L A r) (hv : ValV v) (he : textV v = r.take (extL false r)) (hp : Lib.hasPrefix (r.drop (extL false r)) [44, 32] = false) : InvE L (A ++ [v]) (r.drop (extL false r)) := fun T hT => by
  rw [h T hT]
  constructor
  · rintro ⟨B, hB, rfl, e⟩
    cases B with
    | nil => exact absurd rfl hB
    | cons u B' =>
      obtain ⟨rfl, h2⟩ := join_head hv (valT_app hT u List.mem_cons_self) he e
      by_cases hb : B' = []
      · rw [if_pos hb] at h2
        exact ⟨by rw [hb], h2⟩
      · rw [if_neg hb] at h2
        rw [h2] at hp
        simp [Lib.hasPrefix] at hp
  · rintro ⟨rfl, h2⟩
    refine ⟨[v], by simp, rfl, ?_⟩
    have := List.take_append_drop (extL false r) r
    rw [h2, List.append_nil] at this
    rw [joinT_cons, if_pos rfl, List.append_nil, he, this]
/-- What values answers. -/
def ValsEnd (L : List UInt8) (w : World) (e : Ending) (w' : World) : Prop :=
  Below w.heap.size w w' ∧ ∃ v ok, e = .returned (.tuple #[v, .bool ok]) ∧ ((ok = true ∧ ∃ A, TupIn w'.heap.size w' v A ∧ ValT A ∧ A.length ≤ 8 ∧ joinT A = L) ∨ (ok = false ∧ ∀ T, ValT T → T.length ≤ 8 → joinT T ≠ L))
/-- What a round of values begins with. -/
structure VaR (s : ByteArray) (w : World) (r : ByteArray) (A : List V3) (m : Bool) (v : Value) (wr : World) : Prop where
  own : OwnR w.heap.size wr v A
  below : Below w.heap.size w wr
  vals : ValT A
  len : A.length ≤ 8
  size : r.size ≤ s.size
  inv : (m = true → InvM s.data.toList A r.data.toList) ∧ (m = false → InvE s.data.toList A r.data.toList)
def muV (s m : Value) : Nat := match s, m with
  | .string r, .bool true => r.size + 1
  | _, _ => 0
theorem valT_snoc {A : List V3} {v : V3} (h : ValT A) (hv : ValV v) : ValT (A ++ [v]) := fun x hx => by
  rcases List.mem_append.1 hx with hx | hx
  · exact h x hx
  · obtain rfl := List.mem_singleton.1 hx
    exact hv
theorem two_pre {l : List UInt8} (h : Lib.hasPrefix l [44, 32] = true) : l = 44 :: 32 :: l.drop 2 := by
  obtain ⟨t, rfl⟩ := List.isPrefixOf_iff_prefix.1 h
  rfl
theorem isEmpty_size {s : ByteArray} (h : s.toList.isEmpty = true) : s.data.toList = [] := by
  rw [Lib.toList_data] at h
  exact List.isEmpty_iff.1 h
theorem notEmpty_size {s : ByteArray} (h : s.toList.isEmpty = false) : s.data.toList ≠ [] := by
  rw [Lib.toList_data] at h
  intro e
  rw [e] at h
  cases h
theorem ownR_formV {B : Nat} {w : World} {v : Value} {T : List V3} (h : OwnR B w v T) : ∃ p cap, v = .slice p T.length cap := by
  rcases h.2 with ⟨rfl, h0⟩ | ⟨g, cap, cur, rfl, -⟩
  · exact ⟨none, 0, by rw [show T.length = 0 from h0]⟩
  · exact ⟨_, cap, rfl⟩
set_option maxHeartbeats 4000000 in
set_option maxRecDepth 100000 in
theorem valsT_any (s : ByteArray) (w : World) (hs : s.size ≤ 1000000) (G : Glob w) :
    Calls Tryz.prog 19 #[.string s] w (ValsEnd s.data.toList w) := by
  have HG := Lib.hid G
  have HSz := Lib.hid hs
  clear G
  obtain ⟨m0, hm0⟩ : ∃ m, m = s.toList.isEmpty := ⟨_, rfl⟩
  have HStart : Hid (VaR s w s [] (!m0) (.slice none 0 0) w) := Lib.hid ⟨OwnR.nil _ _, Below.refl _ _, fun v hv => (by cases hv), Nat.zero_le _, Nat.le_refl _, fun h => invM_start (notEmpty_size (by rw [← hm0]; simpa using h)), fun h => by
    have := isEmpty_size (s := s) (by rw [← hm0]; simpa using h)
    rw [this]
    exact invE_start⟩
  go_enter Tryz.func19, Tryz.ntmps19
  rw [hm0] at HStart
  go_wp2_with fail
  go_loopw [0, 4, 5] (fun sv tv mv wr => ∃ (r : ByteArray) (A : List V3) (m : Bool) (v4 : Value), sv = .string r ∧ v4 = tv ∧ mv = .bool m ∧ Hid (VaR s w r A m v4 wr)) (fun sv _ mv _ => muV sv mv)
  case atStart => exact ⟨s, [], _, _, rfl, rfl, rfl, HStart⟩
  case round =>
    obtain ⟨r, A, m, v4, rfl, rfl, rfl, HR⟩ := hrel
    cases m with
    | false =>
      have HE := Lib.hid (HR.out.inv.2 rfl)
      cases he : r.toList.isEmpty with
      | true =>
        have h0 := Lib.hid (isEmpty_size he)
        go_wp2_with fail
        go_ret2
        exact ⟨HR.out.below, _, true, rfl, .inl ⟨rfl, A, HR.out.own.in_ (by have := HR.out.len; omega), HR.out.vals, HR.out.len, ((HE.out A HR.out.vals).2 ⟨rfl, h0.out⟩)⟩⟩
      | false =>
        have h0 := Lib.hid (notEmpty_size he)
        go_wp2_with fail
        go_ret2
        exact ⟨HR.out.below, _, false, rfl, .inr ⟨rfl, fun T hT _ e => h0.out ((HE.out T hT).1 e).2⟩⟩
    | true =>
      have HM := Lib.hid (HR.out.inv.1 rfl)
      have hrs : r.size ≤ 1000000 := Nat.le_trans HR.out.size HSz.out
      have hrs' : (r.size : Int) ≤ 1000000 := by omega
      have HX := Lib.hid (extent_any r wr hrs)
      have hnl : extL false r.data.toList ≤ r.size := by rw [Lib.size_eq]; exact ext_le _ false _ (Nat.le_refl _)
      obtain ⟨n, HNn⟩ : ∃ n, Hid (n = extL false r.data.toList) := ⟨_, Lib.hid rfl⟩
      rw [← HNn.out] at HX hnl
      have hnl' : (n : Int) ≤ (r.size : Int) := by omega
      have hn0 : (0 : Int) ≤ (n : Int) := by omega
      go_wp2_with fail
      refine HX.out.mono ?_
      rintro e w1 ⟨rfl, rfl⟩
      go_wp2_with fail
      by_cases hv : ∃ v : V3, ValV v ∧ strV v = r.extract 0 n
      case neg =>
        have HBad := Lib.hid (invM_bad HM.out (fun v hvv e => hv ⟨v, hvv, by
          apply ByteArray.ext
          apply Array.toList_inj.1
          rw [strV_list, head_list, HNn.out, e]⟩))
        refine (read_none (r.extract 0 n) wr (by rw [ByteArray.size_extract]; omega) (fun k n' S hk hI e => hv ⟨⟨k, n', S⟩, ⟨hk, hI⟩, e.symm⟩) (HG.out.below HR.out.below)).mono ?_
        rintro e w2 ⟨rfl, hb2⟩
        have HB2 := Lib.hid (HR.out.below.trans (hb2.mono HR.out.below.size))
        clear hb2 hv
        go_wp2_with fail
        go_ret2
        exact ⟨HB2.out.alloc HB2.out.size _, _, false, rfl, .inr ⟨rfl, fun T hT _ => HBad.out T hT⟩⟩
      obtain ⟨v, hvv, hve⟩ := hv
      have HV := Lib.hid hvv
      have HT := Lib.hid (show textV v = r.data.toList.take n by rw [← strV_list, hve, head_list])
      rw [← hve]
      refine (read_own v.k v.n v.s wr hvv.1 hvv.2 (HG.out.below HR.out.below)).mono ?_
      rintro e w2 ⟨rfl, hb2⟩
      have HB2 := Lib.hid (HR.out.below.trans (hb2.mono HR.out.below.size))
      have HO2 := Lib.hid (HR.out.own.below hb2)
      obtain ⟨q4, c4, e4⟩ := ownR_formV HR.out.own
      have ha8 := HR.out.len
      clear hb2 hvv hve
      by_cases h8 : A.length = 8
      case pos =>
        have HBad := Lib.hid (invM_long HM.out h8)
        have h8' : (A.length : Int) = 8 := by omega
        subst e4
        clear h8
        go_wp2_with fail
        go_ret2
        exact ⟨HB2.out.alloc HB2.out.size _, _, false, rfl, .inr ⟨rfl, HBad.out⟩⟩
      have h8' : ¬ (A.length : Int) = 8 := by omega
      have h8'' : ((A.length : Int) == 8) = false := by simpa using h8'
      have HA8 := Lib.hid (show A.length + 1 ≤ 8 by omega)
      have HB4 := Lib.hid (show Below w.heap.size w ((w2.alloc (.cells #[.int .i64 v.k, .int .i64 v.n, .string v.s] 37)).alloc (.cells #[.int .i64 v.k, .int .i64 v.n, .string v.s] 37)) from (HB2.out.alloc HB2.out.size (.cells #[.int .i64 v.k, .int .i64 v.n, .string v.s] 37)).alloc (by simp; exact Nat.le_succ_of_le HB2.out.size) (.cells #[.int .i64 v.k, .int .i64 v.n, .string v.s] 37))
      have HO4 := Lib.hid (show OwnR w.heap.size ((w2.alloc (.cells #[.int .i64 v.k, .int .i64 v.n, .string v.s] 37)).alloc (.cells #[.int .i64 v.k, .int .i64 v.n, .string v.s] 37)) v4 A from (HO2.out.alloc (.cells #[.int .i64 v.k, .int .i64 v.n, .string v.s] 37)).alloc (.cells #[.int .i64 v.k, .int .i64 v.n, .string v.s] 37))
      have HLit := Lib.hid (show TupIn (w2.heap.size + 1 + 1) ((w2.alloc (.cells #[.int .i64 v.k, .int .i64 v.n, .string v.s] 37)).alloc (.cells #[.int .i64 v.k, .int .i64 v.n, .string v.s] 37)) (.slice (some ⟨w2.heap.size + 1, 0, none⟩) 1 1) [v] by simpa using lit_in (w2.alloc (.cells #[.int .i64 v.k, .int .i64 v.n, .string v.s] 37)) v)
      subst e4
      clear h8
      go_wp2_with (at_builtin; refine wpList_appT rfl (.tmp 28) (.tmp 30) rfl w.heap.size (w2.heap.size + 1 + 1) w (.slice q4 A.length c4) (.slice (some ⟨w2.heap.size + 1, 0, none⟩) 1 1) A [v] rfl rfl HO4.out HLit.out (by omega) HB4.out (Nat.le_refl _) ?_; intro v5 w5 ho5 hb5)
      have HO5 := Lib.hid ho5
      have HB5 := Lib.hid hb5
      have HA5 := Lib.hid (show ValT (A ++ [v]) from valT_snoc HR.out.vals HV.out)
      clear ho5 hb5 HO4 HB4 HLit HO2 HB2
      have hdl := tail_list r n
      have HC := Lib.hid (cutpre_any (r.extract n r.size) ⟨#[44, 32]⟩ w5 (by rw [ByteArray.size_extract]; omega))
      rw [hdl] at HC
      have HDl := Lib.hid hdl
      clear hdl
      refine HC.out.mono ?_
      cases hp : Lib.hasPrefix (r.data.toList.drop n) (⟨#[44, 32]⟩ : ByteArray).data.toList with
      | true =>
        have hp' : Lib.hasPrefix (r.data.toList.drop n) [44, 32] = true := hp
        have h2 := two_pre hp'
        have hlen : 2 ≤ (r.data.toList.drop n).length := by rw [h2]; simp
        rw [List.length_drop, ← Lib.size_eq] at hlen
        have hsz2 : (r.extract n r.size).size = r.size - n := by rw [ByteArray.size_extract]; omega
        have hl2 : ((r.extract n r.size).extract (⟨#[44, 32]⟩ : ByteArray).size (r.extract n r.size).size).data.toList = (r.data.toList.drop n).drop 2 := by
          rw [tail_list, HDl.out]
          rfl
        have hs2 : ((r.extract n r.size).extract (⟨#[44, 32]⟩ : ByteArray).size (r.extract n r.size).size).size ≤ r.size - n := by rw [ByteArray.size_extract, hsz2]; omega
        have hs3 : ((r.extract n r.size).extract (⟨#[44, 32]⟩ : ByteArray).size (r.extract n r.size).size).size < r.size := by
          rw [Lib.size_eq, hl2, List.length_drop, List.length_drop, ← Lib.size_eq]; omega
        obtain ⟨r2, hr2⟩ : ∃ r2, r2 = ((r.extract n r.size).extract (⟨#[44, 32]⟩ : ByteArray).size (r.extract n r.size).size) := ⟨_, rfl⟩
        rw [← hr2] at hl2 hs2 hs3 ⊢
        have HN := Lib.hid (show VaR s w r2 (A ++ [v]) true v5 w5 from ⟨HO5.out, HB5.out, HA5.out, by rw [List.length_append, List.length_singleton]; exact HA8.out, Nat.le_trans (by omega) HR.out.size, fun _ => invM_more HM.out HV.out (by rw [← HNn.out]; exact HT.out) (by rw [← HNn.out, hl2]; exact h2), fun h => by cases h⟩)
        rintro e w6 ⟨rfl, rfl⟩
        have HS3 := Lib.hid hs3
        clear hr2 hl2 hs2 hs3 hsz2 hlen h2 hp' hp
        go_wp2_with fail
        go_roundw
        case rel => exact ⟨r2, A ++ [v], true, v5, rfl, rfl, rfl, HN⟩
        case measure => simp [muV]; exact HS3.out
      | false =>
        have hs2 : (r.extract n r.size).size ≤ r.size := by rw [ByteArray.size_extract]; omega
        have HN := Lib.hid (show VaR s w (r.extract n r.size) (A ++ [v]) false v5 w5 from ⟨HO5.out, HB5.out, HA5.out, by rw [List.length_append, List.length_singleton]; exact HA8.out, Nat.le_trans hs2 HR.out.size, fun h => (by cases h), fun _ => by
          rw [HDl.out, HNn.out]
          exact invM_last HM.out HV.out (by rw [← HNn.out]; exact HT.out) (by rw [← HNn.out]; exact hp)⟩)
        generalize r.extract n r.size = r2 at HN ⊢
        rintro e w6 ⟨rfl, rfl⟩
        clear hp hs2
        go_wp2_with fail
        go_roundw
        case rel => exact ⟨_, A ++ [v], false, v5, rfl, rfl, rfl, HN⟩
        case measure => simp [muV]
end Go.Proofs.YtdfepeeicbpicaaGreatDoor
