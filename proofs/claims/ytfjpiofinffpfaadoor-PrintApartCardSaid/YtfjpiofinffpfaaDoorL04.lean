/-
  Inside of print: join (Tm).
  Inside of print: join (Ty).
  Inside of print: join (Pa).
  Inside of print: join (Ac).
  Inside of print: join (Li).
  Inside of print: join (De).
  Inside of print: join (On).
  Inside of print: join (Ru).
-/
import Derived.Test.YtfjpiofinffpfaaDoorL03
namespace Go.Proofs.YtfjpiofinffpfaaDoor
section
open Go Go.RowKit Go.Shelf

set_option maxRecDepth 100000 in
set_option maxHeartbeats 4000000 in
theorem pjoinTm_any {P : TmL → Option (List UInt8)} {M : Nat} (sep : ByteArray) (v : Value) (L : List TmL) (S : Nat → Prop) (w : World) (h : RowIn tmY S w v L) (hs : sep.size ≤ 1000) (hlen : L.length * (M + sep.size) ≤ 50000000) (hL : L.length ≤ 1000000)
    (HF : ∀ (X : TmL) (us : List Value) (W : World), X ∈ L → Below w.heap.size w W → tmY.is S W us X → Calls Tryd.prog 39 #[.agg us.toArray] W (InP M (P X) W)) :
    Calls Tryd.prog 46 #[v, .string sep, .func (.func 39) #[] #[]] w (InP (L.length * (M + sep.size)) (rowP P sep.data.toList L) w) := by
  have HI := Lib.hid h
  have HFF := Lib.hid HF
  have HLen := Lib.hid hlen
  have HSep := Lib.hid hs
  obtain ⟨p, c, rfl⟩ := h.shape
  obtain ⟨n, hn⟩ : ∃ n, n = L.length := ⟨_, rfl⟩
  have HN := Lib.hid hn
  have hL' : (n : Int) ≤ 1000000 := by omega
  rw [← hn] at HLen HI ⊢
  clear h HF hlen hs hn hL
  go_enter Tryd.func46, Tryd.ntmps46
  go_wp2_with fail
  go_loopw [15] (fun i wr => ∃ (k : Nat) (ts : List (List UInt8)), k ≤ n ∧ i = .int .i64 k ∧ Hid (JnS P sep M L w k ts wr)) (fun i _ => n - (intOf i).toNat)
  case atStart => exact ⟨0, [], Nat.zero_le _, rfl, Lib.hid (JnS.zero w)⟩
  case round =>
    obtain ⟨k, ts, hk, rfl, HJ⟩ := hrel
    have h0 : (0 : Int) ≤ (k : Int) := by omega
    by_cases hlt : k < n
    · have hlt' : (k : Int) < (n : Int) := by omega
      have hkn : k < L.length := by rw [← HN.out]; exact hlt
      obtain ⟨b, off, c1, us, e1, hbl, hu, hc⟩ := row_at (HI.out.in_below (show Below w.heap.size w wr from HJ.out.below)) hkn
      injection e1 with e1 hq1 hq2
      subst e1
      clear hq1 hq2
      have hmem : L[k] ∈ L := List.getElem_mem hkn
      have hP : ∃ Y, P L[k] = Y ∧ Y = P L[k] := ⟨_, rfl, rfl⟩
      obtain ⟨X, hX⟩ : ∃ X, X = L[k] := ⟨_, rfl⟩
      rw [← hX] at hu hmem
      have HX := Lib.hid hX
      have HMem := Lib.hid hmem
      have hu : us = [.int .i64 X.kind, .string ⟨X.name.toArray⟩, .int .i64 X.val.1, .int .i64 X.val.2.1, .string X.val.2.2] := hu
      subst hu
      have a0 : wr.cell? ⟨b, off + k * 5, none⟩ = some (.int .i64 X.kind) := hc 0 _ rfl
      have a1 : wr.cell? ⟨b, off + k * 5 + 1, none⟩ = some (.string ⟨X.name.toArray⟩) := hc 1 _ rfl
      have a2 : wr.cell? ⟨b, off + k * 5 + 2, none⟩ = some (.int .i64 X.val.1) := hc 2 _ rfl
      have a3 : wr.cell? ⟨b, off + k * 5 + 3, none⟩ = some (.int .i64 X.val.2.1) := hc 3 _ rfl
      have a4 : wr.cell? ⟨b, off + k * 5 + 4, none⟩ = some (.string X.val.2.2) := hc 4 _ rfl
      clear hX hmem hc hP
      have Hal := Lib.hid ((Below.refl wr.heap.size wr).alloc (Nat.le_refl _) (.cells #[.int .i64 X.kind, .string ⟨X.name.toArray⟩, .int .i64 X.val.1, .int .i64 X.val.2.1, .string X.val.2.2] 53))
      have HB1 := Lib.hid (HJ.out.below.alloc HJ.out.below.size (.cells #[.int .i64 X.kind, .string ⟨X.name.toArray⟩, .int .i64 X.val.1, .int .i64 X.val.2.1, .string X.val.2.2] 53))
      have HK := Lib.hid (isbu_keep HJ.out.bu Hal.out)
      go_wp2_with fail
      refine (HFF.out X [.int .i64 X.kind, .string ⟨X.name.toArray⟩, .int .i64 X.val.1, .int .i64 X.val.2.1, .string X.val.2.2] (wr.alloc (.cells #[.int .i64 X.kind, .string ⟨X.name.toArray⟩, .int .i64 X.val.1, .int .i64 X.val.2.1, .string X.val.2.2] 53)) HMem.out HB1.out (show tmY.is S _ [.int .i64 X.kind, .string ⟨X.name.toArray⟩, .int .i64 X.val.1, .int .i64 X.val.2.1, .string X.val.2.2] X from rfl)).mono ?_
      rintro y w3 ⟨r, bb, rfl, g1, g2, g3⟩
      have HE := Lib.hid (And.intro g1 (And.intro g2 g3))
      have HK3 := Lib.hid (isbu_keep HK.out g3)
      have HB3 := Lib.hid (HB1.out.trans (g3.mono HB1.out.size))
      clear g1 g2 g3
      cases bb with
      | false =>
        go_wp2_with fail
        go_ret2
        exact .no (row_none _ hkn (by rw [← HX.out, HE.out.2.1]; rfl)) (empty_le _) HB3.out
      | true =>
        have HT := Lib.hid (row_step (x := r.data.toList) HJ.out.all_ hkn (by rw [← HX.out, HE.out.2.1]; rfl))
        have HSh : Hid (∀ t ∈ ts ++ [r.data.toList], t.length ≤ M) := Lib.hid (fun t ht => by
          rcases List.mem_append.1 ht with ht | ht
          · exact HJ.out.short t ht
          · rw [List.mem_singleton.1 ht, ← Lib.size_eq]; exact HE.out.1)
        have HTl := Lib.hid (row_len HJ.out.all_ (by omega))
        have HRoom : Hid ((Lib.byteCells (joinS sep.data.toList ts)).length + sep.size + r.size ≤ 100000000) := Lib.hid (by
          rw [bytes_len]
          have h1 := HJ.out.len (by omega)
          have h2 := mul_room (z := M + sep.size) hlt
          have h3 := HE.out.1
          have h4 := HLen.out
          omega)
        have HBs := Lib.hid (Nat.le_trans HB1.out.size HE.out.2.2.size)
        by_cases hk0 : k = 0
        · have hn1 : ¬ 0 < k := by omega
          have hn2 : ¬ (0 : Int) < (k : Int) := by omega
          have HS := Lib.hid (wstr_bu w.heap.size w.heap.size (Lib.byteCells (joinS sep.data.toList ts)) r w3 HK3.out (by have := HRoom.out; omega) HBs.out)
          go_wp2_with (go_at_call 48; refine HS.out.mono ?_; rintro e w4 ⟨rfl, hb6, hb7, hb8⟩; have HB6 := Lib.hid hb6; have HB7 := Lib.hid hb7; clear hb6 hb7 hb8 HS)
          go_roundw
          case rel => exact ⟨k + 1, ts ++ [r.data.toList], by omega, by go_num, Lib.hid ⟨HT.out, HSh.out, by
            rw [joinS_snoc, if_pos (by rw [HTl.out]; exact hk0), bytes_app, ← text_cells]
            exact .inr HB6.out, HB3.out.trans HB7.out, bu_lt HB6.out⟩⟩
          case measure => simp [intOf]; omega
        · have hn1 : 0 < k := by omega
          have hn2 : (0 : Int) < (k : Int) := by omega
          have HY := Lib.hid (wstr_bu w.heap.size w.heap.size (Lib.byteCells (joinS sep.data.toList ts)) sep w3 HK3.out (by have := HRoom.out; omega) HBs.out)
          go_wp2_with (go_at_call 48; refine HY.out.mono ?_; rintro e w4 ⟨rfl, hb6, hb7, hb8⟩; have HB6 := Lib.hid hb6; have HB7 := Lib.hid hb7; clear hb6 hb7 hb8 HY)
          have HS := Lib.hid (wstr_bu w.heap.size w.heap.size _ r w4 (.inr HB6.out) (by rw [List.length_append, Lib.strCells_length]; have := HRoom.out; omega) (Nat.le_of_lt (bu_lt HB6.out)))
          go_wp2_with (go_at_call 48; refine HS.out.mono ?_; rintro e w5 ⟨rfl, hb6, hb7, hb8⟩; have HB8 := Lib.hid hb6; have HB9 := Lib.hid hb7; clear hb6 hb7 hb8 HS)
          go_roundw
          case rel => exact ⟨k + 1, ts ++ [r.data.toList], by omega, by go_num, Lib.hid ⟨HT.out, HSh.out, by
            rw [joinS_snoc, if_neg (by rw [HTl.out]; exact hk0), bytes_app, bytes_app, ← text_cells, ← text_cells, ← List.append_assoc]
            exact .inr HB8.out, (HB3.out.trans HB7.out).trans HB9.out, bu_lt HB8.out⟩⟩
          case measure => simp [intOf]; omega
    · have hge : ¬ (k : Int) < (n : Int) := by omega
      have HE := Lib.hid (row_all sep.data.toList HJ.out.all_ (by rw [← HN.out]; omega))
      have HS := Lib.hid (Tryd.Builder_String_any w.heap.size w.heap.size (joinS sep.data.toList ts) wr HJ.out.bu (by exact Nat.le_of_lt HJ.out.lt))
      go_wp2_with (go_at_call 49; refine HS.out.mono ?_; rintro e w3 ⟨rfl, hb3⟩)
      go_ret2
      refine .yes HE.out ?_ (HJ.out.below.trans hb3)
      rw [Lib.size_eq]
      exact Nat.le_trans (HJ.out.len (by have := HN.out; omega)) (mul_le' hk)
end
section
open Go Go.RowKit Go.Shelf

set_option maxRecDepth 100000 in
set_option maxHeartbeats 4000000 in
theorem pjoinTy_any {P : Int → Option (List UInt8)} {M : Nat} (sep : ByteArray) (v : Value) (L : List Int) (S : Nat → Prop) (w : World) (h : RowIn tyY S w v L) (hs : sep.size ≤ 1000) (hlen : L.length * (M + sep.size) ≤ 50000000) (hL : L.length ≤ 1000000)
    (HF : ∀ (X : Int) (us : List Value) (W : World), X ∈ L → Below w.heap.size w W → tyY.is S W us X → Calls Tryd.prog 36 #[us.headD .nilIface] W (InP M (P X) W)) :
    Calls Tryd.prog 44 #[v, .string sep, .func (.func 36) #[] #[]] w (InP (L.length * (M + sep.size)) (rowP P sep.data.toList L) w) := by
  have HI := Lib.hid h
  have HFF := Lib.hid HF
  have HLen := Lib.hid hlen
  have HSep := Lib.hid hs
  obtain ⟨p, c, rfl⟩ := h.shape
  obtain ⟨n, hn⟩ : ∃ n, n = L.length := ⟨_, rfl⟩
  have HN := Lib.hid hn
  have hL' : (n : Int) ≤ 1000000 := by omega
  rw [← hn] at HLen HI ⊢
  clear h HF hlen hs hn hL
  go_enter Tryd.func44, Tryd.ntmps44
  go_wp2_with fail
  go_loopw [15] (fun i wr => ∃ (k : Nat) (ts : List (List UInt8)), k ≤ n ∧ i = .int .i64 k ∧ Hid (JnS P sep M L w k ts wr)) (fun i _ => n - (intOf i).toNat)
  case atStart => exact ⟨0, [], Nat.zero_le _, rfl, Lib.hid (JnS.zero w)⟩
  case round =>
    obtain ⟨k, ts, hk, rfl, HJ⟩ := hrel
    have h0 : (0 : Int) ≤ (k : Int) := by omega
    by_cases hlt : k < n
    · have hlt' : (k : Int) < (n : Int) := by omega
      have hkn : k < L.length := by rw [← HN.out]; exact hlt
      obtain ⟨b, off, c1, us, e1, hbl, hu, hc⟩ := row_at (HI.out.in_below (show Below w.heap.size w wr from HJ.out.below)) hkn
      injection e1 with e1 hq1 hq2
      subst e1
      clear hq1 hq2
      have hmem : L[k] ∈ L := List.getElem_mem hkn
      have hP : ∃ Y, P L[k] = Y ∧ Y = P L[k] := ⟨_, rfl, rfl⟩
      obtain ⟨X, hX⟩ : ∃ X, X = L[k] := ⟨_, rfl⟩
      rw [← hX] at hu hmem
      have HX := Lib.hid hX
      have HMem := Lib.hid hmem
      have hu : us = [.int .i64 X] := hu
      subst hu
      have a0 : wr.cell? ⟨b, off + k, none⟩ = some (.int .i64 X) := by have := hc 0 _ rfl; simpa [tyY] using this
      clear hX hmem hc hP
      have Hal := Lib.hid (Below.refl wr.heap.size wr)
      have HB1 := Lib.hid (show Below w.heap.size w wr from HJ.out.below)
      have HK := Lib.hid (isbu_keep HJ.out.bu Hal.out)
      go_wp2_with fail
      refine (HFF.out X [.int .i64 X] wr HMem.out HB1.out (show tyY.is S _ [.int .i64 X] X from rfl)).mono ?_
      rintro y w3 ⟨r, bb, rfl, g1, g2, g3⟩
      have HE := Lib.hid (And.intro g1 (And.intro g2 g3))
      have HK3 := Lib.hid (isbu_keep HK.out g3)
      have HB3 := Lib.hid (HB1.out.trans (g3.mono HB1.out.size))
      clear g1 g2 g3
      cases bb with
      | false =>
        go_wp2_with fail
        go_ret2
        exact .no (row_none _ hkn (by rw [← HX.out, HE.out.2.1]; rfl)) (empty_le _) HB3.out
      | true =>
        have HT := Lib.hid (row_step (x := r.data.toList) HJ.out.all_ hkn (by rw [← HX.out, HE.out.2.1]; rfl))
        have HSh : Hid (∀ t ∈ ts ++ [r.data.toList], t.length ≤ M) := Lib.hid (fun t ht => by
          rcases List.mem_append.1 ht with ht | ht
          · exact HJ.out.short t ht
          · rw [List.mem_singleton.1 ht, ← Lib.size_eq]; exact HE.out.1)
        have HTl := Lib.hid (row_len HJ.out.all_ (by omega))
        have HRoom : Hid ((Lib.byteCells (joinS sep.data.toList ts)).length + sep.size + r.size ≤ 100000000) := Lib.hid (by
          rw [bytes_len]
          have h1 := HJ.out.len (by omega)
          have h2 := mul_room (z := M + sep.size) hlt
          have h3 := HE.out.1
          have h4 := HLen.out
          omega)
        have HBs := Lib.hid (Nat.le_trans HB1.out.size HE.out.2.2.size)
        by_cases hk0 : k = 0
        · have hn1 : ¬ 0 < k := by omega
          have hn2 : ¬ (0 : Int) < (k : Int) := by omega
          have HS := Lib.hid (wstr_bu w.heap.size w.heap.size (Lib.byteCells (joinS sep.data.toList ts)) r w3 HK3.out (by have := HRoom.out; omega) HBs.out)
          go_wp2_with (go_at_call 48; refine HS.out.mono ?_; rintro e w4 ⟨rfl, hb6, hb7, hb8⟩; have HB6 := Lib.hid hb6; have HB7 := Lib.hid hb7; clear hb6 hb7 hb8 HS)
          go_roundw
          case rel => exact ⟨k + 1, ts ++ [r.data.toList], by omega, by go_num, Lib.hid ⟨HT.out, HSh.out, by
            rw [joinS_snoc, if_pos (by rw [HTl.out]; exact hk0), bytes_app, ← text_cells]
            exact .inr HB6.out, HB3.out.trans HB7.out, bu_lt HB6.out⟩⟩
          case measure => simp [intOf]; omega
        · have hn1 : 0 < k := by omega
          have hn2 : (0 : Int) < (k : Int) := by omega
          have HY := Lib.hid (wstr_bu w.heap.size w.heap.size (Lib.byteCells (joinS sep.data.toList ts)) sep w3 HK3.out (by have := HRoom.out; omega) HBs.out)
          go_wp2_with (go_at_call 48; refine HY.out.mono ?_; rintro e w4 ⟨rfl, hb6, hb7, hb8⟩; have HB6 := Lib.hid hb6; have HB7 := Lib.hid hb7; clear hb6 hb7 hb8 HY)
          have HS := Lib.hid (wstr_bu w.heap.size w.heap.size _ r w4 (.inr HB6.out) (by rw [List.length_append, Lib.strCells_length]; have := HRoom.out; omega) (Nat.le_of_lt (bu_lt HB6.out)))
          go_wp2_with (go_at_call 48; refine HS.out.mono ?_; rintro e w5 ⟨rfl, hb6, hb7, hb8⟩; have HB8 := Lib.hid hb6; have HB9 := Lib.hid hb7; clear hb6 hb7 hb8 HS)
          go_roundw
          case rel => exact ⟨k + 1, ts ++ [r.data.toList], by omega, by go_num, Lib.hid ⟨HT.out, HSh.out, by
            rw [joinS_snoc, if_neg (by rw [HTl.out]; exact hk0), bytes_app, bytes_app, ← text_cells, ← text_cells, ← List.append_assoc]
            exact .inr HB8.out, (HB3.out.trans HB7.out).trans HB9.out, bu_lt HB8.out⟩⟩
          case measure => simp [intOf]; omega
    · have hge : ¬ (k : Int) < (n : Int) := by omega
      have HE := Lib.hid (row_all sep.data.toList HJ.out.all_ (by rw [← HN.out]; omega))
      have HS := Lib.hid (Tryd.Builder_String_any w.heap.size w.heap.size (joinS sep.data.toList ts) wr HJ.out.bu (by exact Nat.le_of_lt HJ.out.lt))
      go_wp2_with (go_at_call 49; refine HS.out.mono ?_; rintro e w3 ⟨rfl, hb3⟩)
      go_ret2
      refine .yes HE.out ?_ (HJ.out.below.trans hb3)
      rw [Lib.size_eq]
      exact Nat.le_trans (HJ.out.len (by have := HN.out; omega)) (mul_le' hk)
end
section
open Go Go.RowKit Go.Shelf

set_option maxRecDepth 100000 in
set_option maxHeartbeats 4000000 in
theorem pjoinPa_any {P : (List UInt8 × Int) → Option (List UInt8)} {M : Nat} (sep : ByteArray) (v : Value) (L : List (List UInt8 × Int)) (S : Nat → Prop) (w : World) (h : RowIn paY S w v L) (hs : sep.size ≤ 1000) (hlen : L.length * (M + sep.size) ≤ 50000000) (hL : L.length ≤ 1000000)
    (HF : ∀ (X : (List UInt8 × Int)) (us : List Value) (W : World), X ∈ L → Below w.heap.size w W → paY.is S W us X → Calls Tryd.prog 32 #[.agg us.toArray] W (InP M (P X) W)) :
    Calls Tryd.prog 42 #[v, .string sep, .func (.func 32) #[] #[]] w (InP (L.length * (M + sep.size)) (rowP P sep.data.toList L) w) := by
  have HI := Lib.hid h
  have HFF := Lib.hid HF
  have HLen := Lib.hid hlen
  have HSep := Lib.hid hs
  obtain ⟨p, c, rfl⟩ := h.shape
  obtain ⟨n, hn⟩ : ∃ n, n = L.length := ⟨_, rfl⟩
  have HN := Lib.hid hn
  have hL' : (n : Int) ≤ 1000000 := by omega
  rw [← hn] at HLen HI ⊢
  clear h HF hlen hs hn hL
  go_enter Tryd.func42, Tryd.ntmps42
  go_wp2_with fail
  go_loopw [15] (fun i wr => ∃ (k : Nat) (ts : List (List UInt8)), k ≤ n ∧ i = .int .i64 k ∧ Hid (JnS P sep M L w k ts wr)) (fun i _ => n - (intOf i).toNat)
  case atStart => exact ⟨0, [], Nat.zero_le _, rfl, Lib.hid (JnS.zero w)⟩
  case round =>
    obtain ⟨k, ts, hk, rfl, HJ⟩ := hrel
    have h0 : (0 : Int) ≤ (k : Int) := by omega
    by_cases hlt : k < n
    · have hlt' : (k : Int) < (n : Int) := by omega
      have hkn : k < L.length := by rw [← HN.out]; exact hlt
      obtain ⟨b, off, c1, us, e1, hbl, hu, hc⟩ := row_at (HI.out.in_below (show Below w.heap.size w wr from HJ.out.below)) hkn
      injection e1 with e1 hq1 hq2
      subst e1
      clear hq1 hq2
      have hmem : L[k] ∈ L := List.getElem_mem hkn
      have hP : ∃ Y, P L[k] = Y ∧ Y = P L[k] := ⟨_, rfl, rfl⟩
      obtain ⟨X, hX⟩ : ∃ X, X = L[k] := ⟨_, rfl⟩
      rw [← hX] at hu hmem
      have HX := Lib.hid hX
      have HMem := Lib.hid hmem
      have hu : us = [.string ⟨X.1.toArray⟩, .int .i64 X.2] := hu
      subst hu
      have a0 : wr.cell? ⟨b, off + k * 2, none⟩ = some (.string ⟨X.1.toArray⟩) := hc 0 _ rfl
      have a1 : wr.cell? ⟨b, off + k * 2 + 1, none⟩ = some (.int .i64 X.2) := hc 1 _ rfl
      clear hX hmem hc hP
      have Hal := Lib.hid ((Below.refl wr.heap.size wr).alloc (Nat.le_refl _) (.cells #[.string ⟨X.1.toArray⟩, .int .i64 X.2] 60))
      have HB1 := Lib.hid (HJ.out.below.alloc HJ.out.below.size (.cells #[.string ⟨X.1.toArray⟩, .int .i64 X.2] 60))
      have HK := Lib.hid (isbu_keep HJ.out.bu Hal.out)
      go_wp2_with fail
      refine (HFF.out X [.string ⟨X.1.toArray⟩, .int .i64 X.2] (wr.alloc (.cells #[.string ⟨X.1.toArray⟩, .int .i64 X.2] 60)) HMem.out HB1.out (show paY.is S _ [.string ⟨X.1.toArray⟩, .int .i64 X.2] X from rfl)).mono ?_
      rintro y w3 ⟨r, bb, rfl, g1, g2, g3⟩
      have HE := Lib.hid (And.intro g1 (And.intro g2 g3))
      have HK3 := Lib.hid (isbu_keep HK.out g3)
      have HB3 := Lib.hid (HB1.out.trans (g3.mono HB1.out.size))
      clear g1 g2 g3
      cases bb with
      | false =>
        go_wp2_with fail
        go_ret2
        exact .no (row_none _ hkn (by rw [← HX.out, HE.out.2.1]; rfl)) (empty_le _) HB3.out
      | true =>
        have HT := Lib.hid (row_step (x := r.data.toList) HJ.out.all_ hkn (by rw [← HX.out, HE.out.2.1]; rfl))
        have HSh : Hid (∀ t ∈ ts ++ [r.data.toList], t.length ≤ M) := Lib.hid (fun t ht => by
          rcases List.mem_append.1 ht with ht | ht
          · exact HJ.out.short t ht
          · rw [List.mem_singleton.1 ht, ← Lib.size_eq]; exact HE.out.1)
        have HTl := Lib.hid (row_len HJ.out.all_ (by omega))
        have HRoom : Hid ((Lib.byteCells (joinS sep.data.toList ts)).length + sep.size + r.size ≤ 100000000) := Lib.hid (by
          rw [bytes_len]
          have h1 := HJ.out.len (by omega)
          have h2 := mul_room (z := M + sep.size) hlt
          have h3 := HE.out.1
          have h4 := HLen.out
          omega)
        have HBs := Lib.hid (Nat.le_trans HB1.out.size HE.out.2.2.size)
        by_cases hk0 : k = 0
        · have hn1 : ¬ 0 < k := by omega
          have hn2 : ¬ (0 : Int) < (k : Int) := by omega
          have HS := Lib.hid (wstr_bu w.heap.size w.heap.size (Lib.byteCells (joinS sep.data.toList ts)) r w3 HK3.out (by have := HRoom.out; omega) HBs.out)
          go_wp2_with (go_at_call 48; refine HS.out.mono ?_; rintro e w4 ⟨rfl, hb6, hb7, hb8⟩; have HB6 := Lib.hid hb6; have HB7 := Lib.hid hb7; clear hb6 hb7 hb8 HS)
          go_roundw
          case rel => exact ⟨k + 1, ts ++ [r.data.toList], by omega, by go_num, Lib.hid ⟨HT.out, HSh.out, by
            rw [joinS_snoc, if_pos (by rw [HTl.out]; exact hk0), bytes_app, ← text_cells]
            exact .inr HB6.out, HB3.out.trans HB7.out, bu_lt HB6.out⟩⟩
          case measure => simp [intOf]; omega
        · have hn1 : 0 < k := by omega
          have hn2 : (0 : Int) < (k : Int) := by omega
          have HY := Lib.hid (wstr_bu w.heap.size w.heap.size (Lib.byteCells (joinS sep.data.toList ts)) sep w3 HK3.out (by have := HRoom.out; omega) HBs.out)
          go_wp2_with (go_at_call 48; refine HY.out.mono ?_; rintro e w4 ⟨rfl, hb6, hb7, hb8⟩; have HB6 := Lib.hid hb6; have HB7 := Lib.hid hb7; clear hb6 hb7 hb8 HY)
          have HS := Lib.hid (wstr_bu w.heap.size w.heap.size _ r w4 (.inr HB6.out) (by rw [List.length_append, Lib.strCells_length]; have := HRoom.out; omega) (Nat.le_of_lt (bu_lt HB6.out)))
          go_wp2_with (go_at_call 48; refine HS.out.mono ?_; rintro e w5 ⟨rfl, hb6, hb7, hb8⟩; have HB8 := Lib.hid hb6; have HB9 := Lib.hid hb7; clear hb6 hb7 hb8 HS)
          go_roundw
          case rel => exact ⟨k + 1, ts ++ [r.data.toList], by omega, by go_num, Lib.hid ⟨HT.out, HSh.out, by
            rw [joinS_snoc, if_neg (by rw [HTl.out]; exact hk0), bytes_app, bytes_app, ← text_cells, ← text_cells, ← List.append_assoc]
            exact .inr HB8.out, (HB3.out.trans HB7.out).trans HB9.out, bu_lt HB8.out⟩⟩
          case measure => simp [intOf]; omega
    · have hge : ¬ (k : Int) < (n : Int) := by omega
      have HE := Lib.hid (row_all sep.data.toList HJ.out.all_ (by rw [← HN.out]; omega))
      have HS := Lib.hid (Tryd.Builder_String_any w.heap.size w.heap.size (joinS sep.data.toList ts) wr HJ.out.bu (by exact Nat.le_of_lt HJ.out.lt))
      go_wp2_with (go_at_call 49; refine HS.out.mono ?_; rintro e w3 ⟨rfl, hb3⟩)
      go_ret2
      refine .yes HE.out ?_ (HJ.out.below.trans hb3)
      rw [Lib.size_eq]
      exact Nat.le_trans (HJ.out.len (by have := HN.out; omega)) (mul_le' hk)
end
section
open Go Go.RowKit Go.Shelf

set_option maxRecDepth 100000 in
set_option maxHeartbeats 4000000 in
theorem pjoinAc_any {P : ActL → Option (List UInt8)} {M : Nat} (sep : ByteArray) (v : Value) (L : List ActL) (S : Nat → Prop) (w : World) (h : RowIn acY S w v L) (hs : sep.size ≤ 1000) (hlen : L.length * (M + sep.size) ≤ 50000000) (hL : L.length ≤ 1000000)
    (HF : ∀ (X : ActL) (us : List Value) (W : World), X ∈ L → Below w.heap.size w W → acY.is S W us X → Calls Tryd.prog 34 #[.agg us.toArray] W (InP M (P X) W)) :
    Calls Tryd.prog 43 #[v, .string sep, .func (.func 34) #[] #[]] w (InP (L.length * (M + sep.size)) (rowP P sep.data.toList L) w) := by
  have HI := Lib.hid h
  have HFF := Lib.hid HF
  have HLen := Lib.hid hlen
  have HSep := Lib.hid hs
  obtain ⟨p, c, rfl⟩ := h.shape
  obtain ⟨n, hn⟩ : ∃ n, n = L.length := ⟨_, rfl⟩
  have HN := Lib.hid hn
  have hL' : (n : Int) ≤ 1000000 := by omega
  rw [← hn] at HLen HI ⊢
  clear h HF hlen hs hn hL
  go_enter Tryd.func43, Tryd.ntmps43
  go_wp2_with fail
  go_loopw [15] (fun i wr => ∃ (k : Nat) (ts : List (List UInt8)), k ≤ n ∧ i = .int .i64 k ∧ Hid (JnS P sep M L w k ts wr)) (fun i _ => n - (intOf i).toNat)
  case atStart => exact ⟨0, [], Nat.zero_le _, rfl, Lib.hid (JnS.zero w)⟩
  case round =>
    obtain ⟨k, ts, hk, rfl, HJ⟩ := hrel
    have h0 : (0 : Int) ≤ (k : Int) := by omega
    by_cases hlt : k < n
    · have hlt' : (k : Int) < (n : Int) := by omega
      have hkn : k < L.length := by rw [← HN.out]; exact hlt
      obtain ⟨b, off, c1, us, e1, hbl, hu, hc⟩ := row_at (HI.out.in_below (show Below w.heap.size w wr from HJ.out.below)) hkn
      injection e1 with e1 hq1 hq2
      subst e1
      clear hq1 hq2
      have hmem : L[k] ∈ L := List.getElem_mem hkn
      have hP : ∃ Y, P L[k] = Y ∧ Y = P L[k] := ⟨_, rfl, rfl⟩
      obtain ⟨X, hX⟩ : ∃ X, X = L[k] := ⟨_, rfl⟩
      rw [← hX] at hu hmem
      have HX := Lib.hid hX
      have HMem := Lib.hid hmem
      obtain ⟨u, rfl, hu⟩ := hu
      obtain ⟨pu, cu, rfl⟩ := hu.shape
      have HRu := Lib.hid hu
      clear hu
      have a0 : wr.cell? ⟨b, off + k * 3, none⟩ = some (.bool X.plus) := hc 0 _ rfl
      have a1 : wr.cell? ⟨b, off + k * 3 + 1, none⟩ = some (.string ⟨X.atom.pred.toArray⟩) := hc 1 _ rfl
      have a2 : wr.cell? ⟨b, off + k * 3 + 2, none⟩ = some (.slice pu X.atom.args.length cu) := hc 2 _ rfl
      clear hX hmem hc hP
      have Hal := Lib.hid ((Below.refl wr.heap.size wr).alloc (Nat.le_refl _) (.cells #[.bool X.plus, .string ⟨X.atom.pred.toArray⟩, .slice pu X.atom.args.length cu] 62))
      have HB1 := Lib.hid (HJ.out.below.alloc HJ.out.below.size (.cells #[.bool X.plus, .string ⟨X.atom.pred.toArray⟩, .slice pu X.atom.args.length cu] 62))
      have HK := Lib.hid (isbu_keep HJ.out.bu Hal.out)
      go_wp2_with fail
      refine (HFF.out X [.bool X.plus, .string ⟨X.atom.pred.toArray⟩, .slice pu X.atom.args.length cu] (wr.alloc (.cells #[.bool X.plus, .string ⟨X.atom.pred.toArray⟩, .slice pu X.atom.args.length cu] 62)) HMem.out HB1.out (show acY.is S _ [.bool X.plus, .string ⟨X.atom.pred.toArray⟩, .slice pu X.atom.args.length cu] X from ⟨.slice pu _ cu, rfl, HRu.out.in_below Hal.out⟩)).mono ?_
      rintro y w3 ⟨r, bb, rfl, g1, g2, g3⟩
      have HE := Lib.hid (And.intro g1 (And.intro g2 g3))
      have HK3 := Lib.hid (isbu_keep HK.out g3)
      have HB3 := Lib.hid (HB1.out.trans (g3.mono HB1.out.size))
      clear g1 g2 g3
      cases bb with
      | false =>
        go_wp2_with fail
        go_ret2
        exact .no (row_none _ hkn (by rw [← HX.out, HE.out.2.1]; rfl)) (empty_le _) HB3.out
      | true =>
        have HT := Lib.hid (row_step (x := r.data.toList) HJ.out.all_ hkn (by rw [← HX.out, HE.out.2.1]; rfl))
        have HSh : Hid (∀ t ∈ ts ++ [r.data.toList], t.length ≤ M) := Lib.hid (fun t ht => by
          rcases List.mem_append.1 ht with ht | ht
          · exact HJ.out.short t ht
          · rw [List.mem_singleton.1 ht, ← Lib.size_eq]; exact HE.out.1)
        have HTl := Lib.hid (row_len HJ.out.all_ (by omega))
        have HRoom : Hid ((Lib.byteCells (joinS sep.data.toList ts)).length + sep.size + r.size ≤ 100000000) := Lib.hid (by
          rw [bytes_len]
          have h1 := HJ.out.len (by omega)
          have h2 := mul_room (z := M + sep.size) hlt
          have h3 := HE.out.1
          have h4 := HLen.out
          omega)
        have HBs := Lib.hid (Nat.le_trans HB1.out.size HE.out.2.2.size)
        by_cases hk0 : k = 0
        · have hn1 : ¬ 0 < k := by omega
          have hn2 : ¬ (0 : Int) < (k : Int) := by omega
          have HS := Lib.hid (wstr_bu w.heap.size w.heap.size (Lib.byteCells (joinS sep.data.toList ts)) r w3 HK3.out (by have := HRoom.out; omega) HBs.out)
          go_wp2_with (go_at_call 48; refine HS.out.mono ?_; rintro e w4 ⟨rfl, hb6, hb7, hb8⟩; have HB6 := Lib.hid hb6; have HB7 := Lib.hid hb7; clear hb6 hb7 hb8 HS)
          go_roundw
          case rel => exact ⟨k + 1, ts ++ [r.data.toList], by omega, by go_num, Lib.hid ⟨HT.out, HSh.out, by
            rw [joinS_snoc, if_pos (by rw [HTl.out]; exact hk0), bytes_app, ← text_cells]
            exact .inr HB6.out, HB3.out.trans HB7.out, bu_lt HB6.out⟩⟩
          case measure => simp [intOf]; omega
        · have hn1 : 0 < k := by omega
          have hn2 : (0 : Int) < (k : Int) := by omega
          have HY := Lib.hid (wstr_bu w.heap.size w.heap.size (Lib.byteCells (joinS sep.data.toList ts)) sep w3 HK3.out (by have := HRoom.out; omega) HBs.out)
          go_wp2_with (go_at_call 48; refine HY.out.mono ?_; rintro e w4 ⟨rfl, hb6, hb7, hb8⟩; have HB6 := Lib.hid hb6; have HB7 := Lib.hid hb7; clear hb6 hb7 hb8 HY)
          have HS := Lib.hid (wstr_bu w.heap.size w.heap.size _ r w4 (.inr HB6.out) (by rw [List.length_append, Lib.strCells_length]; have := HRoom.out; omega) (Nat.le_of_lt (bu_lt HB6.out)))
          go_wp2_with (go_at_call 48; refine HS.out.mono ?_; rintro e w5 ⟨rfl, hb6, hb7, hb8⟩; have HB8 := Lib.hid hb6; have HB9 := Lib.hid hb7; clear hb6 hb7 hb8 HS)
          go_roundw
          case rel => exact ⟨k + 1, ts ++ [r.data.toList], by omega, by go_num, Lib.hid ⟨HT.out, HSh.out, by
            rw [joinS_snoc, if_neg (by rw [HTl.out]; exact hk0), bytes_app, bytes_app, ← text_cells, ← text_cells, ← List.append_assoc]
            exact .inr HB8.out, (HB3.out.trans HB7.out).trans HB9.out, bu_lt HB8.out⟩⟩
          case measure => simp [intOf]; omega
    · have hge : ¬ (k : Int) < (n : Int) := by omega
      have HE := Lib.hid (row_all sep.data.toList HJ.out.all_ (by rw [← HN.out]; omega))
      have HS := Lib.hid (Tryd.Builder_String_any w.heap.size w.heap.size (joinS sep.data.toList ts) wr HJ.out.bu (by exact Nat.le_of_lt HJ.out.lt))
      go_wp2_with (go_at_call 49; refine HS.out.mono ?_; rintro e w3 ⟨rfl, hb3⟩)
      go_ret2
      refine .yes HE.out ?_ (HJ.out.below.trans hb3)
      rw [Lib.size_eq]
      exact Nat.le_trans (HJ.out.len (by have := HN.out; omega)) (mul_le' hk)
end
section
open Go Go.RowKit Go.Shelf

set_option maxRecDepth 100000 in
set_option maxHeartbeats 4000000 in
theorem pjoinLi_any {P : LiL → Option (List UInt8)} {M : Nat} (sep : ByteArray) (v : Value) (L : List LiL) (S : Nat → Prop) (w : World) (h : RowIn liY S w v L) (hs : sep.size ≤ 1000) (hlen : L.length * (M + sep.size) ≤ 50000000) (hL : L.length ≤ 1000000)
    (HF : ∀ (X : LiL) (us : List Value) (W : World), X ∈ L → Below w.heap.size w W → liY.is S W us X → Calls Tryd.prog 30 #[.agg us.toArray] W (InP M (P X) W)) :
    Calls Tryd.prog 40 #[v, .string sep, .func (.func 30) #[] #[]] w (InP (L.length * (M + sep.size)) (rowP P sep.data.toList L) w) := by
  have HI := Lib.hid h
  have HFF := Lib.hid HF
  have HLen := Lib.hid hlen
  have HSep := Lib.hid hs
  obtain ⟨p, c, rfl⟩ := h.shape
  obtain ⟨n, hn⟩ : ∃ n, n = L.length := ⟨_, rfl⟩
  have HN := Lib.hid hn
  have hL' : (n : Int) ≤ 1000000 := by omega
  rw [← hn] at HLen HI ⊢
  clear h HF hlen hs hn hL
  go_enter Tryd.func40, Tryd.ntmps40
  go_wp2_with fail
  go_loopw [15] (fun i wr => ∃ (k : Nat) (ts : List (List UInt8)), k ≤ n ∧ i = .int .i64 k ∧ Hid (JnS P sep M L w k ts wr)) (fun i _ => n - (intOf i).toNat)
  case atStart => exact ⟨0, [], Nat.zero_le _, rfl, Lib.hid (JnS.zero w)⟩
  case round =>
    obtain ⟨k, ts, hk, rfl, HJ⟩ := hrel
    have h0 : (0 : Int) ≤ (k : Int) := by omega
    by_cases hlt : k < n
    · have hlt' : (k : Int) < (n : Int) := by omega
      have hkn : k < L.length := by rw [← HN.out]; exact hlt
      obtain ⟨b, off, c1, us, e1, hbl, hu, hc⟩ := row_at (HI.out.in_below (show Below w.heap.size w wr from HJ.out.below)) hkn
      injection e1 with e1 hq1 hq2
      subst e1
      clear hq1 hq2
      have hmem : L[k] ∈ L := List.getElem_mem hkn
      have hP : ∃ Y, P L[k] = Y ∧ Y = P L[k] := ⟨_, rfl, rfl⟩
      obtain ⟨X, hX⟩ : ∃ X, X = L[k] := ⟨_, rfl⟩
      rw [← hX] at hu hmem
      have HX := Lib.hid hX
      have HMem := Lib.hid hmem
      obtain ⟨u, rfl, hu⟩ := hu
      obtain ⟨pu, cu, rfl⟩ := hu.shape
      have HRu := Lib.hid hu
      clear hu
      have a0 : wr.cell? ⟨b, off + k * 14, none⟩ = some (.int .i64 X.kind) := hc 0 _ rfl
      have a1 : wr.cell? ⟨b, off + k * 14 + 1, none⟩ = some (.string ⟨X.atom.pred.toArray⟩) := hc 1 _ rfl
      have a2 : wr.cell? ⟨b, off + k * 14 + 2, none⟩ = some (.slice pu X.atom.args.length cu) := hc 2 _ rfl
      have a3 : wr.cell? ⟨b, off + k * 14 + 3, none⟩ = some (.int .i64 X.op) := hc 3 _ rfl
      have a4 : wr.cell? ⟨b, off + k * 14 + 4, none⟩ = some (.int .i64 X.a.kind) := hc 4 _ rfl
      have a5 : wr.cell? ⟨b, off + k * 14 + 5, none⟩ = some (.string ⟨X.a.name.toArray⟩) := hc 5 _ rfl
      have a6 : wr.cell? ⟨b, off + k * 14 + 6, none⟩ = some (.int .i64 X.a.val.1) := hc 6 _ rfl
      have a7 : wr.cell? ⟨b, off + k * 14 + 7, none⟩ = some (.int .i64 X.a.val.2.1) := hc 7 _ rfl
      have a8 : wr.cell? ⟨b, off + k * 14 + 8, none⟩ = some (.string X.a.val.2.2) := hc 8 _ rfl
      have a9 : wr.cell? ⟨b, off + k * 14 + 9, none⟩ = some (.int .i64 X.b.kind) := hc 9 _ rfl
      have a10 : wr.cell? ⟨b, off + k * 14 + 10, none⟩ = some (.string ⟨X.b.name.toArray⟩) := hc 10 _ rfl
      have a11 : wr.cell? ⟨b, off + k * 14 + 11, none⟩ = some (.int .i64 X.b.val.1) := hc 11 _ rfl
      have a12 : wr.cell? ⟨b, off + k * 14 + 12, none⟩ = some (.int .i64 X.b.val.2.1) := hc 12 _ rfl
      have a13 : wr.cell? ⟨b, off + k * 14 + 13, none⟩ = some (.string X.b.val.2.2) := hc 13 _ rfl
      clear hX hmem hc hP
      have Hal := Lib.hid ((Below.refl wr.heap.size wr).alloc (Nat.le_refl _) (.cells #[.int .i64 X.kind, .string ⟨X.atom.pred.toArray⟩, .slice pu X.atom.args.length cu, .int .i64 X.op, .int .i64 X.a.kind, .string ⟨X.a.name.toArray⟩, .int .i64 X.a.val.1, .int .i64 X.a.val.2.1, .string X.a.val.2.2, .int .i64 X.b.kind, .string ⟨X.b.name.toArray⟩, .int .i64 X.b.val.1, .int .i64 X.b.val.2.1, .string X.b.val.2.2] 57))
      have HB1 := Lib.hid (HJ.out.below.alloc HJ.out.below.size (.cells #[.int .i64 X.kind, .string ⟨X.atom.pred.toArray⟩, .slice pu X.atom.args.length cu, .int .i64 X.op, .int .i64 X.a.kind, .string ⟨X.a.name.toArray⟩, .int .i64 X.a.val.1, .int .i64 X.a.val.2.1, .string X.a.val.2.2, .int .i64 X.b.kind, .string ⟨X.b.name.toArray⟩, .int .i64 X.b.val.1, .int .i64 X.b.val.2.1, .string X.b.val.2.2] 57))
      have HK := Lib.hid (isbu_keep HJ.out.bu Hal.out)
      go_wp2_with fail
      refine (HFF.out X [.int .i64 X.kind, .string ⟨X.atom.pred.toArray⟩, .slice pu X.atom.args.length cu, .int .i64 X.op, .int .i64 X.a.kind, .string ⟨X.a.name.toArray⟩, .int .i64 X.a.val.1, .int .i64 X.a.val.2.1, .string X.a.val.2.2, .int .i64 X.b.kind, .string ⟨X.b.name.toArray⟩, .int .i64 X.b.val.1, .int .i64 X.b.val.2.1, .string X.b.val.2.2] (wr.alloc (.cells #[.int .i64 X.kind, .string ⟨X.atom.pred.toArray⟩, .slice pu X.atom.args.length cu, .int .i64 X.op, .int .i64 X.a.kind, .string ⟨X.a.name.toArray⟩, .int .i64 X.a.val.1, .int .i64 X.a.val.2.1, .string X.a.val.2.2, .int .i64 X.b.kind, .string ⟨X.b.name.toArray⟩, .int .i64 X.b.val.1, .int .i64 X.b.val.2.1, .string X.b.val.2.2] 57)) HMem.out HB1.out (show liY.is S _ [.int .i64 X.kind, .string ⟨X.atom.pred.toArray⟩, .slice pu X.atom.args.length cu, .int .i64 X.op, .int .i64 X.a.kind, .string ⟨X.a.name.toArray⟩, .int .i64 X.a.val.1, .int .i64 X.a.val.2.1, .string X.a.val.2.2, .int .i64 X.b.kind, .string ⟨X.b.name.toArray⟩, .int .i64 X.b.val.1, .int .i64 X.b.val.2.1, .string X.b.val.2.2] X from ⟨.slice pu _ cu, rfl, HRu.out.in_below Hal.out⟩)).mono ?_
      rintro y w3 ⟨r, bb, rfl, g1, g2, g3⟩
      have HE := Lib.hid (And.intro g1 (And.intro g2 g3))
      have HK3 := Lib.hid (isbu_keep HK.out g3)
      have HB3 := Lib.hid (HB1.out.trans (g3.mono HB1.out.size))
      clear g1 g2 g3
      cases bb with
      | false =>
        go_wp2_with fail
        go_ret2
        exact .no (row_none _ hkn (by rw [← HX.out, HE.out.2.1]; rfl)) (empty_le _) HB3.out
      | true =>
        have HT := Lib.hid (row_step (x := r.data.toList) HJ.out.all_ hkn (by rw [← HX.out, HE.out.2.1]; rfl))
        have HSh : Hid (∀ t ∈ ts ++ [r.data.toList], t.length ≤ M) := Lib.hid (fun t ht => by
          rcases List.mem_append.1 ht with ht | ht
          · exact HJ.out.short t ht
          · rw [List.mem_singleton.1 ht, ← Lib.size_eq]; exact HE.out.1)
        have HTl := Lib.hid (row_len HJ.out.all_ (by omega))
        have HRoom : Hid ((Lib.byteCells (joinS sep.data.toList ts)).length + sep.size + r.size ≤ 100000000) := Lib.hid (by
          rw [bytes_len]
          have h1 := HJ.out.len (by omega)
          have h2 := mul_room (z := M + sep.size) hlt
          have h3 := HE.out.1
          have h4 := HLen.out
          omega)
        have HBs := Lib.hid (Nat.le_trans HB1.out.size HE.out.2.2.size)
        by_cases hk0 : k = 0
        · have hn1 : ¬ 0 < k := by omega
          have hn2 : ¬ (0 : Int) < (k : Int) := by omega
          have HS := Lib.hid (wstr_bu w.heap.size w.heap.size (Lib.byteCells (joinS sep.data.toList ts)) r w3 HK3.out (by have := HRoom.out; omega) HBs.out)
          go_wp2_with (go_at_call 48; refine HS.out.mono ?_; rintro e w4 ⟨rfl, hb6, hb7, hb8⟩; have HB6 := Lib.hid hb6; have HB7 := Lib.hid hb7; clear hb6 hb7 hb8 HS)
          go_roundw
          case rel => exact ⟨k + 1, ts ++ [r.data.toList], by omega, by go_num, Lib.hid ⟨HT.out, HSh.out, by
            rw [joinS_snoc, if_pos (by rw [HTl.out]; exact hk0), bytes_app, ← text_cells]
            exact .inr HB6.out, HB3.out.trans HB7.out, bu_lt HB6.out⟩⟩
          case measure => simp [intOf]; omega
        · have hn1 : 0 < k := by omega
          have hn2 : (0 : Int) < (k : Int) := by omega
          have HY := Lib.hid (wstr_bu w.heap.size w.heap.size (Lib.byteCells (joinS sep.data.toList ts)) sep w3 HK3.out (by have := HRoom.out; omega) HBs.out)
          go_wp2_with (go_at_call 48; refine HY.out.mono ?_; rintro e w4 ⟨rfl, hb6, hb7, hb8⟩; have HB6 := Lib.hid hb6; have HB7 := Lib.hid hb7; clear hb6 hb7 hb8 HY)
          have HS := Lib.hid (wstr_bu w.heap.size w.heap.size _ r w4 (.inr HB6.out) (by rw [List.length_append, Lib.strCells_length]; have := HRoom.out; omega) (Nat.le_of_lt (bu_lt HB6.out)))
          go_wp2_with (go_at_call 48; refine HS.out.mono ?_; rintro e w5 ⟨rfl, hb6, hb7, hb8⟩; have HB8 := Lib.hid hb6; have HB9 := Lib.hid hb7; clear hb6 hb7 hb8 HS)
          go_roundw
          case rel => exact ⟨k + 1, ts ++ [r.data.toList], by omega, by go_num, Lib.hid ⟨HT.out, HSh.out, by
            rw [joinS_snoc, if_neg (by rw [HTl.out]; exact hk0), bytes_app, bytes_app, ← text_cells, ← text_cells, ← List.append_assoc]
            exact .inr HB8.out, (HB3.out.trans HB7.out).trans HB9.out, bu_lt HB8.out⟩⟩
          case measure => simp [intOf]; omega
    · have hge : ¬ (k : Int) < (n : Int) := by omega
      have HE := Lib.hid (row_all sep.data.toList HJ.out.all_ (by rw [← HN.out]; omega))
      have HS := Lib.hid (Tryd.Builder_String_any w.heap.size w.heap.size (joinS sep.data.toList ts) wr HJ.out.bu (by exact Nat.le_of_lt HJ.out.lt))
      go_wp2_with (go_at_call 49; refine HS.out.mono ?_; rintro e w3 ⟨rfl, hb3⟩)
      go_ret2
      refine .yes HE.out ?_ (HJ.out.below.trans hb3)
      rw [Lib.size_eq]
      exact Nat.le_trans (HJ.out.len (by have := HN.out; omega)) (mul_le' hk)
end
section
open Go Go.RowKit Go.Shelf

end
section
open Go Go.RowKit Go.Shelf

end
section
open Go Go.RowKit Go.Shelf

end
end Go.Proofs.YtfjpiofinffpfaaDoor
