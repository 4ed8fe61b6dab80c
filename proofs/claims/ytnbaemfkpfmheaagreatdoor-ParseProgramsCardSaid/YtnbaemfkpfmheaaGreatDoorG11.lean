/-
  What the laws' two examples say: a rule of two literals; a text that is no program at its ninth byte.
-/
import Derived.Test.YtnbaemfkpfmheaaGreatDoorLxZ
import Derived.Test.YtnbaemfkpfmheaaGreatDoorG03
namespace Go.Proofs.YtnbaemfkpfmheaaGreatDoor
open Go Go.RowKit

theorem ey_6 (p : Nat) : lexS valL [] p = ([], none) := lexS_end rfl p
theorem ey_5 : lexS valL [32, 46] 7 = ([⟨6, [46], zeroL, 8⟩], none) := by
  rw [lexS_at (l := [32, 46]) (c := 46) (r := []) rfl, lexG_tok (k := 6) (n := 1) (v := zeroL) (rfl)]
  have e := ey_6 9
  show ((⟨6, [46], zeroL, 8⟩ : Wd) :: (lexS valL [] 9).1, (lexS valL [] 9).2) = _
  rw [e]
theorem ey_4 : lexS valL [32, 58, 45, 32, 46] 4 = ([⟨6, [58, 45], zeroL, 5⟩, ⟨6, [46], zeroL, 8⟩], none) := by
  rw [lexS_at (l := [32, 58, 45, 32, 46]) (c := 58) (r := [45, 32, 46]) rfl, lexG_tok (k := 6) (n := 2) (v := zeroL) (rfl)]
  have e := ey_5
  show ((⟨6, [58, 45], zeroL, 5⟩ : Wd) :: (lexS valL [32, 46] 7).1, (lexS valL [32, 46] 7).2) = _
  rw [e]
theorem ey_3 : lexS valL [41, 32, 58, 45, 32, 46] 3 = ([⟨6, [41], zeroL, 3⟩, ⟨6, [58, 45], zeroL, 5⟩, ⟨6, [46], zeroL, 8⟩], none) := by
  rw [lexS_at (l := [41, 32, 58, 45, 32, 46]) (c := 41) (r := [32, 58, 45, 32, 46]) rfl, lexG_tok (k := 6) (n := 1) (v := zeroL) (rfl)]
  have e := ey_4
  show ((⟨6, [41], zeroL, 3⟩ : Wd) :: (lexS valL [32, 58, 45, 32, 46] 4).1, (lexS valL [32, 58, 45, 32, 46] 4).2) = _
  rw [e]
theorem ey_2 : lexS valL [88, 41, 32, 58, 45, 32, 46] 2 = ([⟨2, [88], zeroL, 2⟩, ⟨6, [41], zeroL, 3⟩, ⟨6, [58, 45], zeroL, 5⟩, ⟨6, [46], zeroL, 8⟩], none) := by
  rw [lexS_at (l := [88, 41, 32, 58, 45, 32, 46]) (c := 88) (r := [41, 32, 58, 45, 32, 46]) rfl, lexG_tok (k := 2) (n := 1) (v := zeroL) (rfl)]
  have e := ey_3
  show ((⟨2, [88], zeroL, 2⟩ : Wd) :: (lexS valL [41, 32, 58, 45, 32, 46] 3).1, (lexS valL [41, 32, 58, 45, 32, 46] 3).2) = _
  rw [e]
theorem ey_1 : lexS valL [40, 88, 41, 32, 58, 45, 32, 46] 1 = ([⟨6, [40], zeroL, 1⟩, ⟨2, [88], zeroL, 2⟩, ⟨6, [41], zeroL, 3⟩, ⟨6, [58, 45], zeroL, 5⟩, ⟨6, [46], zeroL, 8⟩], none) := by
  rw [lexS_at (l := [40, 88, 41, 32, 58, 45, 32, 46]) (c := 40) (r := [88, 41, 32, 58, 45, 32, 46]) rfl, lexG_tok (k := 6) (n := 1) (v := zeroL) (rfl)]
  have e := ey_2
  show ((⟨6, [40], zeroL, 1⟩ : Wd) :: (lexS valL [88, 41, 32, 58, 45, 32, 46] 2).1, (lexS valL [88, 41, 32, 58, 45, 32, 46] 2).2) = _
  rw [e]
theorem ey_0 : lexS valL [112, 40, 88, 41, 32, 58, 45, 32, 46] 0 = ([⟨1, [112], zeroL, 0⟩, ⟨6, [40], zeroL, 1⟩, ⟨2, [88], zeroL, 2⟩, ⟨6, [41], zeroL, 3⟩, ⟨6, [58, 45], zeroL, 5⟩, ⟨6, [46], zeroL, 8⟩], none) := by
  rw [lexS_at (l := [112, 40, 88, 41, 32, 58, 45, 32, 46]) (c := 112) (r := [40, 88, 41, 32, 58, 45, 32, 46]) rfl, lexG_tok (k := 1) (n := 1) (v := zeroL) (rfl)]
  have e := ey_1
  show ((⟨1, [112], zeroL, 0⟩ : Wd) :: (lexS valL [40, 88, 41, 32, 58, 45, 32, 46] 1).1, (lexS valL [40, 88, 41, 32, 58, 45, 32, 46] 1).2) = _
  rw [e]
def tX : TmL := ⟨1, [88], zeroL⟩
def tU : TmL := ⟨3, [], zeroL⟩
def tM : TmL := ⟨2, [], (1, -3, ⟨#[]⟩)⟩
def hEx : AtL := ⟨[112], [tX]⟩
def lEx1 : LiL := ⟨1, ⟨[113], [tX, tU]⟩, 0, zeroT, zeroT⟩
def lEx2 : LiL := ⟨3, zeroA, 2, tX, tM⟩
/-- The example's rule. -/
def rEx : RuL := ⟨hEx, [lEx1, lEx2]⟩
theorem z1 : sepL (isM [44]) termR [(2, [88], zeroL), (6, [41], zeroL), (6, [58, 45], zeroL), (1, [113], zeroL), (6, [40], zeroL), (2, [88], zeroL), (6, [44], zeroL), (3, [95], zeroL), (6, [41], zeroL), (6, [44], zeroL), (2, [88], zeroL), (6, [33, 61], zeroL), (4, [45, 51], (1, -3, ⟨#[]⟩)), (6, [46], zeroL)] = .ok [tX] [(6, [41], zeroL), (6, [58, 45], zeroL), (1, [113], zeroL), (6, [40], zeroL), (2, [88], zeroL), (6, [44], zeroL), (3, [95], zeroL), (6, [41], zeroL), (6, [44], zeroL), (2, [88], zeroL), (6, [33, 61], zeroL), (4, [45, 51], (1, -3, ⟨#[]⟩)), (6, [46], zeroL)] := (sep_first fit_term.eats (a := tX) (r := [(6, [41], zeroL), (6, [58, 45], zeroL), (1, [113], zeroL), (6, [40], zeroL), (2, [88], zeroL), (6, [44], zeroL), (3, [95], zeroL), (6, [41], zeroL), (6, [44], zeroL), (2, [88], zeroL), (6, [33, 61], zeroL), (4, [45, 51], (1, -3, ⟨#[]⟩)), (6, [46], zeroL)]) rfl).trans (cont_end rfl)
theorem z2 : sepL (isM [44]) termR [(2, [88], zeroL), (6, [44], zeroL), (3, [95], zeroL), (6, [41], zeroL), (6, [44], zeroL), (2, [88], zeroL), (6, [33, 61], zeroL), (4, [45, 51], (1, -3, ⟨#[]⟩)), (6, [46], zeroL)] = .ok [tX, tU] [(6, [41], zeroL), (6, [44], zeroL), (2, [88], zeroL), (6, [33, 61], zeroL), (4, [45, 51], (1, -3, ⟨#[]⟩)), (6, [46], zeroL)] := (sep_first fit_term.eats (a := tX) (r := [(6, [44], zeroL), (3, [95], zeroL), (6, [41], zeroL), (6, [44], zeroL), (2, [88], zeroL), (6, [33, 61], zeroL), (4, [45, 51], (1, -3, ⟨#[]⟩)), (6, [46], zeroL)]) rfl).trans ((cont_next fit_term.eats (a := tU) (r' := [(6, [41], zeroL), (6, [44], zeroL), (2, [88], zeroL), (6, [33, 61], zeroL), (4, [45, 51], (1, -3, ⟨#[]⟩)), (6, [46], zeroL)]) rfl rfl).trans (cont_end rfl))
theorem rowT_of {l r r2 : List Kt} {zs : List TmL} (h0 : nxt (isM [41]) l = false) (h : sepL (isM [44]) termR l = .ok zs r) (h2 : markR [41] r = .ok () r2) : rowR termR l = .ok zs r2 :=
  (bind_ok (show altR (isM [41]) (pureR []) (sepL (isM [44]) termR) l = .ok zs r by unfold altR; rw [if_neg (by rw [h0]; simp)]; exact h)).trans ((bind_ok h2).trans rfl)
theorem z3 : atomR [(1, [112], zeroL), (6, [40], zeroL), (2, [88], zeroL), (6, [41], zeroL), (6, [58, 45], zeroL), (1, [113], zeroL), (6, [40], zeroL), (2, [88], zeroL), (6, [44], zeroL), (3, [95], zeroL), (6, [41], zeroL), (6, [44], zeroL), (2, [88], zeroL), (6, [33, 61], zeroL), (4, [45, 51], (1, -3, ⟨#[]⟩)), (6, [46], zeroL)] = .ok hEx [(6, [58, 45], zeroL), (1, [113], zeroL), (6, [40], zeroL), (2, [88], zeroL), (6, [44], zeroL), (3, [95], zeroL), (6, [41], zeroL), (6, [44], zeroL), (2, [88], zeroL), (6, [33, 61], zeroL), (4, [45, 51], (1, -3, ⟨#[]⟩)), (6, [46], zeroL)] := (bind_ok (a := [112]) (r := [(6, [40], zeroL), (2, [88], zeroL), (6, [41], zeroL), (6, [58, 45], zeroL), (1, [113], zeroL), (6, [40], zeroL), (2, [88], zeroL), (6, [44], zeroL), (3, [95], zeroL), (6, [41], zeroL), (6, [44], zeroL), (2, [88], zeroL), (6, [33, 61], zeroL), (4, [45, 51], (1, -3, ⟨#[]⟩)), (6, [46], zeroL)]) rfl).trans ((bind_ok (a := ()) (r := [(2, [88], zeroL), (6, [41], zeroL), (6, [58, 45], zeroL), (1, [113], zeroL), (6, [40], zeroL), (2, [88], zeroL), (6, [44], zeroL), (3, [95], zeroL), (6, [41], zeroL), (6, [44], zeroL), (2, [88], zeroL), (6, [33, 61], zeroL), (4, [45, 51], (1, -3, ⟨#[]⟩)), (6, [46], zeroL)]) rfl).trans ((bind_ok (rowT_of rfl z1 (r2 := [(6, [58, 45], zeroL), (1, [113], zeroL), (6, [40], zeroL), (2, [88], zeroL), (6, [44], zeroL), (3, [95], zeroL), (6, [41], zeroL), (6, [44], zeroL), (2, [88], zeroL), (6, [33, 61], zeroL), (4, [45, 51], (1, -3, ⟨#[]⟩)), (6, [46], zeroL)]) rfl)).trans rfl))
theorem z4 : atomR [(1, [113], zeroL), (6, [40], zeroL), (2, [88], zeroL), (6, [44], zeroL), (3, [95], zeroL), (6, [41], zeroL), (6, [44], zeroL), (2, [88], zeroL), (6, [33, 61], zeroL), (4, [45, 51], (1, -3, ⟨#[]⟩)), (6, [46], zeroL)] = .ok ⟨[113], [tX, tU]⟩ [(6, [44], zeroL), (2, [88], zeroL), (6, [33, 61], zeroL), (4, [45, 51], (1, -3, ⟨#[]⟩)), (6, [46], zeroL)] := (bind_ok (a := [113]) (r := [(6, [40], zeroL), (2, [88], zeroL), (6, [44], zeroL), (3, [95], zeroL), (6, [41], zeroL), (6, [44], zeroL), (2, [88], zeroL), (6, [33, 61], zeroL), (4, [45, 51], (1, -3, ⟨#[]⟩)), (6, [46], zeroL)]) rfl).trans ((bind_ok (a := ()) (r := [(2, [88], zeroL), (6, [44], zeroL), (3, [95], zeroL), (6, [41], zeroL), (6, [44], zeroL), (2, [88], zeroL), (6, [33, 61], zeroL), (4, [45, 51], (1, -3, ⟨#[]⟩)), (6, [46], zeroL)]) rfl).trans ((bind_ok (rowT_of rfl z2 (r2 := [(6, [44], zeroL), (2, [88], zeroL), (6, [33, 61], zeroL), (4, [45, 51], (1, -3, ⟨#[]⟩)), (6, [46], zeroL)]) rfl)).trans rfl))
theorem z5 : literalR [(1, [113], zeroL), (6, [40], zeroL), (2, [88], zeroL), (6, [44], zeroL), (3, [95], zeroL), (6, [41], zeroL), (6, [44], zeroL), (2, [88], zeroL), (6, [33, 61], zeroL), (4, [45, 51], (1, -3, ⟨#[]⟩)), (6, [46], zeroL)] = .ok lEx1 [(6, [44], zeroL), (2, [88], zeroL), (6, [33, 61], zeroL), (4, [45, 51], (1, -3, ⟨#[]⟩)), (6, [46], zeroL)] := by
  show bindR atomR (fun a => pureR (LiL.mk 1 a 0 zeroT zeroT)) [(1, [113], zeroL), (6, [40], zeroL), (2, [88], zeroL), (6, [44], zeroL), (3, [95], zeroL), (6, [41], zeroL), (6, [44], zeroL), (2, [88], zeroL), (6, [33, 61], zeroL), (4, [45, 51], (1, -3, ⟨#[]⟩)), (6, [46], zeroL)] = _
  exact (bind_ok z4).trans rfl
theorem z6 : literalR [(2, [88], zeroL), (6, [33, 61], zeroL), (4, [45, 51], (1, -3, ⟨#[]⟩)), (6, [46], zeroL)] = .ok lEx2 [(6, [46], zeroL)] := rfl
theorem z7 : sepL (isM [44]) literalR [(1, [113], zeroL), (6, [40], zeroL), (2, [88], zeroL), (6, [44], zeroL), (3, [95], zeroL), (6, [41], zeroL), (6, [44], zeroL), (2, [88], zeroL), (6, [33, 61], zeroL), (4, [45, 51], (1, -3, ⟨#[]⟩)), (6, [46], zeroL)] = .ok [lEx1, lEx2] [(6, [46], zeroL)] := (sep_first fit_literal.eats z5).trans ((cont_next fit_literal.eats (r := [(6, [44], zeroL), (2, [88], zeroL), (6, [33, 61], zeroL), (4, [45, 51], (1, -3, ⟨#[]⟩)), (6, [46], zeroL)]) (a := lEx2) (r' := [(6, [46], zeroL)]) rfl z6).trans (cont_end rfl))
theorem z8 : ruleR [(1, [112], zeroL), (6, [40], zeroL), (2, [88], zeroL), (6, [41], zeroL), (6, [58, 45], zeroL), (1, [113], zeroL), (6, [40], zeroL), (2, [88], zeroL), (6, [44], zeroL), (3, [95], zeroL), (6, [41], zeroL), (6, [44], zeroL), (2, [88], zeroL), (6, [33, 61], zeroL), (4, [45, 51], (1, -3, ⟨#[]⟩)), (6, [46], zeroL)] = .ok rEx [] := by
  refine (bind_ok z3).trans ?_
  refine (bind_ok (a := [lEx1, lEx2]) (r := []) ?_).trans rfl
  refine (bind_ok (a := [lEx1, lEx2]) (r := [(6, [46], zeroL)]) ?_).trans rfl
  show bindR (tok1 (isM [58, 45])) (fun _ => sepL (isM [44]) literalR) [(6, [58, 45], zeroL), (1, [113], zeroL), (6, [40], zeroL), (2, [88], zeroL), (6, [44], zeroL), (3, [95], zeroL), (6, [41], zeroL), (6, [44], zeroL), (2, [88], zeroL), (6, [33, 61], zeroL), (4, [45, 51], (1, -3, ⟨#[]⟩)), (6, [46], zeroL)] = _
  exact (bind_ok (a := (6, [58, 45], zeroL)) (r := [(1, [113], zeroL), (6, [40], zeroL), (2, [88], zeroL), (6, [44], zeroL), (3, [95], zeroL), (6, [41], zeroL), (6, [44], zeroL), (2, [88], zeroL), (6, [33, 61], zeroL), (4, [45, 51], (1, -3, ⟨#[]⟩)), (6, [46], zeroL)]) rfl).trans z7
theorem say_ex : sayOf valL ruleR [112, 40, 88, 41, 32, 58, 45, 32, 113, 40, 88, 44, 32, 95, 41, 44, 32, 88, 32, 33, 61, 32, 45, 51, 46] = .ok rEx := sayOf_ok (by rw [ex_0]) (by rw [ex_0]; exact z8)
theorem y1 : sepL (isM [44]) termR [(2, [88], zeroL), (6, [41], zeroL), (6, [58, 45], zeroL), (6, [46], zeroL)] = .ok [tX] [(6, [41], zeroL), (6, [58, 45], zeroL), (6, [46], zeroL)] := (sep_first fit_term.eats (a := tX) (r := [(6, [41], zeroL), (6, [58, 45], zeroL), (6, [46], zeroL)]) rfl).trans (cont_end rfl)
theorem y3 : atomR [(1, [112], zeroL), (6, [40], zeroL), (2, [88], zeroL), (6, [41], zeroL), (6, [58, 45], zeroL), (6, [46], zeroL)] = .ok hEx [(6, [58, 45], zeroL), (6, [46], zeroL)] := (bind_ok (a := [112]) (r := [(6, [40], zeroL), (2, [88], zeroL), (6, [41], zeroL), (6, [58, 45], zeroL), (6, [46], zeroL)]) rfl).trans ((bind_ok (a := ()) (r := [(2, [88], zeroL), (6, [41], zeroL), (6, [58, 45], zeroL), (6, [46], zeroL)]) rfl).trans ((bind_ok (rowT_of rfl y1 (r2 := [(6, [58, 45], zeroL), (6, [46], zeroL)]) rfl)).trans rfl))
theorem y4 : literalR [(6, [46], zeroL)] = .bad [(6, [46], zeroL)] := rfl
theorem y5 : ruleR [(1, [112], zeroL), (6, [40], zeroL), (2, [88], zeroL), (6, [41], zeroL), (6, [58, 45], zeroL), (6, [46], zeroL)] = .bad [(6, [46], zeroL)] := by
  refine (bind_ok y3).trans ?_
  refine bind_bad ?_
  refine bind_bad ?_
  show bindR (tok1 (isM [58, 45])) (fun _ => sepL (isM [44]) literalR) [(6, [58, 45], zeroL), (6, [46], zeroL)] = _
  exact (bind_ok (a := (6, [58, 45], zeroL)) (r := [(6, [46], zeroL)]) rfl).trans (sep_bad fit_literal.eats y4)
theorem y6 : progR [(1, [112], zeroL), (6, [40], zeroL), (2, [88], zeroL), (6, [41], zeroL), (6, [58, 45], zeroL), (6, [46], zeroL)] = .bad [(6, [46], zeroL)] := by
  rw [progR_eq (by simp)]
  have : clauseR [(1, [112], zeroL), (6, [40], zeroL), (2, [88], zeroL), (6, [41], zeroL), (6, [58, 45], zeroL), (6, [46], zeroL)] = .bad [(6, [46], zeroL)] := by
    show bindR ruleR (fun r => pureR (ClL.rule r)) [(1, [112], zeroL), (6, [40], zeroL), (2, [88], zeroL), (6, [41], zeroL), (6, [58, 45], zeroL), (6, [46], zeroL)] = _
    exact bind_bad y5
  rw [this]
  rfl
theorem say_ey : sayOf valL progR [112, 40, 88, 41, 32, 58, 45, 32, 46] = .bad 8 := by
  rw [sayOf_bad (by rw [ey_0]) (r := [(6, [46], zeroL)]) (by rw [ey_0]; exact y6), ey_0]
  rfl
end Go.Proofs.YtnbaemfkpfmheaaGreatDoor
