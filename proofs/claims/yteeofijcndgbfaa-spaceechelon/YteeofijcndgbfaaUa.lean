/- Joins and meets as matrices. -/
import Derived.Test.YteeofijcndgbfaaTr
namespace Go.Proofs.Yteeofijcndgbfaa
open Go.RowKit Go.Fl
set_option linter.unusedVariables false
set_option linter.unusedSectionVars false
abbrev joM (F : Gf) (n : Nat) (A B : List (List Nat)) : List (List Nat) := redM F n (A ++ B)
abbrev meM (F : Gf) (n : Nat) (A B : List (List Nat)) : List (List Nat) := kerM F n (kerM F n A ++ kerM F n B)
section
variable {F : Gf} (hF : Ok F)
include hF
theorem redM_sp {n : Nat} {A : List (List Nat)} (hA : Mn F n A) (v : Cf) : Sp F ((redM F n A).map Go.Fl.fn) v ↔ Sp F (A.map Go.Fl.fn) v := by
 obtain ⟨-, -, e⟩ := redM_ok hF hA
 rw [e]
 exact (redL_ok hF (hA.vs hF)).2.1 v
theorem meM_eq {n : Nat} {A B : List (List Nat)} (hA : Mn F n A) (hB : Mn F n B) : redL F n ((kerM F n A ++ kerM F n B).map Go.Fl.fn) = joinL F n ((kerL F n (redL F n (A.map Go.Fl.fn))).map Prod.snd) ((kerL F n (redL F n (B.map Go.Fl.fn))).map Prod.snd) := by
 rw [List.map_append, (kerM_ok hF hA).2, (kerM_ok hF hB).2]; rfl
theorem meM_mn {n : Nat} {A B : List (List Nat)} (hA : Mn F n A) (hB : Mn F n B) : Mn F n (meM F n A B) := (kerM_ok hF (mapp (kerM_ok hF hA).1 (kerM_ok hF hB).1)).1
theorem meM_map {n : Nat} {A B : List (List Nat)} (hA : Mn F n A) (hB : Mn F n B) : (meM F n A B).map Go.Fl.fn = (meetL F n (redL F n (A.map Go.Fl.fn)) (redL F n (B.map Go.Fl.fn))).map Prod.snd := by
 rw [(kerM_ok hF (mapp (kerM_ok hF hA).1 (kerM_ok hF hB).1)).2, meM_eq hF hA hB]; rfl
theorem meM_sp {n : Nat} {A B : List (List Nat)} (hA : Mn F n A) (hB : Mn F n B) (v : Cf) : Sp F ((meM F n A B).map Go.Fl.fn) v ↔ Sp F (A.map Go.Fl.fn) v ∧ Sp F (B.map Go.Fl.fn) v := by
 rw [meM_map hF hA hB]
 obtain ⟨a1, a2, -⟩ := redL_ok hF (hA.vs hF)
 obtain ⟨b1, b2, -⟩ := redL_ok hF (hB.vs hF)
 rw [(meetL_ok hF a1 b1).2 v, a2 v, b2 v]
theorem app_sp {A B C D : List (List Nat)} {n : Nat} (hA : Mn F n A) (hB : Mn F n B) (hC : Mn F n C) (hD : Mn F n D) (h1 : ∀ v, Sp F (A.map Go.Fl.fn) v ↔ Sp F (C.map Go.Fl.fn) v) (h2 : ∀ v, Sp F (B.map Go.Fl.fn) v ↔ Sp F (D.map Go.Fl.fn) v) (v : Cf) : Sp F ((A ++ B).map Go.Fl.fn) v ↔ Sp F ((C ++ D).map Go.Fl.fn) v := by
 rw [List.map_append, List.map_append]
 have eA := (hA.vs hF).els
 have eB := (hB.vs hF).els
 have eC := (hC.vs hF).els
 have eD := (hD.vs hF).els
 constructor <;> intro h <;> obtain ⟨x, y, hx, hy, rfl⟩ := Sp.app hF h
 ·exact Sp.add hF (eC.app eD) (Sp.app_l hF eC eD ((h1 x).1 hx)) (Sp.app_r hF eC eD ((h2 y).1 hy))
 ·exact Sp.add hF (eA.app eB) (Sp.app_l hF eA eB ((h1 x).2 hx)) (Sp.app_r hF eA eB ((h2 y).2 hy))
theorem comm_sp {A B : List (List Nat)} {n : Nat} (hA : Mn F n A) (hB : Mn F n B) (v : Cf) : Sp F ((A ++ B).map Go.Fl.fn) v ↔ Sp F ((B ++ A).map Go.Fl.fn) v := by
 rw [List.map_append, List.map_append]
 have eA := (hA.vs hF).els
 have eB := (hB.vs hF).els
 constructor <;> intro h <;> obtain ⟨x, y, hx, hy, rfl⟩ := Sp.app hF h
 ·exact Sp.add hF (eB.app eA) (Sp.app_r hF eB eA hx) (Sp.app_l hF eB eA hy)
 ·exact Sp.add hF (eA.app eB) (Sp.app_r hF eA eB hx) (Sp.app_l hF eA eB hy)
theorem joM_comm {n : Nat} {A B : List (List Nat)} (hA : Mn F n A) (hB : Mn F n B) : joM F n A B = joM F n B A := redM_ext hF (mapp hA hB) (mapp hB hA) (comm_sp hF hA hB)
theorem ker_ext {n : Nat} {A B : List (List Nat)} (hA : Mn F n A) (hB : Mn F n B) (h : ∀ v, Sp F (A.map Go.Fl.fn) v ↔ Sp F (B.map Go.Fl.fn) v) : kerM F n A = kerM F n B := by
 obtain ⟨a1, a2, -⟩ := redL_ok hF (hA.vs hF)
 obtain ⟨b1, b2, -⟩ := redL_ok hF (hB.vs hF)
 unfold kerM
 rw [RedL.ext hF a1 b1 fun v => (a2 v).trans ((h v).trans (b2 v).symm)]
theorem meM_comm {n : Nat} {A B : List (List Nat)} (hA : Mn F n A) (hB : Mn F n B) : meM F n A B = meM F n B A := by
 have kA := (kerM_ok hF hA).1
 have kB := (kerM_ok hF hB).1
 exact ker_ext hF (mapp kA kB) (mapp kB kA) (comm_sp hF kA kB)
theorem meM_joM {n : Nat} {A B : List (List Nat)} (hA : Mn F n A) (hB : Mn F n B) : kerM F n (joM F n (kerM F n A) (kerM F n B)) = meM F n A B := by
 have k := mapp (kerM_ok hF hA).1 (kerM_ok hF hB).1
 exact ker_ext hF (redM_ok hF k).1 k (redM_sp hF k)
theorem rank_sum {n : Nat} {A B : List (List Nat)} (hA : Mn F n A) (hB : Mn F n B) : (joM F n A B).length + (meM F n A B).length = (redM F n A).length + (redM F n B).length := by
 obtain ⟨a1, a2, -⟩ := redL_ok hF (hA.vs hF)
 obtain ⟨b1, b2, -⟩ := redL_ok hF (hB.vs hF)
 have h := dim_eq hF a1 b1
 have e1 : (meM F n A B).length = (meetL F n (redL F n (A.map Go.Fl.fn)) (redL F n (B.map Go.Fl.fn))).length := by
  have := congrArg List.length (meM_map hF hA hB)
  simpa using this
 have e2 : joM F n A B = joM F n (redM F n A) (redM F n B) := redM_ext hF (mapp hA hB) (mapp (redM_ok hF hA).1 (redM_ok hF hB).1) (app_sp hF hA hB (redM_ok hF hA).1 (redM_ok hF hB).1 (fun v => (redM_sp hF hA v).symm) (fun v => (redM_sp hF hB v).symm))
 have e3 : (joM F n (redM F n A) (redM F n B)).length = (joinL F n ((redL F n (A.map Go.Fl.fn)).map Prod.snd) ((redL F n (B.map Go.Fl.fn)).map Prod.snd)).length := by
  show (redM F n (redM F n A ++ redM F n B)).length = _
  unfold redM
  rw [List.length_map, List.map_append, rows_map hF a1, rows_map hF b1]; rfl
 rw [e2, e3, e1]
 unfold redM
 rw [List.length_map, List.length_map]; exact h
theorem in_join_l {n : Nat} {A B : List (List Nat)} (hA : Mn F n A) (hB : Mn F n B) {V : List Nat} (h : V ∈ A) : hasV F n (joM F n A B) V = true := by
 refine (has_iff hF (redM_ok hF (mapp hA hB)).1 (hA V h)).2 ((redM_sp hF (mapp hA hB) _).2 ?_)
 exact Sp.mem hF ((mapp hA hB).vs hF).els (List.mem_map.2 ⟨V, List.mem_append_left _ h, rfl⟩)
theorem in_join_r {n : Nat} {A B : List (List Nat)} (hA : Mn F n A) (hB : Mn F n B) {V : List Nat} (h : V ∈ B) : hasV F n (joM F n A B) V = true := by
 refine (has_iff hF (redM_ok hF (mapp hA hB)).1 (hB V h)).2 ((redM_sp hF (mapp hA hB) _).2 ?_)
 exact Sp.mem hF ((mapp hA hB).vs hF).els (List.mem_map.2 ⟨V, List.mem_append_right _ h, rfl⟩)
theorem of_meet {n : Nat} {A B : List (List Nat)} (hA : Mn F n A) (hB : Mn F n B) {V : List Nat} (h : V ∈ meM F n A B) : hasV F n A V = true ∧ hasV F n B V = true := by
 have hm := meM_mn hF hA hB
 have hs := (meM_sp hF hA hB (Go.Fl.fn V)).1 (Sp.mem hF (hm.vs hF).els (List.mem_map.2 ⟨V, h, rfl⟩))
 exact ⟨(has_iff hF hA (hm V h)).2 hs.1, (has_iff hF hB (hm V h)).2 hs.2⟩
/-- the modular law -/
theorem modM {n : Nat} {A B C : List (List Nat)} (hA : Mn F n A) (hB : Mn F n B) (hC : Mn F n C) (hs : ∀ v, Sp F (A.map Go.Fl.fn) v → Sp F (C.map Go.Fl.fn) v) : joM F n A (meM F n B C) = meM F n (joM F n A B) C := by
 have mBC := meM_mn hF hB hC
 have jAB := (redM_ok hF (mapp hA hB)).1
 have mR := meM_mn hF jAB hC
 have hAC := mapp hA mBC
 have key : ∀ v, Sp F ((meM F n (joM F n A B) C).map Go.Fl.fn) v ↔ Sp F ((A ++ meM F n B C).map Go.Fl.fn) v := fun v => by
  rw [meM_sp hF jAB hC, redM_sp hF (mapp hA hB), List.map_append, ← modular hF (hA.vs hF).els (hB.vs hF).els (hC.vs hF).els hs, List.map_append]
  constructor
  ·rintro ⟨x, y, hx, ⟨hy, hy'⟩, rfl⟩
   exact Sp.add hF ((hA.vs hF).els.app (mBC.vs hF).els) (Sp.app_l hF (hA.vs hF).els (mBC.vs hF).els hx) (Sp.app_r hF (hA.vs hF).els (mBC.vs hF).els ((meM_sp hF hB hC y).2 ⟨hy, hy'⟩))
  ·intro h
   obtain ⟨x, y, hx, hy, rfl⟩ := Sp.app hF h
   exact ⟨x, y, hx, (meM_sp hF hB hC y).1 hy, rfl⟩
 have hr := kerM_red hF (mapp (kerM_ok hF jAB).1 (kerM_ok hF hC).1)
 exact ((redM_of hF hAC (fun r h => (mR r h).len) hr key).1).symm
end
end Go.Proofs.Yteeofijcndgbfaa
