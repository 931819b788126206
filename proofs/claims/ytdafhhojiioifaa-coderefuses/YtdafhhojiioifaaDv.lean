/- Dual codes; ways that meet. -/
import Derived.Test.YtdafhhojiioifaaDc
namespace Go.Proofs.Ytdafhhojiioifaa
open Go.RowKit Go.Fl
set_option maxRecDepth 100000
set_option linter.unusedVariables false
set_option linter.unusedSimpArgs false
set_option linter.unusedSectionVars false

open Go.RowKit
theorem share7 {A B C D E G I : Type} {H T : A → B → C → D → E → G → I → World → Prop} {goal : Prop} (ways : (∀ a b c d e g i w, H a b c d e g i w → T a b c d e g i w) → goal) (rest : ∀ a b c d e g i w, H a b c d e g i w → T a b c d e g i w) : goal := ways rest
theorem BC.ne {g g' : Nat} {vs vs' : List Value} {t t' : TypeId} {w : World} (h : BC g vs t w) (h' : BC g' vs' t' w) (hn : t ≠ t') : ¬ g = g' := fun e => by
 subst e
 unfold BC at h h'
 rw [h] at h'
 injection h' with h'
 injection h' with _ h' _
 exact hn h'
abbrev S5 (q n : Nat) (va : Value) (x4 : Nat) (w4 w : World) : Prop := (w.cell? ⟨x4, 0, none⟩ = some (.int .i64 (q : Nat)) ∧ w.cell? ⟨x4, 1, none⟩ = some (.int .i64 (n : Nat)) ∧ w.cell? ⟨x4, 2, none⟩ = some va) ∧ Hid (Below w4.heap.size w4 w ∧ x4 < w4.heap.size)
theorem S5.go {q n : Nat} {va : Value} {x4 : Nat} {w4 w w' : World} (h : S5 q n va x4 w4 w) (hb : Below w4.heap.size w w') : S5 q n va x4 w4 w' := by
 obtain ⟨⟨h0, h1, h2⟩, h4⟩ := h
 have hB := h4.out.2
 exact ⟨⟨(hb.cell (p := ⟨x4, 0, none⟩) hB).trans h0, (hb.cell (p := ⟨x4, 1, none⟩) hB).trans h1, (hb.cell (p := ⟨x4, 2, none⟩) hB).trans h2⟩, Lib.hid ⟨h4.out.1.trans hb, hB⟩⟩
theorem S5.go0 {q n : Nat} {va : Value} {x4 : Nat} {w4 w' : World} (h : S5 q n va x4 w4 w4.drew) (hb : Below w4.heap.size w4 w') : S5 q n va x4 w4 w' := by
 obtain ⟨⟨h0, h1, h2⟩, h4⟩ := h
 have hB := h4.out.2
 exact ⟨⟨(hb.cell (p := ⟨x4, 0, none⟩) hB).trans h0, (hb.cell (p := ⟨x4, 1, none⟩) hB).trans h1, (hb.cell (p := ⟨x4, 2, none⟩) hB).trans h2⟩, Lib.hid ⟨hb, hB⟩⟩
abbrev S6 (q n : Nat) (va : Value) (x4 : Nat) (vd : Value) (x6 : Nat) (v w : World) : Prop := (w.cell? ⟨x4, 0, none⟩ = some (.int .i64 (q : Nat)) ∧ w.cell? ⟨x4, 1, none⟩ = some (.int .i64 (n : Nat)) ∧ w.cell? ⟨x4, 2, none⟩ = some va) ∧ (w.cell? ⟨x6, 0, none⟩ = some (.int .i64 (q : Nat)) ∧ w.cell? ⟨x6, 1, none⟩ = some (.int .i64 (n : Nat)) ∧ w.cell? ⟨x6, 2, none⟩ = some vd) ∧ Hid (Below v.heap.size v w ∧ x4 < v.heap.size ∧ x6 < v.heap.size)
theorem S6.go {q n : Nat} {va : Value} {x4 : Nat} {vd : Value} {x6 : Nat} {v w w' : World} (h : S6 q n va x4 vd x6 v w) (hb : Below v.heap.size w w') : S6 q n va x4 vd x6 v w' := by
 obtain ⟨⟨h0, h1, h2⟩, ⟨g0, g1, g2⟩, h4⟩ := h
 have hB := h4.out.2.1
 have hC := h4.out.2.2
 exact ⟨⟨(hb.cell (p := ⟨x4, 0, none⟩) hB).trans h0, (hb.cell (p := ⟨x4, 1, none⟩) hB).trans h1, (hb.cell (p := ⟨x4, 2, none⟩) hB).trans h2⟩, ⟨(hb.cell (p := ⟨x6, 0, none⟩) hC).trans g0, (hb.cell (p := ⟨x6, 1, none⟩) hC).trans g1, (hb.cell (p := ⟨x6, 2, none⟩) hC).trans g2⟩, Lib.hid ⟨h4.out.1.trans hb, hB, hC⟩⟩
section
variable {F : Gf} {n m : Nat} {G : List (List Nat)} {L : List (Nat × Cf)} (h : VC F n m G L)
include h
theorem VC.redM : redM F n G = G := by
 have e := h.rm.self h.ok
 unfold Go.Fl.redM
 rw [e]; exact h.rm.eq.symm
theorem VC.dual : VC F n (kerM F n G).length (kerM F n G) (kerL F n (redL F n (G.map Go.Fl.fn))) := by
 obtain ⟨h1, -, -⟩ := redL_ok h.ok (Mn.vs h.ok h.gc.mn)
 have hr := rank_null h.ok h.gc.mn
 have hn := h.gc.n2
 have hm : RM F n (kerM F n G) (kerL F n (redL F n (G.map Go.Fl.fn))) := ⟨(kerL_ok h.ok h1).1, rfl⟩
 exact ⟨⟨h.gc.mem, h.gc.q, h.gc.n1, h.gc.n2, by omega, rfl, hm.mn h.ok⟩, hm⟩
theorem VC.back : kerM F n (kerM F n G) = G := (kerM_kerM h.ok h.gc.mn).trans h.redM
theorem VC.dims : m + (kerM F n G).length = n := by
 have hr := rank_null h.ok h.gc.mn
 rw [h.redM, h.gc.len] at hr; omega
theorem VC.dt {i k : Nat} (hi : i < m) (hk : k < (kerM F n G).length) : dt F n (fn (G.getD i [])) (fn ((kerM F n G).getD k [])) = 0 := by
 have hd := h.dual
 have hv := mrow hd.gc.mn hk
 have hi' : i < G.length := by rw [h.gc.len]; exact hi
 refine (ker_iff h.ok h.gc.mn hv).1 (Sp.mem h.ok (Mn.vs h.ok hd.gc.mn).els (List.mem_map.2 ⟨_, ?_, rfl⟩)) _ ?_
 ·rw [List.getD_eq_getElem?_getD, List.getElem?_eq_getElem hk]; exact List.getElem_mem hk
 ·rw [List.getD_eq_getElem?_getD, List.getElem?_eq_getElem hi']; exact List.getElem_mem hi'
end
end Go.Proofs.Ytdafhhojiioifaa
