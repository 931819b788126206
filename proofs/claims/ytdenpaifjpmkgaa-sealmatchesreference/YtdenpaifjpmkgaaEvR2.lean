/- Facts under other letters, and other words for what they make; code that ends by a return. -/
import Derived.Test.YtdenpaifjpmkgaaEvN9
namespace Go.Ev
open Go.RowKit (Below)
set_option linter.unusedSectionVars false
set_option linter.unusedVariables false

theorem chkNew_mk [Rho] {h : List (Option ABlk)} : ∀ {sel : List Nat} {l : List ABlk}, sel.length = l.length → (∀ (i b : Nat) (B : ABlk), sel[i]? = some b → l[i]? = some B → h[b]? = some (some B)) → l.all (fun A => beqB A A) = true → chkNew h sel l = true
  | [], [], _, _, _ => rfl
  | b :: sel, B :: l, hl, hs, ha => by
    simp only [List.all_cons, Bool.and_eq_true] at ha
    have h0 := hs 0 b B rfl rfl
    simp only [chkNew, Bool.and_eq_true]
    refine ⟨?_, chkNew_mk (by simpa using hl) (fun i b' B' h1 h2 => hs (i + 1) b' B' (by simpa using h1) (by simpa using h2)) ha.2⟩
    rw [nthD_eq, h0]; exact ha.1
  | [], _ :: _, hl, _, _ => by simp at hl
  | _ :: _, [], hl, _, _ => by simp at hl

theorem posOf_lt [Rho] {b : Nat} {l : List Nat} (h : b ∈ l) : posOf b l < l.length := (List.getElem?_eq_some_iff.1 (posOf_ok h)).1

theorem Fct.move {P : Program} {R1 R2 : Rho} {f : FuncId} {F1 F2 : Fct} (h : @Fct.Holds R1 P f F1) (hg : F2.good = true) (hsel : F2.sel = F1.sel) (hol : F2.old.length = F1.old.length)
    (hw : ∀ B π w, @WR R2 B π [] F2.st w → @WR R1 B π [] F1.st w) (ha : ∀ π vs, @LR R2 π [] F2.args vs → @LR R1 π [] F1.args vs) (hv : ∀ π lm c, @VR R1 π lm F1.v c → @VR R2 π [] F2.v c)
    (hn : F1.new.length = F2.new.length) (hbb : F2.new.all (fun A => beqB A A) = true)
    (hr : ∀ (i : Nat) (A1 A2 : ABlk), F1.new[i]? = some A1 → F2.new[i]? = some A2 → A2.elem = A1.elem ∧ A2.ro = A1.ro ∧ ∀ π lm (c : Array Value), @LR R1 π lm A1.cells (c.toList.take A1.cells.length) → @TailOk R1 A1 c → @LR R2 π [] A2.cells (c.toList.take A2.cells.length) ∧ @TailOk R2 A2 c) :
    @Fct.Holds R2 P f F2 := by
  obtain ⟨hb, hg1, s1, hnew, hrun⟩ := h
  obtain ⟨c1, c2⟩ := @chkNew_ok R1 s1.heap F1.sel F1.new hnew
  have hg1' := hg1
  simp only [Fct.good, Bool.and_eq_true, List.all_eq_true, Nat.ble_eq] at hg1
  obtain ⟨g1, g2, g3, g4, g5, g6⟩ := hg1
  let s2 : St := { heap := (List.range s1.heap.length).map (fun b => if F1.sel.contains b then F2.new[posOf b F1.sel]? else none), lo := 0, loops := [], nd := s1.nd }
  have hs2 : ∀ (i : Nat) (A : ABlk), s2.heap[i]? = some (some A) → i ∈ F1.sel ∧ F2.new[posOf i F1.sel]? = some A := fun i A hA => by
    have hA' : ((List.range s1.heap.length).map (fun b => if F1.sel.contains b then F2.new[posOf b F1.sel]? else none))[i]? = some (some A) := hA
    rw [List.getElem?_map] at hA'
    by_cases hi : i < s1.heap.length
    · rw [List.getElem?_range hi] at hA'
      simp only [Option.map_some, Option.some.injEq] at hA'
      split at hA'
      · rename_i hc
        exact ⟨by simpa using hc, hA'⟩
      · cases hA'
    · rw [List.getElem?_eq_none (by simpa using hi)] at hA'
      cases hA'
  have back : ∀ (i : Nat) (A : ABlk), s2.heap[i]? = some (some A) → ∃ A1, s1.heap[i]? = some (some A1) ∧ F1.new[posOf i F1.sel]? = some A1 ∧ F2.new[posOf i F1.sel]? = some A := fun i A hA => by
    obtain ⟨h1, h2⟩ := hs2 i A hA
    have hp := @posOf_lt R1 _ _ h1
    obtain ⟨A1, hA1⟩ : ∃ A1, F1.new[posOf i F1.sel]? = some A1 := ⟨_, List.getElem?_eq_getElem (by omega)⟩
    obtain ⟨b, e1, e2⟩ := c2 _ A1 hA1
    rw [@posOf_ok R1 _ _ h1] at e1
    obtain rfl := Option.some.inj e1
    exact ⟨A1, e2, hA1, h2⟩
  refine ⟨hb, hg, s2, ?_, fun w vs N π hw2 hl2 => ?_⟩
  · rw [hsel]
    refine @chkNew_mk R2 _ _ _ (by omega) (fun i b B e1 e2 => ?_) hbb
    have hlen : i < F1.new.length := by rw [hn]; exact (List.getElem?_eq_some_iff.1 e2).1
    obtain ⟨b', k1, k2⟩ := c2 i _ (List.getElem?_eq_getElem hlen)
    rw [e1] at k1
    obtain rfl := Option.some.inj k1
    have hb1 : b < s1.heap.length := (List.getElem?_eq_some_iff.1 k2).1
    have hm : b ∈ F1.sel := List.mem_of_getElem? e1
    have hp : posOf b F1.sel = i := @nodupB_ok R1 _ g5 _ _ b (@posOf_ok R1 _ _ hm) e1
    show ((List.range s1.heap.length).map (fun b => if F1.sel.contains b then F2.new[posOf b F1.sel]? else none))[b]? = _
    rw [List.getElem?_map, List.getElem?_range hb1]
    simp only [Option.map_some, Option.some.injEq]
    rw [if_pos (by simpa using hm), hp, e2]
  · refine (hrun w vs N π (hw _ _ _ hw2) (ha _ _ hl2)).mono ?_
    rintro e w' ⟨c, π', lm', he, m1, m2, m3⟩
    refine ⟨c, π', [], he, hv _ _ _ m1, ?_, ?_⟩
    · refine @WR.mk R2 _ π' [] s2 w' (fun i x hx => ?_) (fun i A hA => ?_) (fun i j A A' b n m e1 e2 e3 e4 e5 => ?_) rfl (fun l l' L h => by simp at h) (fun l r h => by simp [s2] at h)
      · have := @WR.dom R1 _ _ _ _ _ m2 i x hx
        simpa [s2] using this
      · obtain ⟨A1, h1, h2, h3⟩ := back i A hA
        obtain ⟨b, n, cc, fz, k1, k2, k3, k4, k5, k6⟩ := @WR.blk R1 _ _ _ _ _ m2 i A1 h1
        obtain ⟨p1, p2, p3⟩ := hr _ A1 A h2 h3
        obtain ⟨q1, q2⟩ := p3 π' lm' cc k5 k6
        exact ⟨b, n, cc, fz, k1, k2, k3, fun hro => by rw [p1]; exact k4 (by rw [← p2]; exact hro), q1, q2⟩
      · obtain ⟨A1, h1, h2, h3⟩ := back i A e1
        obtain ⟨A1', h1', _⟩ := back j A' e2
        exact @WR.inj R1 _ _ _ _ _ m2 i j A1 A1' b n m h1 h1' (by rw [← (hr _ A1 A h2 h3).2.1]; exact e3) e4 e5
    · have noRw : ∀ (i : Nat) (A : ABlk), F1.st.heap[i]? = some (some A) → A.ro = false → False := fun i A hA hro => by
        simp only [Fct.st, List.getElem?_map, Option.map_eq_some_iff, Option.some.injEq] at hA
        obtain ⟨A', hA', rfl⟩ := hA
        rw [(g1 _ (List.mem_of_getElem? hA')).1] at hro; cases hro
      have len1 : F1.st.heap.length = F1.old.length := by simp [Fct.st]
      have len2 : F2.st.heap.length = F1.old.length := by simp [Fct.st, hol]
      exact {
        os := m3.os, tape := m3.tape, output := m3.output, size := m3.size
        keep := fun r hr _ _ => m3.keep r hr (fun i A n hA hro => (noRw i A hA hro).elim) (by simp)
        low := fun i A b n _ hlo => absurd hlo (Nat.not_lt_zero _)
        same := fun i _ hlo => absurd hlo (Nat.not_lt_zero _)
        lkeep := fun _ L hL => by simp at hL
        lo_le := Nat.zero_le _
        nd_le := m3.nd_le
        le := m3.le
        old := fun i hi => m3.old i (by omega)
        len := by
          have := m3.len
          simp only [s2, List.length_map, List.length_range]; omega
        liv := fun i A' hi hA' => by
          obtain ⟨h1, _⟩ := hs2 i A' hA'
          have := g6 i h1
          omega
        new := fun i b n hi hp => by
          rcases m3.new i b n (by omega) hp with h1 | ⟨j, A, m, h1, h2, h3⟩
          · exact .inl h1
          · exact (noRw j A h1 h2).elim
        lmx := ⟨[], by simp, by simp⟩ }

/-- the same where one row is made, which may have another number -/
theorem Fct.move1 {P : Program} {R1 R2 : Rho} {f : FuncId} {a1 a2 : List AV} {o1 o2 : List ABlk} {v1 v2 : AV} {b1 b2 : Nat} {A1 A2 : ABlk} (h : @Fct.Holds R1 P f (Fct.mk a1 o1 v1 [b1] [A1])) (hg : (Fct.mk a2 o2 v2 [b2] [A2]).good = true) (hol : o2.length = o1.length)
    (hw : ∀ B π w, @WR R2 B π [] (Fct.mk a2 o2 v2 [b2] [A2]).st w → @WR R1 B π [] (Fct.mk a1 o1 v1 [b1] [A1]).st w) (ha : ∀ π vs, @LR R2 π [] a2 vs → @LR R1 π [] a1 vs)
    (hv : ∀ π π2 lm c, (∀ i, i < o1.length → π2 i = π i) → π2 b2 = π b1 → @VR R1 π lm v1 c → @VR R2 π2 [] v2 c) (hbb : beqB A2 A2 = true) (he : A2.elem = A1.elem) (hro : A2.ro = A1.ro)
    (hr : ∀ π π2 lm (c : Array Value), (∀ i, i < o1.length → π2 i = π i) → π2 b2 = π b1 → @LR R1 π lm A1.cells (c.toList.take A1.cells.length) → @TailOk R1 A1 c → @LR R2 π2 [] A2.cells (c.toList.take A2.cells.length) ∧ @TailOk R2 A2 c) :
    @Fct.Holds R2 P f (Fct.mk a2 o2 v2 [b2] [A2]) := by
  obtain ⟨hb, hg1, s1, hnew, hrun⟩ := h
  obtain ⟨_, c2⟩ := @chkNew_ok R1 s1.heap [b1] [A1] hnew
  obtain ⟨b, e1, hA1⟩ := c2 0 A1 rfl
  obtain rfl : b1 = b := Option.some.inj e1
  simp only [Fct.good, Bool.and_eq_true, List.all_eq_true, Nat.ble_eq] at hg1
  obtain ⟨g1, _, _, _, _, g6⟩ := hg1
  have g61 : o1.length ≤ b1 := g6 b1 (by simp)
  have hg2 := hg
  simp only [Fct.good, Bool.and_eq_true, List.all_eq_true, Nat.ble_eq] at hg2
  have g62 : o2.length ≤ b2 := hg2.2.2.2.2.2 b2 (by simp)
  let s2 : St := { heap := List.replicate b2 none ++ [some A2], lo := 0, loops := [], nd := s1.nd }
  have hs2 : ∀ (i : Nat) (A : ABlk), s2.heap[i]? = some (some A) → i = b2 ∧ A = A2 := fun i A hA => by
    have hA' : (List.replicate b2 none ++ [some A2])[i]? = some (some A) := hA
    by_cases hi : i < b2
    · rw [List.getElem?_append_left (by simpa using hi)] at hA'
      simp [hi] at hA'
    · rw [List.getElem?_append_right (by simpa using hi)] at hA'
      simp only [List.length_replicate] at hA'
      by_cases h0 : i - b2 = 0
      · rw [h0] at hA'
        simp only [List.getElem?_cons_zero, Option.some.injEq] at hA'
        exact ⟨by omega, hA'.symm⟩
      · rw [List.getElem?_eq_none (by simp; omega)] at hA'
        cases hA'
  refine ⟨hb, hg, s2, ?_, fun w vs N π hw2 hl2 => ?_⟩
  · have : nthD none s2.heap b2 = some A2 := by
      rw [nthD_eq]
      show ((List.replicate b2 none ++ [some A2])[b2]?).getD none = _
      rw [List.getElem?_append_right (by simp)]; simp
    show ((match nthD none s2.heap b2 with | some A => beqB A A2 | none => false) && true) = true
    rw [this]
    simpa using hbb
  · refine (hrun w vs N π (hw _ _ _ hw2) (ha _ _ hl2)).mono ?_
    rintro e w' ⟨c, π', lm', he', m1, m2, m3⟩
    have len1 : (Fct.mk a1 o1 v1 [b1] [A1]).st.heap.length = o1.length := by simp [Fct.st]
    have len2 : (Fct.mk a2 o2 v2 [b2] [A2]).st.heap.length = o1.length := by simp [Fct.st, hol]
    let π2 : Inj := fun i => if i < o1.length then π' i else if i = b2 then π' b1 else none
    have p1 : ∀ i, i < o1.length → π2 i = π' i := fun i hi => if_pos hi
    have p2 : π2 b2 = π' b1 := by
      show (if b2 < o1.length then _ else _) = _
      rw [if_neg (by omega), if_pos rfl]
    have noRw : ∀ (i : Nat) (A : ABlk), (Fct.mk a1 o1 v1 [b1] [A1]).st.heap[i]? = some (some A) → A.ro = false → False := fun i A hA hro => by
      simp only [Fct.st, List.getElem?_map, Option.map_eq_some_iff, Option.some.injEq] at hA
      obtain ⟨A', hA', rfl⟩ := hA
      rw [(g1 _ (List.mem_of_getElem? hA')).1] at hro; cases hro
    refine ⟨c, π2, [], he', hv _ _ _ _ p1 p2 m1, ?_, ?_⟩
    · refine @WR.mk R2 _ π2 [] s2 w' (fun i x hx => ?_) (fun i A hA => ?_) (fun i j A A' b n m e1 e2 _ _ _ => ?_) rfl (fun l l' L h => by simp at h) (fun l r h => by simp [s2] at h)
      · have hx' : (if i < o1.length then π' i else if i = b2 then π' b1 else none) = some x := hx
        have : i < b2 + 1 := by
          split at hx'
          · omega
          · split at hx'
            · omega
            · cases hx'
        simpa [s2] using this
      · obtain ⟨rfl, rfl⟩ := hs2 i A hA
        obtain ⟨b, n, cc, fz, k1, k2, k3, k4, k5, k6⟩ := @WR.blk R1 _ _ _ _ _ m2 b1 A1 hA1
        obtain ⟨q1, q2⟩ := hr π' π2 lm' cc p1 p2 k5 k6
        exact ⟨b, n, cc, fz, by rw [p2]; exact k1, k2, k3, fun h => by rw [he]; exact k4 (by rw [← hro]; exact h), q1, q2⟩
      · rw [(hs2 i A e1).1, (hs2 j A' e2).1]
    · exact {
        os := m3.os, tape := m3.tape, output := m3.output, size := m3.size
        keep := fun r hr _ _ => m3.keep r hr (fun i A n hA hro => (noRw i A hA hro).elim) (by simp)
        low := fun i A b n _ hlo => absurd hlo (Nat.not_lt_zero _)
        same := fun i _ hlo => absurd hlo (Nat.not_lt_zero _)
        lkeep := fun _ L hL => by simp at hL
        lo_le := Nat.zero_le _
        nd_le := m3.nd_le
        le := fun i x hx => by
          have := @WR.dom R2 _ _ _ _ _ hw2 i x hx
          rw [p1 i (by omega)]; exact m3.le i x hx
        old := fun i hi => by rw [p1 i (by omega)]; exact m3.old i (by omega)
        len := by simp [s2, len2]; omega
        liv := fun i A' hi hA' => by
          have := (hs2 i A' hA').1
          omega
        new := fun i b n hi hp => by
          have hp' : (if i < o1.length then π' i else if i = b2 then π' b1 else none) = some (b, n) := hp
          rw [if_neg (by omega)] at hp'
          split at hp'
          · rcases m3.new b1 b n (by omega) hp' with h1 | ⟨j, A, m, h1, h2, h3⟩
            · exact .inl h1
            · exact (noRw j A h1 h2).elim
          · cases hp'
        lmx := ⟨[], by simp, by simp⟩ }

/-! ### code that ends by a return -/
theorem SAtX.blockR {P : Program} {R1 R2 : Rho} {c : Code} {id : Nat} {ts ts1 : List AV} {s s1 : St} (h : SAtX P c R1 ts s .ret R2 ts1 s1) : SAtX P (.block id c) R1 ts s .ret R2 ts1 s1 := by
  intro B π lm w a N ro hw hB r hro
  refine wpIn_block ?_
  refine wpIn_mono (h B π lm w a N ro hw hB r hro) ?_
  rintro z a1 w1 ⟨hx, hp⟩
  cases z with
  | ret => exact ⟨trivial, hp⟩
  | _ => exact hx.elim
theorem SAtX.seqR {P : Program} {R1 R2 : Rho} {x y : Code} {ts ts1 : List AV} {s s1 : St} (h1 : SAtX P x R1 ts s .ret R2 ts1 s1) : SAtX P (.seq x y) R1 ts s .ret R2 ts1 s1 := by
  intro B π lm w a N ro hw hB r hro
  refine wpIn_seq ?_
  refine wpIn_mono (h1 B π lm w a N ro hw hB r hro) ?_
  rintro z a1 w1 ⟨hx, hp⟩
  cases z with
  | ret => exact ⟨trivial, hp⟩
  | _ => exact hx.elim
end Go.Ev
