/- Are a shelf's entries right? Are what comes, and the ids that were read, right? shelf.Check. Words of markup: has an entry a word? Has an entry a word? For every entry that is no longer than it may be. Words that are looked for: checkWord, Has. Words that are looked for: All. Are texts the same? A shelf that is written out; findBegun. -/
import Derived.Test.YtlcljanibjdejaaGreatFm20
import Derived.Laws.Rows
namespace Go.Proofs.YtlcljanibjdejaaGreat
open Go.RowKit Go.Maps
def ensCells (l : List En) : List Value := l.flatMap enCells
theorem en_at (l : List En) (k j : Nat) (hk : k < l.length) (hj : j < 5) : (ensCells l)[k * 5 + j]? = (enCells l[k])[j]? := by
  induction l generalizing k with
  | nil => simp at hk
  | cons p l ih =>
    have e : ensCells (p :: l) = enCells p ++ ensCells l := by simp [ensCells]
    have h4 : (enCells p).length = 5 := rfl
    rw [e]
    cases k with
    | zero => rw [Nat.zero_mul, Nat.zero_add, List.getElem?_append_left (by omega)]; rfl
    | succ k =>
      rw [List.getElem?_append_right (by omega), h4, show (k + 1) * 5 + j - 5 = k * 5 + j from by omega]
      exact ih k (by simpa using hk)
theorem lies_en {w : World} {g o : Nat} {l : List En} (h : ∀ j u, (ensCells l)[j]? = some u → w.cell? ⟨g, o + j, none⟩ = some u) (k : Nat) (hk : k < l.length) :
    w.cell? ⟨g, o + k * 5, none⟩ = some (.string ⟨l[k].id.toArray⟩) ∧ w.cell? ⟨g, o + k * 5 + 1, none⟩ = some (.string ⟨l[k].title.toArray⟩) ∧ w.cell? ⟨g, o + k * 5 + 2, none⟩ = some (.string ⟨l[k].link.toArray⟩) ∧ w.cell? ⟨g, o + k * 5 + 3, none⟩ = some (.int .i64 l[k].tm) ∧ w.cell? ⟨g, o + k * 5 + 4, none⟩ = some (.string ⟨l[k].html.toArray⟩) := by
  have e : ∀ j, j < 5 → o + k * 5 + j = o + (k * 5 + j) := fun j _ => by omega
  refine ⟨?_, ?_, ?_, ?_, ?_⟩
  · exact h (k * 5) _ ((en_at l k 0 hk (by omega)).trans rfl)
  · rw [e 1 (by omega)]; exact h _ _ ((en_at l k 1 hk (by omega)).trans rfl)
  · rw [e 2 (by omega)]; exact h _ _ ((en_at l k 2 hk (by omega)).trans rfl)
  · rw [e 3 (by omega)]; exact h _ _ ((en_at l k 3 hk (by omega)).trans rfl)
  · rw [e 4 (by omega)]; exact h _ _ ((en_at l k 4 hk (by omega)).trans rfl)
def backE (p : Option En) (x : En) : Bool := match p with
  | none => false
  | some y => decide (0 < ordE y x)
def chkEs : Option En → List (List UInt8) → List En → Int
  | _, _, [] => 0
  | p, met, x :: r => if chkEn x ≠ 0 then chkEn x else if x.id ∈ met then 6 else if backE p x = true then 4 else chkEs (some x) (met ++ [x.id]) r
theorem chkEs_drop (p : Option En) (met : List (List UInt8)) (l : List En) (k : Nat) (hk : k < l.length) : chkEs p met (l.drop k) = if chkEn l[k] ≠ 0 then chkEn l[k] else if l[k].id ∈ met then 6 else if backE p l[k] = true then 4 else chkEs (some l[k]) (met ++ [l[k].id]) (l.drop (k + 1)) := by
  rw [List.drop_eq_getElem_cons hk]
  rfl
def prevE (l : List En) (k : Nat) : Option En := if k = 0 then none else l[k - 1]?
/-- A new entry in a block of its own, and one that stands in a row. -/
@[reducible] def SP (W : World) (g : Nat) (x : En) (gr o : Nat) (y : En) (w' : World) : Prop :=
  Keeps [] W w' ∧ (w'.cell? ⟨g, 0, none⟩ = some (.string ⟨x.id.toArray⟩) ∧ w'.cell? ⟨g, 1, none⟩ = some (.string ⟨x.title.toArray⟩) ∧ w'.cell? ⟨g, 2, none⟩ = some (.string ⟨x.link.toArray⟩) ∧ w'.cell? ⟨g, 3, none⟩ = some (.int .i64 x.tm) ∧ w'.cell? ⟨g, 4, none⟩ = some (.string ⟨x.html.toArray⟩)) ∧
  (w'.cell? ⟨gr, o, none⟩ = some (.string ⟨y.id.toArray⟩) ∧ w'.cell? ⟨gr, o + 1, none⟩ = some (.string ⟨y.title.toArray⟩) ∧ w'.cell? ⟨gr, o + 2, none⟩ = some (.string ⟨y.link.toArray⟩) ∧ w'.cell? ⟨gr, o + 3, none⟩ = some (.int .i64 y.tm) ∧ w'.cell? ⟨gr, o + 4, none⟩ = some (.string ⟨y.html.toArray⟩))
theorem SP.keeps {W w' : World} {g gr o : Nat} {x y : En} (h : SP W g x gr o y W) (hk : Keeps [] W w') : SP W g x gr o y w' := by
  obtain ⟨_, ⟨h0, h1, h2, h3, h4⟩, k0, k1, k2, k3, k4⟩ := h
  exact ⟨hk, ⟨cell_keeps hk h0, cell_keeps hk h1, cell_keeps hk h2, cell_keeps hk h3, cell_keeps hk h4⟩, cell_keeps hk k0, cell_keeps hk k1, cell_keeps hk k2, cell_keeps hk k3, cell_keeps hk k4⟩
@[reducible] def SB (W : World) (g : Nat) (t : List UInt8) (w' : World) : Prop := Keeps [] W w' ∧ w'.cell? ⟨g, 0, none⟩ = some (.string ⟨t.toArray⟩)
set_option maxRecDepth 8000 in
set_option maxHeartbeats 16000000 in
theorem checkEntries_any (w : World) (v : Value) (l : List En) (hv : Lies w v l.length 5 (ensCells l)) (hf : ∀ x ∈ l, FitE x) (hM : HasMax w) :
    Calls Tryz.prog 133 #[v] w fun e w' => e = .returned (.int .i64 (chkEs none [] l)) ∧ Keeps [] w w' := by
  obtain ⟨o, c, rfl, h1, h2⟩ := hv.form
  obtain ⟨R, hR⟩ : ∃ R, chkEs none [] l = R := ⟨_, rfl⟩
  rw [hR]
  have HR := hide hR
  have HV := hide hv
  have HF := hide hf
  have HM := hide hM
  clear hR hv hf hM
  unfold maxLen at h2
  have hmm := @run_makeMap Tryz.prog
  go_enter Tryz.func133, Tryz.ntmps133
  go_wp2_with fail
  have hset0 : IsSet (w.alloc (.map #[] 0)) w.heap.size [] := IsSet.made w
  have hk0 : Keeps [] w (w.alloc (.map #[] 0)) := (Keeps.refl [] w).alloc _
  go_loopw [12] (fun i wr => ∃ k : Nat, k ≤ l.length ∧ i = .int .i64 k ∧ IsSet wr w.heap.size ((l.take k).map (·.id)) ∧ Keeps [] w wr ∧ Hid (chkEs (prevE l k) ((l.take k).map (·.id)) (l.drop k) = R)) (fun i _ => l.length - (intOf i).toNat)
  case atStart => exact ⟨0, Nat.zero_le _, rfl, hset0, hk0, HR⟩
  case round =>
    obtain ⟨k, hk, rfl, hset, hkw, hC⟩ := hrel
    clear HR hset0 hk0
    by_cases hlt : k < l.length
    · have hC1 := hC.out
      rw [chkEs_drop _ _ l k hlt] at hC1
      have hfk : FitE l[k] := HF.out _ (List.getElem_mem hlt)
      have hts : (l.take (k + 1)).map (·.id) = (l.take k).map (·.id) ++ [l[k].id] := by rw [List.take_succ_eq_append_getElem hlt, List.map_append]; rfl
      have hpv : prevE l (k + 1) = some l[k] := by simp [prevE, hlt]
      have hml : ((l.take k).map (·.id)).length < maxLen := by simp; unfold maxLen; omega
      obtain ⟨g, o0, rfl, hc⟩ := (HV.out.keeps hkw).addr (by omega)
      obtain ⟨a0, a1, a2, a3, a4⟩ := lies_en hc k hlt
      have hprev : ∀ k1, k = k1 + 1 → ∃ y, prevE l k = some y ∧ (wr.cell? ⟨g, o0 + k1 * 5, none⟩ = some (.string ⟨y.id.toArray⟩) ∧ wr.cell? ⟨g, o0 + k1 * 5 + 1, none⟩ = some (.string ⟨y.title.toArray⟩) ∧ wr.cell? ⟨g, o0 + k1 * 5 + 2, none⟩ = some (.string ⟨y.link.toArray⟩) ∧ wr.cell? ⟨g, o0 + k1 * 5 + 3, none⟩ = some (.int .i64 y.tm) ∧ wr.cell? ⟨g, o0 + k1 * 5 + 4, none⟩ = some (.string ⟨y.html.toArray⟩)) := fun k1 e => by
        have h9 := lies_en hc k1 (by omega)
        exact ⟨l[k1], by subst e; simp [prevE, show k1 < l.length from by omega], h9⟩
      have hp0 : k = 0 → prevE l k = none := fun e => by simp [prevE, e]
      have HC1 := hide hC1
      have HP0 := hide hp0
      have HTS := hide hts
      have HPV := hide hpv
      have HPR := hide hprev
      clear hC hC1 hc hts hpv hprev hp0
      generalize (l.take k).map (·.id) = met at *
      generalize prevE l k = pv at *
      generalize l[k] = x at *
      obtain ⟨W, hW⟩ : ∃ W, wr.alloc (.cells #[.string ⟨x.id.toArray⟩, .string ⟨x.title.toArray⟩, .string ⟨x.link.toArray⟩, .int .i64 x.tm, .string ⟨x.html.toArray⟩] 75) = W := ⟨_, rfl⟩
      have hkN : Keeps [] wr W := by rw [← hW]; exact (Keeps.refl [] wr).alloc _
      have HB := hide (nblk_new rfl hW).1
      have HKN := hide hkN
      have HKR := hide (hkw.trans hkN)
      have hce := hide (fun w1 (hk1 : Keeps [] w w1) => checkEn_any x w1 hfk (HM.out.keeps hk1 List.not_mem_nil))
      unfold enCells at hce
      have HW := hide hW
      have d0 : W.cell? ⟨wr.heap.size, 0, none⟩ = some (.string ⟨x.id.toArray⟩) := cell_blk HB.out 0
      have d1 : W.cell? ⟨wr.heap.size, 1, none⟩ = some (.string ⟨x.title.toArray⟩) := cell_blk HB.out 1
      have d2 : W.cell? ⟨wr.heap.size, 2, none⟩ = some (.string ⟨x.link.toArray⟩) := cell_blk HB.out 2
      have d3 : W.cell? ⟨wr.heap.size, 3, none⟩ = some (.int .i64 x.tm) := cell_blk HB.out 3
      have d4 : W.cell? ⟨wr.heap.size, 4, none⟩ = some (.string ⟨x.html.toArray⟩) := cell_blk HB.out 4
      have hfi := hfk.1
      clear hkN hW hfk
      obtain ⟨CX, hCX⟩ : ∃ CX, chkEn x = CX := ⟨_, rfl⟩
      rw [hCX] at HC1 hce
      clear hCX
      go_upto_region 5 with fail
      rw [HW.out]
      by_cases hcx : CX = 0
      · subst hcx
        by_cases hmt : x.id ∈ met
        · have hR6 : R = 6 := by rw [← HC1.out]; simp [hmt]
          subst hR6
          have hd : decide (x.id ∈ met) = true := by simpa using hmt
          clear HC1 hmt
          go_wp2_with fail
          refine (hce.out W HKR.out).mono ?_
          rintro e w3 ⟨rfl, hk3⟩
          have hset3 := (hset.keeps (HKN.out.trans hk3) List.not_mem_nil)
          have HK3 := hide (HKR.out.trans hk3)
          have HB3 := hide ((hk3.block _ (lt_of_block HB.out) List.not_mem_nil).trans HB.out)
          have HKN3 := hide (HKN.out.trans hk3)
          clear hk3 a0 a1 a2 a3 a4
          have b0 : w3.cell? ⟨wr.heap.size, 0, none⟩ = some (.string ⟨x.id.toArray⟩) := cell_blk HB3.out 0
          have hlook := hset3.look x.id hfi
          rw [hd] at hlook
          go_wp2_with fail
          go_ret
          exact ⟨rfl, HK3.out.alloc _⟩
        · have hd : decide (x.id ∈ met) = false := by simpa using hmt
          have HC2 := hide (show (if backE pv x = true then 4 else chkEs (some x) (met ++ [x.id]) (l.drop (k + 1))) = R from by have := HC1.out; simpa [hmt] using this)
          clear HC1 hmt
          go_wp2_with fail
          refine (hce.out W HKR.out).mono ?_
          rintro e w3 ⟨rfl, hk3⟩
          have hset3 := (hset.keeps (HKN.out.trans hk3) List.not_mem_nil)
          have HK3 := hide (HKR.out.trans hk3)
          have HB3 := hide ((hk3.block _ (lt_of_block HB.out) List.not_mem_nil).trans HB.out)
          have HKN3 := hide (HKN.out.trans hk3)
          clear hk3 a0 a1 a2 a3 a4
          have b0 : w3.cell? ⟨wr.heap.size, 0, none⟩ = some (.string ⟨x.id.toArray⟩) := cell_blk HB3.out 0
          have hlook := hset3.look x.id hfi
          rw [hd] at hlook
          obtain ⟨W4, hW4⟩ : ∃ W4, w3.alloc (.cells #[] 182) = W4 := ⟨_, rfl⟩
          have hk4 : Keeps [] w3 W4 := by rw [← hW4]; exact (Keeps.refl [] w3).alloc _
          have HW4 := hide hW4
          have HK4 := hide (HK3.out.trans hk4)
          have HS4 := hide (hset3.keeps hk4 List.not_mem_nil)
          have HB4 := hide ((hk4.block _ (lt_of_block HB3.out) List.not_mem_nil).trans HB3.out)
          have HN4 := hide (HKN3.out.trans hk4)
          clear hk4 hW4
          go_upto_region 11 with fail
          rw [HW4.out]
          rcases Nat.eq_zero_or_pos k with hk00 | hk00
          · have hpn := HP0.out hk00
            subst hpn
            have HC3 : Hid (chkEs (some x) (met ++ [x.id]) (l.drop (k + 1)) = R) := hide (by have := HC2.out; simpa [backE] using this)
            subst hk00
            clear HC2 HP0 HPR
            have hall : ∀ n, ∃ w6, (Instr.mapUpdate 219 (.map (some w.heap.size)) (.string ⟨x.id.toArray⟩) (.agg #[])).run Tryz.prog (W4.drewN n) = .ok () w6 ∧ IsSet w6 w.heap.size (met ++ [x.id]) ∧ Keeps [w.heap.size] (W4.drewN n) w6 := fun n => (HS4.out.keeps ((Keeps.refl [] W4).drewN n) List.not_mem_nil).add x.id hfi hml
            obtain ⟨F, hF⟩ := Classical.axiomOfChoice hall
            have hup := fun n => (hF n).1
            have HF6 := hide (fun n => (hF n).2)
            have z0 : ∀ n, (W4.drewN n).cell? ⟨wr.heap.size, 0, none⟩ = some (.string ⟨x.id.toArray⟩) := fun n => cell_keeps ((Keeps.refl [] W4).drewN n) (cell_blk HB4.out 0)
            clear hall hF
            go_quiet (fail)
            go_wp2_with fail
            go_roundw
            case rel => exact ⟨1, by omega, by go_num, by rw [HTS.out]; exact (HF6.out _).1, ((HK4.out.trans ((Keeps.refl [] W4).drewN _)).up.trans (HF6.out _).2).mono (fun i hi hlt => by simp at hi; omega), by rw [HTS.out, HPV.out]; exact HC3⟩
            case measure => simp [intOf]; omega
          · obtain ⟨k1, rfl⟩ : ∃ k1, k = k1 + 1 := ⟨k - 1, by omega⟩
            obtain ⟨y, rfl, y0, y1, y2, y3, y4⟩ := HPR.out k1 rfl
            have hS0 : SP W4 wr.heap.size x g (o0 + k1 * 5) y W4 := ⟨Keeps.refl _ _, ⟨cell_blk HB4.out 0, cell_blk HB4.out 1, cell_blk HB4.out 2, cell_blk HB4.out 3, cell_blk HB4.out 4⟩, cell_keeps HN4.out y0, cell_keeps HN4.out y1, cell_keeps HN4.out y2, cell_keeps HN4.out y3, cell_keeps HN4.out y4⟩
            have hi1 : k1 < l.length := by omega
            have hi2 : (0 : Int) ≤ (k1 : Int) := by omega
            have hi3 : (k1 : Int) < (l.length : Int) := by omega
            have hi4 : wrap64 (k1 : Int) = (k1 : Int) := by unfold wrap64; omega
            have hi5 : wrap64 (((k1 + 1 : Nat) : Int) - 1) = (k1 : Int) := by unfold wrap64; omega
            have hi6 : IntKind.i64.wrap (((k1 + 1 : Nat) : Int) - 1) = (k1 : Int) := by rw [IntKind.wrap_i64]; omega
            have hi7 : IntKind.i64.wrap (k1 : Int) = (k1 : Int) := by rw [IntKind.wrap_i64]; omega
            have hi8 : (((k1 + 1 : Nat) : Int) - 1) = (k1 : Int) := by omega
            have hord := hide (fun w => order_any y x w)
            unfold enCells at hord
            clear y0 y1 y2 y3 y4 HPR HP0
            obtain ⟨OD, hOD⟩ : ∃ OD, ordE y x = OD := ⟨_, rfl⟩
            rw [hOD] at hord
            by_cases hbk : 0 < OD
            · have hR4 : R = 4 := by rw [← HC2.out]; simp [backE, hOD, hbk]
              subst hR4
              have dbk : decide (0 < OD) = true := decide_eq_true hbk
              clear HC2 hOD hbk
              have hS1 := hS0
              obtain ⟨_, ⟨b0', b1, b2, b3, b4⟩, c0, c1, c2, c3, c4⟩ := hS1
              go_region_held3 (SP W4 wr.heap.size x g (o0 + k1 * 5) y) ((first | assumption | (refine SP.keeps hS0 ?_; first | exact (Keeps.refl [] W4) | exact (Keeps.refl [] W4).drew | exact (‹SP W4 wr.heap.size x g (o0 + k1 * 5) y _›).1.trans hkx | exact (‹SP W4 wr.heap.size x g (o0 + k1 * 5) y _›).1.alloc _ | exact (‹SP W4 wr.heap.size x g (o0 + k1 * 5) y _›).1.drewN _)))
                (first
                  | (go_at_call 192; refine (hord.out _).mono ?_; rintro e w7 ⟨rfl, hkx⟩))
              all_goals go_wp2_with fail
              all_goals go_ret
              all_goals exact ⟨rfl, HK4.out.trans (‹SP W4 wr.heap.size x g (o0 + k1 * 5) y _›).1⟩
            · have dbk : decide (0 < OD) = false := decide_eq_false hbk
              have HC3 : Hid (chkEs (some x) (met ++ [x.id]) (l.drop (k1 + 1 + 1)) = R) := hide (by have := HC2.out; simpa [backE, hOD, hbk] using this)
              clear HC2 hOD hbk
              have hS1 := hS0
              obtain ⟨_, ⟨b0', b1, b2, b3, b4⟩, c0, c1, c2, c3, c4⟩ := hS1
              go_region_held3 (SP W4 wr.heap.size x g (o0 + k1 * 5) y) ((first | assumption | (refine SP.keeps hS0 ?_; first | exact (Keeps.refl [] W4) | exact (Keeps.refl [] W4).drew | exact (‹SP W4 wr.heap.size x g (o0 + k1 * 5) y _›).1.trans hkx | exact (‹SP W4 wr.heap.size x g (o0 + k1 * 5) y _›).1.alloc _ | exact (‹SP W4 wr.heap.size x g (o0 + k1 * 5) y _›).1.drewN _)))
                (first
                  | (go_at_call 192; refine (hord.out _).mono ?_; rintro e w7 ⟨rfl, hkx⟩))
              all_goals obtain ⟨hkS, ⟨s0, s1, s2, s3, s4⟩, _⟩ := ‹SP W4 wr.heap.size x g (o0 + k1 * 5) y _›
              all_goals obtain ⟨w6, hup, hset6, hk6⟩ := (HS4.out.keeps hkS List.not_mem_nil).add x.id hfi hml
              all_goals have hkw6 : Hid (Keeps [] w w6) := hide (((HK4.out.trans hkS).up.trans hk6).mono fun i hi hlt => by simp at hi; omega)
              all_goals have HS6 := hide hset6
              all_goals clear hkS hset6 hk6
              all_goals go_wp2_with fail
              all_goals go_roundw
              all_goals first
                | exact ⟨k1 + 1 + 1, by omega, by go_num, by rw [HTS.out]; exact HS6.out, hkw6.out, by rw [HTS.out, HPV.out]; exact HC3⟩
                | (simp [intOf]; omega)
      · have hRx : R = CX := by rw [← HC1.out]; simp [hcx]
        have hne : (CX != 0) = true := by simpa using hcx
        subst hRx
        clear HC1
        go_wp2_with fail
        refine (hce.out W HKR.out).mono ?_
        rintro e w3 ⟨rfl, hk3⟩
        have hset3 := (hset.keeps (HKN.out.trans hk3) List.not_mem_nil)
        have HK3 := hide (HKR.out.trans hk3)
        have HB3 := hide ((hk3.block _ (lt_of_block HB.out) List.not_mem_nil).trans HB.out)
        have HKN3 := hide (HKN.out.trans hk3)
        clear hk3 a0 a1 a2 a3 a4
        have b0 : w3.cell? ⟨wr.heap.size, 0, none⟩ = some (.string ⟨x.id.toArray⟩) := cell_blk HB3.out 0
        go_wp2_with fail
        go_ret
        exact ⟨rfl, HK3.out⟩
    · have hRR : R = 0 := by
        rw [← hC.out, List.drop_eq_nil_of_le (by omega)]
        rfl
      subst hRR
      go_wp2_with fail
      go_ret
      exact ⟨rfl, hkw⟩
end Go.Proofs.YtlcljanibjdejaaGreat
namespace Go.Proofs.YtlcljanibjdejaaGreat
open Go.RowKit Go.Maps
def idCs (l : List (List UInt8)) : List Value := l.map fun s => .string ⟨s.toArray⟩
theorem idCs_at (l : List (List UInt8)) (k : Nat) (hk : k < l.length) : (idCs l)[k]? = some (.string ⟨l[k].toArray⟩) := by simp [idCs, hk]
def notUp (p : Option (List UInt8)) (x : List UInt8) : Bool := match p with
  | none => false
  | some y => !lessL y x
def chkRead : Option (List UInt8) → List (List UInt8) → Int
  | _, [] => 0
  | p, x :: r => if x = [] then 1 else if 60 < x.length then 2 else if notUp p x = true then 4 else chkRead (some x) r
theorem chkRead_drop (p : Option (List UInt8)) (l : List (List UInt8)) (k : Nat) (hk : k < l.length) : chkRead p (l.drop k) = if l[k] = [] then 1 else if 60 < l[k].length then 2 else if notUp p l[k] = true then 4 else chkRead (some l[k]) (l.drop (k + 1)) := by
  rw [List.drop_eq_getElem_cons hk]
  rfl
def prevI (l : List (List UInt8)) (k : Nat) : Option (List UInt8) := if k = 0 then none else l[k - 1]?
theorem leq_B (a b : List UInt8) : (lessL a b || (a == b)) = !lessL b a := by
  rcases lessL_total a b with h | h | h
  · subst h; simp [lessL_irrefl]
  · simp [h, lessL_asymm h]
  · have : a ≠ b := fun e => by subst e; rw [lessL_irrefl] at h; cases h
    simp [h, lessL_asymm h, this]
set_option maxRecDepth 8000 in
set_option maxHeartbeats 16000000 in
theorem checkRead_any (w : World) (v : Value) (l : List (List UInt8)) (hv : Lies w v l.length 1 (idCs l)) :
    Calls Tryz.prog 134 #[v] w fun e w' => e = .returned (.int .i64 (chkRead none l)) ∧ Keeps [] w w' := by
  obtain ⟨o, c, rfl, h1, h2⟩ := hv.form
  have HV := hide hv
  clear hv
  unfold maxLen at h2
  obtain ⟨R, hR⟩ : ∃ R, chkRead none l = R := ⟨_, rfl⟩
  rw [hR]
  have HR := hide hR
  clear hR
  go_enter Tryz.func134, Tryz.ntmps134
  go_wp2_with fail
  go_loopw [7] (fun i wr => ∃ k : Nat, k ≤ l.length ∧ i = .int .i64 k ∧ Keeps [] w wr ∧ Hid (chkRead (prevI l k) (l.drop k) = R)) (fun i _ => l.length - (intOf i).toNat)
  case atStart => exact ⟨0, Nat.zero_le _, rfl, Keeps.refl _ _, HR⟩
  case round =>
    obtain ⟨k, hk, rfl, hkw, hC⟩ := hrel
    clear HR
    by_cases hlt : k < l.length
    · have hC1 := hC.out
      rw [chkRead_drop _ l k hlt] at hC1
      have hpv : prevI l (k + 1) = some l[k] := by simp [prevI, hlt]
      have hp0 : k = 0 → prevI l k = none := fun e => by simp [prevI, e]
      obtain ⟨g, o0, rfl, hc⟩ := (HV.out.keeps hkw).addr (by omega)
      have a0 := hc _ _ (idCs_at l k hlt)
      have hprev : ∀ k1, k = k1 + 1 → ∃ y, prevI l k = some y ∧ wr.cell? ⟨g, o0 + k1, none⟩ = some (.string ⟨y.toArray⟩) := fun k1 e => by
        have h9 := hc _ _ (idCs_at l k1 (by omega))
        exact ⟨l[k1], by subst e; simp [prevI, show k1 < l.length from by omega], h9⟩
      have HC1 := hide hC1
      have HP0 := hide hp0
      have HPV := hide hpv
      have HPR := hide hprev
      clear hC hC1 hc hpv hprev hp0
      generalize prevI l k = pv at *
      generalize l[k] = x at *
      have zx := str_size x
      by_cases hx0 : x = []
      · have hR1 : R = 1 := by rw [← HC1.out]; simp [hx0]
        have e1 : x.isEmpty = true := by simpa using hx0
        subst hR1
        clear HC1 HPR HP0 hx0
        go_wp2_with fail
        go_ret
        exact ⟨rfl, hkw⟩
      · have e1 : x.isEmpty = false := by simpa using hx0
        by_cases hx6 : 60 < x.length
        · have hR2 : R = 2 := by rw [← HC1.out]; simp [hx0, hx6]
          have e2 : decide ((60 : Int) < (x.length : Int)) = true := by simp; omega
          subst hR2
          clear HC1 HPR HP0 hx0 hx6
          go_wp2_with fail
          go_ret
          exact ⟨rfl, hkw⟩
        · have e2 : decide ((60 : Int) < (x.length : Int)) = false := by simp; omega
          have HC2 := hide (show (if notUp pv x = true then 4 else chkRead (some x) (l.drop (k + 1))) = R from by have := HC1.out; simpa [hx0, hx6] using this)
          clear HC1 hx0 hx6
          rcases Nat.eq_zero_or_pos k with hk00 | hk00
          · have hpn := HP0.out hk00
            subst hpn
            have HC3 : Hid (chkRead (some x) (l.drop (k + 1)) = R) := hide (by have := HC2.out; simpa [notUp] using this)
            subst hk00
            rw [Nat.add_zero] at a0
            clear HC2 HP0 HPR
            go_wp2_with fail
            go_roundw
            case rel => exact ⟨1, by omega, by go_num, hkw, by rw [HPV.out]; exact HC3⟩
            case measure => simp [intOf]; omega
          · obtain ⟨k1, rfl⟩ : ∃ k1, k = k1 + 1 := ⟨k - 1, by omega⟩
            obtain ⟨y, rfl, y0⟩ := HPR.out k1 rfl
            have hi1 : k1 < l.length := by omega
            have hi2 : (0 : Int) ≤ (k1 : Int) := by omega
            have hi3 : (k1 : Int) < (l.length : Int) := by omega
            have hi4 : wrap64 (k1 : Int) = (k1 : Int) := by unfold wrap64; omega
            have hi5 : wrap64 (((k1 + 1 : Nat) : Int) - 1) = (k1 : Int) := by unfold wrap64; omega
            have hi6 : IntKind.i64.wrap (((k1 + 1 : Nat) : Int) - 1) = (k1 : Int) := by rw [IntKind.wrap_i64]; omega
            have hi8 : (((k1 + 1 : Nat) : Int) - 1) = (k1 : Int) := by omega
            have b1 := bytesLess_L x y
            have b2 := leq_B x y
            rw [← b1] at b2
            have HC3 := hide (show (if (!lessL y x) = true then 4 else chkRead (some x) (l.drop (k1 + 1 + 1))) = R from by have := HC2.out; simpa [notUp] using this)
            clear HC2 HP0 HPR b1
            generalize lessL y x = U at *
            cases U
            · have hR4 : R = 4 := by rw [← HC3.out]; simp
              subst hR4
              simp only [Bool.not_false] at b2
              clear HC3
              go_wp2_with fail
              go_ret
              exact ⟨rfl, hkw⟩
            · have HC4 : Hid (chkRead (some x) (l.drop (k1 + 1 + 1)) = R) := hide (by have := HC3.out; simpa using this)
              simp only [Bool.not_true] at b2
              clear HC3
              go_wp2_with fail
              go_roundw
              case rel => exact ⟨k1 + 1 + 1, by omega, by go_num, hkw, by rw [HPV.out]; exact HC4⟩
              case measure => simp [intOf]; omega
    · have hRR : R = 0 := by
        rw [← hC.out, List.drop_eq_nil_of_le (by omega)]
        rfl
      subst hRR
      go_wp2_with fail
      go_ret
      exact ⟨rfl, hkw⟩
/-- A shelf. -/
structure Sh where
  es : List En
  rd : List (List UInt8)
def chkSh (s : Sh) : Int := if 20 < s.es.length ∨ 40 < s.rd.length then 2 else if chkEs none [] s.es ≠ 0 then chkEs none [] s.es else chkRead none s.rd
set_option maxRecDepth 8000 in
set_option maxHeartbeats 8000000 in
theorem shelfCheck_any (w : World) (ev rv : Value) (s : Sh) (he : Lies w ev s.es.length 5 (ensCells s.es)) (hr : Lies w rv s.rd.length 1 (idCs s.rd)) (hf : ∀ x ∈ s.es, FitE x) (hM : HasMax w) :
    Calls Tryz.prog 51 #[.agg #[ev, rv]] w fun e w' => e = .returned (.int .i64 (chkSh s)) ∧ Keeps [] w w' := by
  obtain ⟨eo, ec, rfl, h1, h2⟩ := he.form
  obtain ⟨ro, rc, rfl, h3, h4⟩ := hr.form
  obtain ⟨C, hC⟩ : ∃ C, chkSh s = C := ⟨_, rfl⟩
  rw [hC]
  unfold chkSh at hC
  obtain ⟨W, hW⟩ : ∃ W, w.alloc (.cells #[.slice eo s.es.length ec, .slice ro s.rd.length rc] 64) = W := ⟨_, rfl⟩
  have hkW : Keeps [] w W := by rw [← hW]; exact (Keeps.refl [] w).alloc _
  have hb := (nblk_new rfl hW).1
  have b0 : W.cell? ⟨w.heap.size, 0, none⟩ = some (.slice eo s.es.length ec) := cell_blk hb 0
  have b1 : W.cell? ⟨w.heap.size, 1, none⟩ = some (.slice ro s.rd.length rc) := cell_blk hb 1
  have HB := hide hb
  have HKW := hide hkW
  have HW := hide hW
  have hce := hide (checkEntries_any W _ s.es (he.keeps hkW) hf (hM.keeps hkW List.not_mem_nil))
  have hcr := hide (fun w1 (hk : Keeps [] w w1) => checkRead_any w1 _ s.rd (hr.keeps hk))
  clear he hr hf hM hkW hb hW
  unfold maxLen at h2 h4
  generalize chkEs none [] s.es = CE at *
  generalize chkRead none s.rd = CR at *
  by_cases h20 : 20 < s.es.length
  · rw [if_pos (.inl h20)] at hC
    have d : decide ((20 : Int) < (s.es.length : Int)) = true := by simp; omega
    subst hC
    clear h20
    go_enter Tryz.func51, Tryz.ntmps51
    go_upto_region 1 with fail
    rw [HW.out]
    go_wp2_with fail
    go_ret
    exact ⟨rfl, HKW.out⟩
  · have d : decide ((20 : Int) < (s.es.length : Int)) = false := by simp; omega
    by_cases h40 : 40 < s.rd.length
    · rw [if_pos (.inr h40)] at hC
      have d4 : decide ((40 : Int) < (s.rd.length : Int)) = true := by simp; omega
      subst hC
      clear h20 h40
      go_enter Tryz.func51, Tryz.ntmps51
      go_upto_region 1 with fail
      rw [HW.out]
      go_wp2_with fail
      go_ret
      exact ⟨rfl, HKW.out⟩
    · have d4 : decide ((40 : Int) < (s.rd.length : Int)) = false := by simp; omega
      rw [if_neg (by omega)] at hC
      clear h20 h40
      by_cases hcx : CE = 0
      · subst hcx
        simp only [ne_eq, not_true, if_false] at hC
        subst hC
        go_enter Tryz.func51, Tryz.ntmps51
        go_upto_region 1 with fail
        rw [HW.out]
        go_wp2_with fail
        refine hce.out.mono ?_
        rintro e w1 ⟨rfl, hk1⟩
        have c1 : w1.cell? ⟨w.heap.size, 1, none⟩ = some (.slice ro s.rd.length rc) := ncell_all hk1 HB.out 1
        have HK1 := hide (HKW.out.trans hk1)
        clear hk1 b0 b1
        go_wp2_with fail
        refine (hcr.out w1 HK1.out).mono ?_
        rintro e w2 ⟨rfl, hk2⟩
        go_wp2_with fail
        go_ret
        exact ⟨rfl, HK1.out.trans hk2⟩
      · rw [if_pos hcx] at hC
        subst hC
        have hne : (CE != 0) = true := by simpa using hcx
        go_enter Tryz.func51, Tryz.ntmps51
        go_upto_region 1 with fail
        rw [HW.out]
        go_wp2_with fail
        refine hce.out.mono ?_
        rintro e w1 ⟨rfl, hk1⟩
        go_wp2_with fail
        go_ret
        exact ⟨rfl, HKW.out.trans hk1⟩
end Go.Proofs.YtlcljanibjdejaaGreat
namespace Go.Proofs.YtlcljanibjdejaaGreat
open Go.RowKit Go.Maps
def hasW (x : En) (word : List UInt8) : Bool := standsW word x.title || standsW word (wordsS x.html)
end Go.Proofs.YtlcljanibjdejaaGreat
namespace Go.Proofs.YtlcljanibjdejaaGreat
open Go.RowKit Go.Maps
set_option maxHeartbeats 1000000 in
theorem lower_big (s : ByteArray) (w : World) (hs : s.size ≤ 100000) :
    Calls Tryz.prog 149 #[.string s] w fun e w' => e = .returned (.string ⟨(lowerL s.data.toList).toArray⟩) ∧ Keeps [] w w' := by
  obtain ⟨W, cap, hcv, hrow, hkW⟩ := bytes_new s w
  have hl := len_size s
  go_enter Tryz.func149, Tryz.ntmps149
  go_wp2_with fail
  go_loopw [10] (fun i wr => ∃ k : Nat, k ≤ s.size ∧ i = .int .i64 k ∧ RowAt wr w.heap.size (lowTo s.data.toList k) ∧ Keeps [] w wr) (fun i _ => s.size - (intOf i).toNat)
  case atStart => exact ⟨0, Nat.zero_le _, rfl, by rw [lowTo_zero]; exact hrow, hkW⟩
  case round =>
    obtain ⟨k, hk, rfl, hr, hkp⟩ := hrel
    clear hcv hrow hkW
    by_cases hlt : k < s.size
    · have hk' : k < s.data.toList.length := by omega
      have hc1 := (hr k (by rw [lowTo_len]; exact hk')).1
      have hf1 := (hr k (by rw [lowTo_len]; exact hk')).2
      rw [lowTo_get _ _ hk'] at hc1
      have hsucc := lowTo_succ s.data.toList k hk'
      have hset : (lowTo s.data.toList k).set k s.data.toList[k] = lowTo s.data.toList k := by
        have := @List.set_getElem_self _ (lowTo s.data.toList k) k (by rw [lowTo_len]; exact hk')
        rwa [lowTo_get _ _ hk'] at this
      generalize s.data.toList[k] = c at *
      cases hb : bigB c
      · have e1 : lowTo s.data.toList (k + 1) = lowTo s.data.toList k := by
          rw [hsucc]
          have : lowB c = c := by simp [lowB, hb]
          rw [this]
          exact hset
        have HR : Hid (RowAt wr w.heap.size (lowTo s.data.toList (k + 1))) := by rw [e1]; exact hr
        clear hsucc e1 hset
        cases hsm : smallB c
        · have hl0 : letterB c = false := by simp [letterB, hb, hsm]
          have hLt := hide (fun w => hl0 ▸ letter_any c w)
          clear hb hsm hl0
          go_wp2_with (go_at_call 224; refine (hLt.out _).mono ?_; rintro e w' ⟨rfl, rfl⟩)
          go_roundw
          case rel => exact ⟨k + 1, by omega, by go_num, HR.out, hkp⟩
          case measure => simp [intOf]; omega
        · have hl0 : letterB c = true := by simp [letterB, hsm]
          have hLt := hide (fun w => hl0 ▸ letter_any c w)
          have hSm := hide (fun w => hsm ▸ small_any c w)
          clear hb hsm hl0
          go_wp2_with (first | (go_at_call 224; refine (hLt.out _).mono ?_; rintro e w' ⟨rfl, rfl⟩) | (go_at_call 225; refine (hSm.out _).mono ?_; rintro e w' ⟨rfl, rfl⟩))
          go_roundw
          case rel => exact ⟨k + 1, by omega, by go_num, HR.out, hkp⟩
          case measure => simp [intOf]; omega
      · have hv := low_val c hb
        have hb' : 65 ≤ c.toNat ∧ c.toNat ≤ 90 := by simpa [bigB] using hb
        have hLt := hide (fun w => (show letterB c = true from by simp [letterB, hb]) ▸ letter_any c w)
        have hs0 : smallB c = false := by simp [smallB]; omega
        have hSm := hide (fun w => hs0 ▸ small_any c w)
        clear hs0
        have HR := hide (hr.set (by rw [lowTo_len]; exact hk') (lowB c))
        rw [← hsucc, hv] at HR
        clear hsucc hb hv
        go_wp2_with (first | (go_at_call 224; refine (hLt.out _).mono ?_; rintro e w' ⟨rfl, rfl⟩) | (go_at_call 225; refine (hSm.out _).mono ?_; rintro e w' ⟨rfl, rfl⟩))
        go_roundw
        case rel => exact ⟨k + 1, by omega, by go_num, HR.out, hkp.setCell (by simp) _⟩
        case measure => simp [intOf]; omega
    · have he : lowTo s.data.toList k = lowerL s.data.toList := by rw [show k = s.data.toList.length from by omega]; exact lowTo_all _
      rw [he] at hr
      have hlen : (lowerL s.data.toList).length = s.size := by simp [lowerL]
      have hcv2 := run_convert_bytes_back (P := Tryz.prog) wr 107 9 5 ⟨w.heap.size, 0, none⟩ cap (lowerL s.data.toList) Tryz.underlying107 Tryz.underlying5 Tryz.underlying9 (fun j hj => by
        rw [add_zero]; exact (hr j hj).1)
      rw [hlen] at hcv2
      clear he hr
      go_wp2_with fail
      go_ret
      exact ⟨rfl, hkp⟩
theorem stands213_big (word text : List UInt8) (w : World) (hM : HasMax w) (h1 : word.length ≤ 3000) (h2 : text.length ≤ 36000) :
    Calls Tryz.prog 213 #[.string ⟨word.toArray⟩, .string ⟨text.toArray⟩] w fun e w' => e = .returned (.bool (standsW word text)) ∧ Keeps [] w w' := by
  have nn : ∀ g, g ∉ ([] : List Nat) := fun _ => List.not_mem_nil
  have hl1 := hide (fun w => lower_big ⟨word.toArray⟩ w (by rw [str_size]; omega))
  have hl2 := hide (fun w => lower_big ⟨text.toArray⟩ w (by rw [str_size]; omega))
  rw [str_list] at hl1 hl2
  have hln : (lowerL text).length ≤ 36000 := by simp [lowerL]; omega
  have hc := hide (fun w1 (hk : Keeps [] w w1) => show Calls Tryz.prog 282 #[.string ⟨(lowerL text).toArray⟩, .string ⟨(lowerL word).toArray⟩] w1 fun e w' => e = .returned (.bool (standsW word text)) ∧ w' = w1 from by
    obtain ⟨m, hm⟩ := hM.keeps hk (nn _)
    exact Tryz.strings_Contains _ _ m w1 (by rw [str_size]; omega) hm)
  generalize standsW word text = R at *
  generalize lowerL word = A at *
  generalize lowerL text = B at *
  clear h1 h2 hln hM
  go_enter Tryz.func213, Tryz.ntmps213
  go_wp2_with fail
  refine (hl2.out _).mono ?_
  rintro e w1 ⟨rfl, hk1⟩
  have HK1 := hide hk1
  clear hk1
  go_wp2_with fail
  refine (hl1.out _).mono ?_
  rintro e w2 ⟨rfl, hk2⟩
  have HK2 := hide (HK1.out.trans hk2)
  clear hk2
  go_wp2_with fail
  refine (hc.out w2 HK2.out).mono ?_
  rintro e w3 ⟨rfl, h9⟩
  subst h9
  go_wp2_with fail
  go_ret
  exact ⟨rfl, HK2.out⟩
set_option maxRecDepth 4000 in
set_option maxHeartbeats 4000000 in
theorem has138_all (x : En) (word : List UInt8) (w : World) (hM : HasMax w) (h1 : word.length ≤ 3000) (h2 : x.title.length ≤ 3000) (h3 : x.html.length ≤ 3000) :
    Calls Tryz.prog 138 #[.agg (enCells x).toArray, .string ⟨word.toArray⟩] w fun e w' => e = .returned (.bool (hasW x word)) ∧ Keeps [] w w' := by
  have nn : ∀ g, g ∉ ([] : List Nat) := fun _ => List.not_mem_nil
  obtain ⟨W, hW⟩ : ∃ W, w.alloc (.cells (enCells x).toArray 75) = W := ⟨_, rfl⟩
  have hkW : Keeps [] w W := by rw [← hW]; exact (Keeps.refl [] w).alloc _
  have hb := (nblk_new rfl hW).1
  have b4 : W.cell? ⟨w.heap.size, 4, none⟩ = some (.string ⟨x.html.toArray⟩) := cell_blk hb 4
  have HB := hide hb
  have HKW := hide hkW
  have HW := hide hW
  have hwd := hide (find57_all x.html W (hM.keeps hkW (nn _)) h3)
  have h4 := words_size x.html h3
  have hs1 := hide (fun w1 (hk : Keeps [] w w1) => stands213_any word x.title w1 (hM.keeps hk (nn _)) h1 h2)
  have hs2 := hide (fun w1 (hk : Keeps [] w w1) => stands213_big word (wordsS x.html) w1 (hM.keeps hk (nn _)) h1 h4)
  unfold hasW
  generalize standsW word x.title = A at *
  generalize standsW word (wordsS x.html) = B at *
  generalize wordsS x.html = WS at *
  clear hW hkW hb hM h1 h2 h3 h4
  cases A
  · go_enter Tryz.func138, Tryz.ntmps138
    go_upto_region 1 with fail
    rw [HW.out]
    go_wp2_with fail
    refine hwd.out.mono ?_
    rintro e w1 ⟨rfl, hk1⟩
    have b1 : w1.cell? ⟨w.heap.size, 1, none⟩ = some (.string ⟨x.title.toArray⟩) := ncell_all hk1 HB.out 1
    have HK1 := hide (HKW.out.trans hk1)
    clear hk1 b4
    go_wp2_with fail
    refine (hs1.out w1 HK1.out).mono ?_
    rintro e w2 ⟨rfl, hk2⟩
    have HK2 := hide (HK1.out.trans hk2)
    clear hk2
    go_wp2_with fail
    refine (hs2.out w2 HK2.out).mono ?_
    rintro e w3 ⟨rfl, hk3⟩
    have HK3 := hide (HK2.out.trans hk3)
    clear hk3
    go_wp2_with fail
    go_ret
    exact ⟨by simp, HK3.out⟩
  · go_enter Tryz.func138, Tryz.ntmps138
    go_upto_region 1 with fail
    rw [HW.out]
    go_wp2_with fail
    refine hwd.out.mono ?_
    rintro e w1 ⟨rfl, hk1⟩
    have b1 : w1.cell? ⟨w.heap.size, 1, none⟩ = some (.string ⟨x.title.toArray⟩) := ncell_all hk1 HB.out 1
    have HK1 := hide (HKW.out.trans hk1)
    clear hk1 b4
    go_wp2_with fail
    refine (hs1.out w1 HK1.out).mono ?_
    rintro e w2 ⟨rfl, hk2⟩
    have HK2 := hide (HK1.out.trans hk2)
    clear hk2
    go_wp2_with fail
    go_ret
    exact ⟨by simp, HK2.out⟩
end Go.Proofs.YtlcljanibjdejaaGreat
namespace Go.Proofs.YtlcljanibjdejaaGreat
open Go.RowKit Go.Maps
def chkWord (s : List UInt8) : Int := if s = [] then 1 else if 60 < s.length then 2 else 0
theorem checkWord_any (s : List UInt8) (w : World) (hs : s.length ≤ maxLen) :
    Calls Tryz.prog 137 #[.string ⟨s.toArray⟩] w fun e w' => e = .returned (.int .i64 (chkWord s)) ∧ w' = w := by
  unfold maxLen at hs
  have hss := str_size s
  have hse := strEq s []
  obtain ⟨C, hC⟩ : ∃ C, chkWord s = C := ⟨_, rfl⟩
  rw [hC]
  unfold chkWord at hC
  by_cases h0 : s = []
  · rw [if_pos h0] at hC
    rw [decide_eq_true h0] at hse
    have hem : s.isEmpty = true := by simpa using h0
    subst hC
    clear h0
    go_enter Tryz.func137, Tryz.ntmps137
    go_wp2_with fail
    go_ret
    exact ⟨rfl, rfl⟩
  · rw [if_neg h0] at hC
    rw [decide_eq_false h0] at hse
    have hem : s.isEmpty = false := by simpa using h0
    clear h0
    by_cases h6 : 60 < s.length
    · rw [if_pos h6] at hC
      have d : decide ((60 : Int) < (s.length : Int)) = true := by simp; omega
      subst hC
      clear h6
      go_enter Tryz.func137, Tryz.ntmps137
      go_wp2_with fail
      go_ret
      exact ⟨rfl, rfl⟩
    · rw [if_neg h6] at hC
      have d : decide ((60 : Int) < (s.length : Int)) = false := by simp; omega
      subst hC
      clear h6
      go_enter Tryz.func137, Tryz.ntmps137
      go_wp2_with fail
      go_ret
      exact ⟨rfl, rfl⟩
theorem chkEn_sizes {x : En} (h : chkEn x = 0) : x.id.length ≤ 60 ∧ x.title.length ≤ 3000 ∧ x.link.length ≤ 3000 ∧ x.html.length ≤ 3000 := by
  unfold chkEn at h
  split at h
  · simp at h
  · split at h
    · simp at h
    · omega
theorem chkWord_size {s : List UInt8} (h : chkWord s = 0) : s.length ≤ 60 := by
  unfold chkWord at h
  split at h
  · simp at h
  · split at h
    · simp at h
    · omega
def chkHas (x : En) (word : List UInt8) : Int := if chkEn x ≠ 0 then chkEn x else chkWord word
def hasAns (x : En) (word : List UInt8) : Bool := if chkHas x word = 0 then hasW x word else false
set_option maxRecDepth 4000 in
set_option maxHeartbeats 4000000 in
theorem has58_any (x : En) (word : List UInt8) (w : World) (hM : HasMax w) (hF : FitE x) (hl : word.length ≤ maxLen) :
    Calls Tryz.prog 58 #[.agg (enCells x).toArray, .string ⟨word.toArray⟩] w fun e w' => e = .returned (.tuple #[.bool (hasAns x word), .int .i64 (chkHas x word)]) ∧ Keeps [] w w' := by
  have nn : ∀ g, g ∉ ([] : List Nat) := fun _ => List.not_mem_nil
  obtain ⟨W, hW⟩ : ∃ W, w.alloc (.cells (enCells x).toArray 75) = W := ⟨_, rfl⟩
  have hkW : Keeps [] w W := by rw [← hW]; exact (Keeps.refl [] w).alloc _
  have hb := (nblk_new rfl hW).1
  have HB := hide hb
  have HKW := hide hkW
  have HW := hide hW
  have hce := hide (checkEn_any x W hF (hM.keeps hkW (nn _)))
  have hcw := hide (fun w => checkWord_any word w hl)
  have hh := hide (fun (h1 : word.length ≤ 60) (h2 : chkEn x = 0) w1 (hk : Keeps [] w w1) => has138_all x word w1 (hM.keeps hk (nn _)) (by omega) (chkEn_sizes h2).2.1 (chkEn_sizes h2).2.2.2)
  have hA : chkHas x word = 0 → hasAns x word = hasW x word := fun h => by simp [hasAns, h]
  have hB : chkHas x word ≠ 0 → hasAns x word = false := fun h => by simp [hasAns, h]
  have hs1 : chkWord word = 0 → word.length ≤ 60 := chkWord_size
  have b0 : W.cell? ⟨w.heap.size, 0, none⟩ = some (.string ⟨x.id.toArray⟩) := cell_blk hb 0
  have b1 : W.cell? ⟨w.heap.size, 1, none⟩ = some (.string ⟨x.title.toArray⟩) := cell_blk hb 1
  have b2 : W.cell? ⟨w.heap.size, 2, none⟩ = some (.string ⟨x.link.toArray⟩) := cell_blk hb 2
  have b3 : W.cell? ⟨w.heap.size, 3, none⟩ = some (.int .i64 x.tm) := cell_blk hb 3
  have b4 : W.cell? ⟨w.heap.size, 4, none⟩ = some (.string ⟨x.html.toArray⟩) := cell_blk hb 4
  unfold enCells at hce hh
  obtain ⟨E, hE⟩ : ∃ E, chkHas x word = E := ⟨_, rfl⟩
  rw [hE] at hA hB ⊢
  unfold chkHas at hE
  obtain ⟨C1, hC1⟩ : ∃ C, chkEn x = C := ⟨_, rfl⟩
  obtain ⟨C2, hC2⟩ : ∃ C, chkWord word = C := ⟨_, rfl⟩
  rw [hC1] at hE hce hh
  rw [hC2] at hE hcw hs1
  generalize hasAns x word = AN at *
  clear hW hkW hb hM hF hl hC1 hC2
  by_cases h1 : C1 = 0
  · subst h1
    simp only [ne_eq, not_true, if_false] at hE
    subst hE
    by_cases h2 : C2 = 0
    · subst h2
      have e := hA rfl
      subst e
      have hh2 := hide (hh.out (hs1 rfl) rfl)
      clear hA hB hh hs1
      generalize hasW x word = R at *
      go_enter Tryz.func58, Tryz.ntmps58
      go_upto_region 1 with fail
      rw [HW.out]
      go_wp2_with fail
      refine hce.out.mono ?_
      rintro e w1 ⟨rfl, hk1⟩
      have c0 : w1.cell? ⟨w.heap.size, 0, none⟩ = some (.string ⟨x.id.toArray⟩) := ncell_all hk1 HB.out 0
      have c1 : w1.cell? ⟨w.heap.size, 1, none⟩ = some (.string ⟨x.title.toArray⟩) := ncell_all hk1 HB.out 1
      have c2 : w1.cell? ⟨w.heap.size, 2, none⟩ = some (.string ⟨x.link.toArray⟩) := ncell_all hk1 HB.out 2
      have c3 : w1.cell? ⟨w.heap.size, 3, none⟩ = some (.int .i64 x.tm) := ncell_all hk1 HB.out 3
      have c4 : w1.cell? ⟨w.heap.size, 4, none⟩ = some (.string ⟨x.html.toArray⟩) := ncell_all hk1 HB.out 4
      have HK1 := hide (HKW.out.trans hk1)
      clear hk1 b0 b1 b2 b3 b4
      go_wp2_with fail
      refine (hcw.out w1).mono ?_
      rintro e w2 ⟨rfl, h9⟩
      subst h9
      go_wp2_with fail
      refine (hh2.out _ HK1.out).mono ?_
      rintro e w3 ⟨rfl, hk3⟩
      go_wp2_with fail
      go_ret2
      exact ⟨rfl, HK1.out.trans hk3⟩
    · have e := hB h2
      subst e
      have hne : (C2 != 0) = true := by simpa using h2
      clear hA hB hh hs1
      go_enter Tryz.func58, Tryz.ntmps58
      go_upto_region 1 with fail
      rw [HW.out]
      go_wp2_with fail
      refine hce.out.mono ?_
      rintro e w1 ⟨rfl, hk1⟩
      have HK1 := hide (HKW.out.trans hk1)
      clear hk1 b0 b1 b2 b3 b4
      go_wp2_with fail
      refine (hcw.out w1).mono ?_
      rintro e w2 ⟨rfl, h9⟩
      subst h9
      go_wp2_with fail
      go_ret2
      exact ⟨rfl, HK1.out⟩
  · rw [if_pos h1] at hE
    subst hE
    have e := hB h1
    subst e
    have hne : (C1 != 0) = true := by simpa using h1
    clear hA hB hh hs1
    go_enter Tryz.func58, Tryz.ntmps58
    go_upto_region 1 with fail
    rw [HW.out]
    go_wp2_with fail
    refine hce.out.mono ?_
    rintro e w1 ⟨rfl, hk1⟩
    have HK1 := hide (HKW.out.trans hk1)
    clear hk1 b0 b1 b2 b3 b4
    go_wp2_with fail
    go_ret2
    exact ⟨rfl, HK1.out⟩
end Go.Proofs.YtlcljanibjdejaaGreat
namespace Go.Proofs.YtlcljanibjdejaaGreat
open Go.RowKit Go.Maps
theorem chkEs_all : ∀ (l : List En) (p : Option En) (met : List (List UInt8)), chkEs p met l = 0 → ∀ x ∈ l, chkEn x = 0
  | [], _, _, _, x, hx => by simp at hx
  | y :: r, p, met, h, x, hx => by
    unfold chkEs at h
    split at h
    · rename_i h1; exact absurd h h1
    · rename_i h1
      split at h
      · simp at h
      · split at h
        · simp at h
        · rcases List.mem_cons.1 hx with rfl | hx
          · simpa using h1
          · exact chkEs_all r _ _ h x hx
theorem chkSh_parts {s : Sh} (h : chkSh s = 0) : s.es.length ≤ 20 ∧ s.rd.length ≤ 40 ∧ chkEs none [] s.es = 0 ∧ chkRead none s.rd = 0 := by
  unfold chkSh at h
  split at h
  · simp at h
  · split at h
    · rename_i h1; exact absurd h h1
    · rename_i h1 h2
      exact ⟨by omega, by omega, by simpa using h2, h⟩
/-- The ids of those that have a word. -/
def haveW (l : List En) (word : List UInt8) : List (List UInt8) := (l.filter (hasW · word)).map (·.id)
theorem haveW_take (l : List En) (word : List UInt8) (k : Nat) (hk : k < l.length) : haveW (l.take (k + 1)) word = haveW (l.take k) word ++ if hasW l[k] word = true then [l[k].id] else [] := by
  unfold haveW
  rw [List.take_succ_eq_append_getElem hk, List.filter_append, List.map_append]
  congr 1
  by_cases h : hasW l[k] word = true
  · simp [h]
  · simp [h]
theorem haveW_len (l : List En) (word : List UInt8) : (haveW l word).length ≤ l.length := by
  unfold haveW
  rw [List.length_map]
  exact List.length_filter_le _ _
theorem idCs_app (a b : List (List UInt8)) : idCs (a ++ b) = idCs a ++ idCs b := by simp [idCs]
theorem info9s : (Tryz.prog.info? 9).map (fun i => (i.zero, i.size, i.bytes)) = some (some (.string ⟨#[]⟩), 1, 16) := by kernel_rfl
theorem one_str (w : World) (s : List UInt8) : ∀ j u, ([Value.string ⟨s.toArray⟩] : List Value)[j]? = some u → (w.alloc (.cells #[.string ⟨s.toArray⟩] 9)).cell? ((⟨w.heap.size, 0, none⟩ : Addr).add j) = some u := by
  intro j u h
  exact lit_cells w #[.string ⟨s.toArray⟩] 9 j u (by simpa using h)
set_option maxRecDepth 8000 in
set_option maxHeartbeats 16000000 in
theorem all_loop (w : World) (ev rv : Value) (s : Sh) (word : List UInt8) (he : Lies w ev s.es.length 5 (ensCells s.es)) (hr : Lies w rv s.rd.length 1 (idCs s.rd)) (hM : HasMax w) (h0 : chkSh s = 0) (h1 : chkWord word = 0) (hf : ∀ x ∈ s.es, FitE x) :
    Calls Tryz.prog 59 #[.agg #[ev, rv], .string ⟨word.toArray⟩] w fun e w' => ∃ v, e = .returned (.tuple #[v, .int .i64 0]) ∧ w'.ownsRow w.heap.size 9 1 v (haveW s.es word).length (idCs (haveW s.es word)) ∧ Keeps [] w w' := by
  obtain ⟨es, rd⟩ := s
  obtain ⟨hp1, hp2, hp3, hp4⟩ := chkSh_parts h0
  have hall := chkEs_all es none [] hp3
  have hws := chkWord_size h1
  simp only at he hr hf hp1 hp2 hp3 hp4 ⊢
  obtain ⟨eo, ec, rfl, g1, g2⟩ := he.form
  obtain ⟨ro, rc, rfl, g3, g4⟩ := hr.form
  obtain ⟨i0, hi, hz0, hz1, hz2⟩ := info_parts info9s
  have nn : ∀ g, g ∉ ([] : List Nat) := fun _ => List.not_mem_nil
  obtain ⟨W, hW⟩ : ∃ W, w.alloc (.cells #[.slice eo es.length ec, .slice ro rd.length rc] 64) = W := ⟨_, rfl⟩
  have hkW : Keeps [] w W := by rw [← hW]; exact (Keeps.refl [] w).alloc _
  have hb := (nblk_new rfl hW).1
  have b0 : W.cell? ⟨w.heap.size, 0, none⟩ = some (.slice eo es.length ec) := cell_blk hb 0
  have b1 : W.cell? ⟨w.heap.size, 1, none⟩ = some (.slice ro rd.length rc) := cell_blk hb 1
  have hsc := hide (shelfCheck_any W _ _ ⟨es, rd⟩ (he.keeps hkW) (hr.keeps hkW) hf (hM.keeps hkW (nn _)))
  rw [h0] at hsc
  have hcw := hide (fun w => checkWord_any word w (by unfold maxLen; omega))
  rw [h1] at hcw
  have hhs := hide (fun (x : En) (hx : chkEn x = 0) w1 (hk : Keeps [] w w1) => has138_all x word w1 (hM.keeps hk (nn _)) (by omega) (chkEn_sizes hx).2.1 (chkEn_sizes hx).2.2.2)
  unfold enCells at hhs
  have HB := hide hb
  have HKW := hide hkW
  have HW := hide hW
  have HV := hide he
  have HALL := hide hall
  unfold maxLen at g2 g4
  clear he hr hM h0 h1 hf hp3 hp4 hall hws hb hkW hW
  go_enter Tryz.func59, Tryz.ntmps59
  go_upto_region 1 with fail
  rw [HW.out]
  go_wp2_with fail
  refine hsc.out.mono ?_
  rintro e w1 ⟨rfl, hk1⟩
  have c0 : w1.cell? ⟨w.heap.size, 0, none⟩ = some (.slice eo es.length ec) := ncell_all hk1 HB.out 0
  have HK1 := hide (HKW.out.trans hk1)
  have hsz1 : w.heap.size ≤ w1.heap.size := Nat.le_trans HKW.out.size hk1.size
  clear hk1 b0 b1
  go_wp2_with fail
  refine (hcw.out w1).mono ?_
  rintro e w2 ⟨rfl, h9⟩
  subst h9
  go_wp2_with fail
  go_loopw [8, 24] (fun v i wr => ∃ k : Nat, k ≤ es.length ∧ i = .int .i64 k ∧ wr.ownsRow w.heap.size 9 1 v (haveW (es.take k) word).length (idCs (haveW (es.take k) word)) ∧ Keeps [] w wr) (fun _ i _ => es.length - (intOf i).toNat)
  case atStart => exact ⟨0, Nat.zero_le _, rfl, World.ownsRow_nil _ _ _ _, HK1.out⟩
  case round =>
    obtain ⟨k, hk, rfl, hrow, hkw⟩ := hrel
    obtain ⟨vo, vc, rfl⟩ := row_form hrow
    by_cases hlt : k < es.length
    · have hx0 : chkEn es[k] = 0 := HALL.out _ (List.getElem_mem hlt)
      have hH := haveW_take es word k hlt
      have hHl := haveW_len (es.take k) word
      rw [List.length_take] at hHl
      obtain ⟨g, o0, rfl, hc⟩ := (HV.out.keeps hkw).addr (by omega)
      obtain ⟨a0, a1, a2, a3, a4⟩ := lies_en hc k hlt
      have HH := hide hH
      clear hc hH
      generalize haveW (es.take k) word = got at *
      have hcall := hide (hhs.out es[k] hx0)
      generalize es[k] = x at *
      obtain ⟨WE, hWE⟩ : ∃ WE, wr.alloc (.cells #[.string ⟨x.id.toArray⟩, .string ⟨x.title.toArray⟩, .string ⟨x.link.toArray⟩, .int .i64 x.tm, .string ⟨x.html.toArray⟩] 75) = WE := ⟨_, rfl⟩
      have hkN : Keeps [] wr WE := by rw [← hWE]; exact (Keeps.refl [] wr).alloc _
      have hbx := (nblk_new rfl hWE).1
      have HKR := hide (hkw.trans hkN)
      have HRW := hide (hkN.owns hrow (fun _ _ => List.not_mem_nil))
      have HWE := hide hWE
      have HBX := hide hbx
      have d0 : WE.cell? ⟨wr.heap.size, 0, none⟩ = some (.string ⟨x.id.toArray⟩) := cell_blk hbx 0
      have d1 : WE.cell? ⟨wr.heap.size, 1, none⟩ = some (.string ⟨x.title.toArray⟩) := cell_blk hbx 1
      have d2 : WE.cell? ⟨wr.heap.size, 2, none⟩ = some (.string ⟨x.link.toArray⟩) := cell_blk hbx 2
      have d3 : WE.cell? ⟨wr.heap.size, 3, none⟩ = some (.int .i64 x.tm) := cell_blk hbx 3
      have d4 : WE.cell? ⟨wr.heap.size, 4, none⟩ = some (.string ⟨x.html.toArray⟩) := cell_blk hbx 4
      have hszr : w.heap.size ≤ WE.heap.size := HKR.out.size
      clear hkN hWE hbx hrow hkw hx0 HK1 hsc hcw
      obtain ⟨Hx, hHx⟩ : ∃ Hx, hasW x word = Hx := ⟨_, rfl⟩
      rw [hHx] at HH hcall
      clear hHx
      cases Hx
      · have HH2 : Hid (haveW (es.take (k + 1)) word = got) := hide (by have := HH.out; simpa using this)
        clear HH
        go_upto_region 11 with fail
        rw [HWE.out]
        go_wp2_with fail
        refine (hcall.out WE HKR.out).mono ?_
        rintro e w3 ⟨rfl, hk3⟩
        have HK3 := hide (HKR.out.trans hk3)
        have HR3 := hide (hk3.owns HRW.out (fun _ _ => List.not_mem_nil))
        clear hk3 d0 d1 d2 d3 d4 a0 a1 a2 a3 a4 c0
        go_wp2_with fail
        go_roundw
        case rel => exact ⟨k + 1, by omega, by go_num, by rw [HH2.out]; exact HR3.out, HK3.out⟩
        case measure => simp [intOf]; omega
      · have HH2 : Hid (haveW (es.take (k + 1)) word = got ++ [x.id]) := hide (by have := HH.out; simpa using this)
        clear HH
        go_upto_region 11 with fail
        rw [HWE.out]
        go_wp2_with fail
        refine (hcall.out WE HKR.out).mono ?_
        rintro e w3 ⟨rfl, hk3⟩
        have HK3 := hide (HKR.out.trans hk3)
        have hrow3 := hk3.owns HRW.out (fun _ _ => List.not_mem_nil)
        have hsz3 : w.heap.size ≤ w3.heap.size := HK3.out.size
        have e0 : w3.cell? ⟨wr.heap.size, 0, none⟩ = some (.string ⟨x.id.toArray⟩) := ncell_all hk3 HBX.out 0
        clear hk3 d0 d1 d2 d3 d4 a0 a1 a2 a3 a4 c0
        go_wp2_with (at_builtin; refine wpList_append_own_at9 _ rfl _ _ 62 rfl w.heap.size 9 i0 _ 1 16 Tryz.underlying62 hi hz0 hz1 hz2 (by kernel_rfl) (by decide) (.slice vo got.length vc) got.length (idCs got) rfl (hrow3.alloc _) ⟨w3.heap.size, 0, none⟩ 1 1 [.string ⟨x.id.toArray⟩] rfl rfl ?c1 ?c2 ?c3 ?c4 ?c5 ?_)
        case c1 => exact one_str w3 x.id
        case c2 => intro u hu; simp at hu; subst hu; rfl
        case c3 => unfold maxLen; omega
        case c4 => omega
        case c5 => exact Nat.le_trans hsz3 (by simp)
        intro v4 w4 ho4 hg4 hw4
        obtain ⟨o4, c4, hv4⟩ := row_form ho4
        subst hv4
        have hk4 : Keeps (Value.slice vo got.length vc).ownBlock.toList w3 w4 := ((Keeps.refl _ w3).alloc _).grown hg4 (fun i e => .inl (by simp [e]))
        have HK4 : Hid (Keeps [] w w4) := hide ((HK3.out.up.trans hk4).mono (fun i hi hlt => by have := (hrow3.lt i (by simpa using hi)).1; omega))
        have HO4 := hide ho4
        clear hk4 hg4 hw4 ho4
        go_wp2_with fail
        go_roundw
        case rel => exact ⟨k + 1, by omega, by go_num, by rw [HH2.out, idCs_app, List.length_append]; exact HO4.out, HK4.out⟩
        case measure => simp [intOf]; omega
    · have hke : es.take k = es := List.take_of_length_le (by omega)
      rw [hke] at hrow ⊢
      have HR := hide hrow
      obtain ⟨got, hgot⟩ : ∃ got, haveW es word = got := ⟨_, rfl⟩
      have HG := hide hgot
      rw [hgot] at HR ⊢
      clear hgot hrow
      go_wp2_with fail
      go_ret2
      refine ⟨_, rfl, ?_, hkw⟩
      show wr.ownsRow _ 9 1 _ (haveW es word).length (idCs (haveW es word))
      rw [HG.out]
      exact HR.out
end Go.Proofs.YtlcljanibjdejaaGreat
namespace Go.Proofs.YtlcljanibjdejaaGreat
open Go.RowKit Go.Maps
set_option maxRecDepth 4000 in
set_option maxHeartbeats 4000000 in
theorem sameTexts_any (w : World) (va vb : Value) (la lb : List (List UInt8)) (ha : Lies w va la.length 1 (idCs la)) (hb : Lies w vb lb.length 1 (idCs lb)) :
    Calls Tryz.prog 53 #[va, vb] w fun e w' => e = .returned (.bool (decide (la = lb))) ∧ Keeps [] w w' := by
  obtain ⟨oa, ca, rfl, ha1, ha2⟩ := ha.form
  obtain ⟨ob, cb, rfl, hb1, hb2⟩ := hb.form
  unfold maxLen at ha2 hb2
  obtain ⟨R, hR⟩ : ∃ R, decide (la = lb) = R := ⟨_, rfl⟩
  rw [hR]
  by_cases hlen : la.length = lb.length
  · have HR := hide hR
    clear hR
    have HL := hide hlen
    have hn : (((la.length : Int) != (lb.length : Int))) = false := by simp; omega
    clear hlen
    go_enter Tryz.func53, Tryz.ntmps53
    go_wp2_with fail
    go_loopw [5] (fun i wr => ∃ k m : Nat, k ≤ la.length ∧ i = .int .i64 k ∧ wr = w.drewN m ∧ Hid (∀ j (h1 : j < la.length) (h2 : j < lb.length), j < k → la[j] = lb[j])) (fun i _ => la.length - (intOf i).toNat)
    case atStart => exact ⟨0, 0, Nat.zero_le _, rfl, rfl, fun j _ _ h => absurd h (Nat.not_lt_zero _)⟩
    case round =>
      obtain ⟨k, m, hk, rfl, rfl, hH⟩ := hrel
      by_cases hlt : k < la.length
      · obtain ⟨ga, xa, rfl, hca⟩ := ha.addr (by omega)
        obtain ⟨gb, xb, rfl, hcb⟩ := hb.addr (by rw [← HL.out]; omega)
        have hltb : k < lb.length := by rw [← HL.out]; exact hlt
        have a0 := hca _ _ (idCs_at la k hlt)
        have b0 := hcb _ _ (idCs_at lb k hltb)
        clear hca hcb
        by_cases hkk : la[k] = lb[k]
        · have hcx : (la[k] == lb[k]) = true := by simpa using hkk
          have HKK := hide hkk
          clear hkk
          go_wp2_with fail
          go_quiet (fail)
          go_wp2_with fail
          go_roundw
          case rel => exact ⟨k + 1, _, by omega, by go_num, rfl, fun j h1 h2 hj => by
            rcases Nat.lt_succ_iff_lt_or_eq.1 hj with hj | rfl
            · exact hH.out j h1 h2 hj
            · exact HKK.out⟩
          case measure => simp [intOf]; omega
        · have hcx : (la[k] == lb[k]) = false := by simpa using hkk
          have hRf : R = false := by
            rw [← HR.out]
            have : la ≠ lb := fun e => hkk (by subst e; rfl)
            simpa using this
          subst hRf
          clear hkk
          go_wp2_with fail
          go_quiet (fail)
          go_wp2_with fail
          go_ret
          exact ⟨rfl, ((Keeps.refl [] w).drewN _).drewN _⟩
      · have hRt : R = true := by
          rw [← HR.out]
          have : la = lb := List.ext_getElem HL.out (fun j h1 h2 => hH.out j h1 h2 (by omega))
          simpa using this
        subst hRt
        go_wp2_with fail
        go_ret
        exact ⟨rfl, (Keeps.refl [] w).drewN _⟩
  · have hn : (((la.length : Int) != (lb.length : Int))) = true := by simp; omega
    have hRf : R = false := by
      rw [← hR]
      have : la ≠ lb := fun e => hlen (by rw [e])
      simpa using this
    subst hRf
    clear hlen hR
    go_enter Tryz.func53, Tryz.ntmps53
    go_wp2_with fail
    go_ret
    exact ⟨rfl, Keeps.refl _ _⟩
def rackS : Sh := ⟨[⟨[98], [78, 101, 119], [], 9, [60, 98, 62, 120, 60, 47, 98, 62, 121]⟩, ⟨[97], [], [], 5, []⟩], [[97]]⟩
theorem lies_lit {w W : World} {cs : Array Value} {t : TypeId} {n z : Nat} (hn : cs.toList.length = n * z) (hm : n ≤ maxLen) (hW : w.alloc (.cells cs t) = W) : Lies W (.slice (some ⟨w.heap.size, 0, none⟩) n n) n z cs.toList := by
  refine ⟨hn, .inr (.inl ⟨w.heap.size, 0, n, rfl, Nat.le_refl _, hm, fun j u hj => ?_⟩)⟩
  subst hW
  have := lit_cells w cs t j u hj
  rw [Nat.zero_add]
  rwa [add_zero] at this
set_option maxRecDepth 4000 in
set_option maxHeartbeats 4000000 in
theorem rack_any (w : World) : Calls Tryz.prog 132 #[] w fun e w' => ∃ g h, e = .returned (.agg #[.slice (some ⟨g, 0, none⟩) 2 2, .slice (some ⟨h, 0, none⟩) 1 1]) ∧ Lies w' (.slice (some ⟨g, 0, none⟩) 2 2) 2 5 (ensCells rackS.es) ∧ Lies w' (.slice (some ⟨h, 0, none⟩) 1 1) 1 1 (idCs rackS.rd) ∧ Keeps [] w w' := by
  obtain ⟨W0, hW0⟩ : ∃ W, w.alloc (.cells #[.slice none 0 0, .slice none 0 0] 64) = W := ⟨_, rfl⟩
  obtain ⟨W1, hW1⟩ : ∃ W, W0.alloc (.cells #[.string ⟨#[98]⟩, .string ⟨#[78, 101, 119]⟩, .string ⟨#[]⟩, .int .i64 9, .string ⟨#[60, 98, 62, 120, 60, 47, 98, 62, 121]⟩, .string ⟨#[97]⟩, .string ⟨#[]⟩, .string ⟨#[]⟩, .int .i64 5, .string ⟨#[]⟩] 75) = W := ⟨_, rfl⟩
  obtain ⟨W2, hW2⟩ : ∃ W, W1.alloc (.cells #[.string ⟨#[97]⟩] 9) = W := ⟨_, rfl⟩
  have k0 : Keeps [] w W0 := by rw [← hW0]; exact (Keeps.refl [] w).alloc _
  have k1 : Keeps [] W0 W1 := by rw [← hW1]; exact (Keeps.refl [] W0).alloc _
  have k2 : Keeps [] W1 W2 := by rw [← hW2]; exact (Keeps.refl [] W1).alloc _
  have hz0 := (fblk_new rfl hW0).2
  have hz1 := (fblk_new rfl hW1).2
  have l1 : Lies W1 (.slice (some ⟨W0.heap.size, 0, none⟩) 2 2) 2 5 (ensCells rackS.es) := lies_lit (z := 5) rfl (by unfold maxLen; omega) hW1
  have l2 : Lies W2 (.slice (some ⟨W1.heap.size, 0, none⟩) 1 1) 1 1 (idCs rackS.rd) := lies_lit (z := 1) rfl (by unfold maxLen; omega) hW2
  have hb0 := ((k1.trans k2).block _ (lt_of_block (fblk_new rfl hW0).1) List.not_mem_nil).trans (fblk_new rfl hW0).1
  have c0 : W2.cell? ⟨w.heap.size, 0, none⟩ = some (.slice none 0 0) := cell_blk hb0 0
  have c1 : W2.cell? ⟨w.heap.size, 1, none⟩ = some (.slice none 0 0) := cell_blk hb0 1
  have f0 : W2.frozen? ⟨w.heap.size, 0, none⟩ = false := free_blk hb0 0
  have f1 : W2.frozen? ⟨w.heap.size, 1, none⟩ = false := free_blk hb0 1
  obtain ⟨W3, hW3⟩ : ∃ W3, (W2.setCell ⟨w.heap.size, 0, none⟩ (.slice (some ⟨W0.heap.size, 0, none⟩) 2 2)).setCell ⟨w.heap.size, 1, none⟩ (.slice (some ⟨W1.heap.size, 0, none⟩) 1 1) = W3 := ⟨_, rfl⟩
  have hb3 : W3.heap[w.heap.size]? = some (.cells #[.slice (some ⟨W0.heap.size, 0, none⟩) 2 2, .slice (some ⟨W1.heap.size, 0, none⟩) 1 1] 64 (0, 0)) := by rw [← hW3]; simp [World.setCell, Array.getElem?_modify, hb0]
  have k3 : Keeps [w.heap.size] W2 W3 := by rw [← hW3]; exact ((Keeps.refl [w.heap.size] W2).setCell (.inl (by simp)) _).setCell (.inl (by simp)) _
  have KK := hide (keeps_on ((k0.trans k1).trans k2) k3 (fun g hg hlt => by simp at hg; omega))
  have L1 : Hid (Lies W3 (.slice (some ⟨W0.heap.size, 0, none⟩) 2 2) 2 5 (ensCells rackS.es)) := hide ⟨l1.1, .inr (.inl ⟨_, 0, 2, rfl, Nat.le_refl _, by unfold maxLen; omega, fun j u hj => by
    obtain ⟨g, o, e, hc⟩ := (l1.keeps k2).addr (by omega)
    injection e with e
    injection e with e1 e2 e3
    subst e1 e2
    exact cell_keepsS k3 (by simp; omega) (hc j u hj)⟩)⟩
  have L2 : Hid (Lies W3 (.slice (some ⟨W1.heap.size, 0, none⟩) 1 1) 1 1 (idCs rackS.rd)) := hide ⟨l2.1, .inr (.inl ⟨_, 0, 1, rfl, Nat.le_refl _, by unfold maxLen; omega, fun j u hj => by
    obtain ⟨g, o, e, hc⟩ := l2.addr (by omega)
    injection e with e
    injection e with e1 e2 e3
    subst e1 e2
    exact cell_keepsS k3 (by simp; omega) (hc j u hj)⟩)⟩
  have d0 : W3.cell? ⟨w.heap.size, 0, none⟩ = some (.slice (some ⟨W0.heap.size, 0, none⟩) 2 2) := cell_blk hb3 0
  have d1 : W3.cell? ⟨w.heap.size, 1, none⟩ = some (.slice (some ⟨W1.heap.size, 0, none⟩) 1 1) := cell_blk hb3 1
  have H0 := hide hW0
  have H3 := hide hW3
  have HB3 := hide hb3
  have h12 := hW2
  rw [← hW1] at h12
  rw [← h12] at c0 c1 f0 f1
  have H12 := hide h12
  rw [hz1] at H3 L2 d1 HB3
  clear hW0 hW1 hW2 hW3 k0 k1 k2 k3 l1 l2 hb0 hb3 hz0 hz1 h12
  go_enter Tryz.func132, Tryz.ntmps132
  go_upto_region 1 with fail
  rw [H0.out]
  go_wp2_with fail
  rw [H12.out, H3.out]
  exact ⟨rfl, _, results_cell_row (P := Tryz.prog) rfl _ W3 w.heap.size 64 _ (0, 0) _ rfl HB3.out Tryz.underlying64 rfl (by kernel_rfl), _, _, rfl, L1.out, L2.out, KK.out⟩
end Go.Proofs.YtlcljanibjdejaaGreat
