/- Check. -/
import Derived.Test.YtngojdajamgababGreatCheckT
namespace Go.Proofs.YtngojdajamgababGreat
open Go.RowKit Go.Maps

/-- What Check answers of tokens, behind one of a kind. -/
def chkFrom : Int → List Tok → Int
  | _, [] => 0
  | p, t :: r => if chkT t ≠ 0 then chkT t else if t.kind = 1 ∧ p = 1 then 4 else chkFrom t.kind r
def chkL (ts : List Tok) : Int := if 3000 < ts.length then 2 else chkFrom 0 ts

def prevK (l : List (Tok × Value)) (k : Nat) : Int := if k = 0 then 0 else (l[k - 1]?.map (·.1.kind)).getD 0

theorem prevK_succ (l : List (Tok × Value)) (k : Nat) (hk : k < l.length) : prevK l (k + 1) = l[k].1.kind := by
  simp [prevK, List.getElem?_eq_getElem hk]

theorem chkFrom_drop (l : List (Tok × Value)) (k : Nat) (hk : k < l.length) (p : Int) : chkFrom p ((l.drop k).map (·.1)) = if chkT l[k].1 ≠ 0 then chkT l[k].1 else if l[k].1.kind = 1 ∧ p = 1 then 4 else chkFrom l[k].1.kind ((l.drop (k + 1)).map (·.1)) := by
  rw [List.drop_eq_getElem_cons hk, List.map_cons]
  rfl

set_option maxRecDepth 4000 in
set_option maxHeartbeats 4000000 in
theorem check_any (w : World) (v : Value) (ts : List Tok) (hv : Toks w v ts) (hf : ∀ t ∈ ts, FitsT t) :
    Calls Tryz.prog 17 #[v] w fun e w' => e = .returned (.int .i64 (chkL ts)) ∧ Keeps [] w w' := by
  obtain ⟨l, rfl, hv, hva⟩ := hv
  obtain ⟨o, c, rfl, h1, h2⟩ := hv.form
  unfold maxLen at h2
  unfold chkL
  rw [List.length_map]
  by_cases hbig : 3000 < l.length
  · rw [if_pos hbig]
    have hgt : decide ((3000 : Int) < (l.length : Int)) = true := by simp; omega
    go_enter Tryz.func17, Tryz.ntmps17
    go_wp2_with fail
    go_ret
    exact ⟨rfl, Keeps.refl _ _⟩
  · rw [if_neg hbig]
    have hgt : decide ((3000 : Int) < (l.length : Int)) = false := by simp; omega
    obtain ⟨R, hR⟩ : ∃ R, chkFrom 0 (l.map (·.1)) = R := ⟨_, rfl⟩
    rw [hR]
    have HR := hide hR
    clear hR
    go_enter Tryz.func17, Tryz.ntmps17
    go_wp2_with fail
    go_loopw [11] (fun i wr => ∃ k : Nat, k ≤ l.length ∧ i = .int .i64 k ∧ Keeps [] w wr ∧ Hid (chkFrom (prevK l k) ((l.drop k).map (·.1)) = R)) (fun i _ => l.length - (intOf i).toNat)
    case atStart => exact ⟨0, Nat.zero_le _, rfl, Keeps.refl _ _, HR⟩
    case round =>
      obtain ⟨k, hk, rfl, hkw, hC⟩ := hrel
      clear HR
      by_cases hlt : k < l.length
      · obtain ⟨g, x, rfl, hc⟩ := (hv.keeps hkw).addr (by omega)
        obtain ⟨a0, a1, a2, a3⟩ := lies_tok hc k hlt
        have hC1 := hC.out
        rw [chkFrom_drop l k hlt] at hC1
        have hsuc := prevK_succ l k hlt
        have hfk := hf l[k].1 (List.mem_map_of_mem (List.getElem_mem hlt))
        have hpa := hva l[k] (List.getElem_mem hlt)
        have hpv : 0 < k → wr.cell? ⟨g, x + (k - 1) * 4, none⟩ = some (.int .i64 (prevK l k)) := fun h0 => by
          have h9 := (lies_tok hc (k - 1) (by omega)).1
          have e9 := prevK_succ l (k - 1) (by omega)
          rw [show k - 1 + 1 = k from by omega] at e9
          rw [e9]
          exact h9
        have HPV := hide hpv
        have HPK := hide (show k = 0 → prevK l k = 0 from fun h => by subst h; rfl)
        have HC1 := hide hC1
        have HSUC := hide hsuc
        clear hC hC1 hc hpv hsuc
        generalize prevK l k = pk at *
        generalize l[k] = p at *
        obtain ⟨⟨kp, np, ap, xp⟩, vp⟩ := p
        simp only at a0 a1 a2 a3 hpa
        obtain ⟨op, cp, rfl, hp1, hp2⟩ := hpa.form
        unfold maxLen at hp2
        have hkA : Keeps [] wr (wr.alloc (.cells #[.int .i64 kp, .string ⟨np.toArray⟩, .slice op ap.length cp, .string ⟨xp.toArray⟩] 48)) := (Keeps.refl [] wr).alloc _
        have hA : IsTok (wr.alloc (.cells #[.int .i64 kp, .string ⟨np.toArray⟩, .slice op ap.length cp, .string ⟨xp.toArray⟩] 48)) wr.heap.size (⟨kp, np, ap, xp⟩, .slice op ap.length cp) := heap_alloc_new wr _
        have hct := hide (checkToken_any _ kp np xp ap _ (hpa.keeps (hkw.trans hkA)) hfk)
        have HC2 := HC1.out
        simp only at HC2
        generalize chkT ⟨kp, np, ap, xp⟩ = E at *
        have HC3 := hide HC2
        clear HC1 HC2
        go_wp2_with fail
        refine hct.out.mono ?_
        rintro e w3 ⟨rfl, hk3⟩
        have hkw3 : Keeps [] w w3 := (hkw.trans hkA).trans hk3
        have hA3 := hA.keeps hk3 List.not_mem_nil
        have c0 : w3.cell? ⟨wr.heap.size, 0, none⟩ = some (.int .i64 kp) := by rw [hA3.cell 0]; rfl
        by_cases hE : E = 0
        · subst hE
          have hN : ¬ (kp = 1 ∧ pk = 1) → Hid (chkFrom (prevK l (k + 1)) ((l.drop (k + 1)).map (·.1)) = R) := fun hn => by
            have h9 := HC3.out
            rw [if_neg (by simp), if_neg hn] at h9
            rw [HSUC.out]
            exact h9
          have HN := hide hN
          clear hN
          by_cases h0 : k = 0
          · subst h0
            have HC4 := HN.out (fun h => by have := HPK.out rfl; omega)
            go_wp2_with fail
            go_roundw
            case rel => exact ⟨1, by omega, by go_num, hkw3, HC4⟩
            case measure => simp [intOf]; omega
          · have hpc := cell_keeps (hkA.trans hk3) (HPV.out (by omega))
            have hpos : decide ((0 : Int) < (k : Int)) = true := by simp; omega
            by_cases hk1 : kp = 1
            · subst hk1
              by_cases hq1 : pk = 1
              · subst hq1
                have hR4 : R = 4 := by rw [← HC3.out]; simp
                subst hR4
                go_wp2_with fail
                go_ret
                exact ⟨rfl, hkw3⟩
              · have HC4 := HN.out (fun h => hq1 h.2)
                have hqb : (pk == 1) = false := by simpa using hq1
                go_wp2_with fail
                go_roundw
                case rel => exact ⟨k + 1, by omega, by go_num, hkw3, HC4⟩
                case measure => simp [intOf]; omega
            · have HC4 := HN.out (fun h => hk1 h.1)
              have hqb : (kp == 1) = false := by simpa using hk1
              go_wp2_with fail
              go_roundw
              case rel => exact ⟨k + 1, by omega, by go_num, hkw3, HC4⟩
              case measure => simp [intOf]; omega
        · have hEb : (E != 0) = true := by simpa using hE
          have hRE : R = E := by rw [← HC3.out]; simp [hE]
          subst hRE
          go_wp2_with fail
          go_ret
          exact ⟨rfl, hkw3⟩
      · have hRR : R = 0 := by
          rw [← hC.out, List.drop_eq_nil_of_le (by omega)]
          rfl
        subst hRR
        go_wp2_with fail
        go_ret
        exact ⟨rfl, hkw⟩
end Go.Proofs.YtngojdajamgababGreat
