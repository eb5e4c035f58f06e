/- nodes.CheckAttrs of the names of a token. checkToken, Check. Check. -/
import Derived.Test.YtlcljanibjdejaaGreatPk08
namespace Go.Proofs.YtlcljanibjdejaaGreat
open Go.RowKit Go.Maps

/-- What checkAttrs answers. -/
def chkA : List Pair → List (List UInt8) → Int
  | [], _ => 0
  | p :: r, met => if isNameL p.1 = false then 1 else if p.1 ∈ met then 6 else chkA r (met ++ [p.1])

theorem chkA_drop (l : List Pair) (k : Nat) (hk : k < l.length) (met : List (List UInt8)) : chkA (l.drop k) met = if isNameL l[k].1 = false then 1 else if l[k].1 ∈ met then 6 else chkA (l.drop (k + 1)) (met ++ [l[k].1]) := by
  rw [List.drop_eq_getElem_cons hk]
  rfl

/-- Names of attributes are no longer than a string of Go may be. -/
def Fits (l : List Pair) : Prop := ∀ p ∈ l, p.1.length ≤ maxLen

theorem enters231 : Enters 231 := enters_of Tryz.func231 (by kernel_rfl) (by kernel_rfl)

set_option maxRecDepth 4000 in
set_option maxHeartbeats 4000000 in
theorem checkAttrs_any (w : World) (v : Value) (l : List Pair) (hv : Lies w v l.length 2 (pairCells l)) (hf : Fits l) :
    Calls Tryz.prog 236 #[v, .func (.func 231) #[] #[]] w fun e w' => e = .returned (.int .i64 (chkA l [])) ∧ Keeps [] w w' := by
  have hE := enters231
  unfold Enters at hE
  obtain ⟨o, c, rfl, h1, h2⟩ := hv.form
  obtain ⟨R, hR⟩ : ∃ R, chkA l [] = R := ⟨_, rfl⟩
  rw [hR]
  have HR := hide hR
  clear hR
  unfold maxLen at h2
  have hmm := @run_makeMap Tryz.prog
  go_enter Tryz.func236, Tryz.ntmps236
  go_wp2_with fail
  have hset0 : IsSet (w.alloc (.map #[] 0)) w.heap.size [] := IsSet.made w
  have hk0 : Keeps [] w (w.alloc (.map #[] 0)) := (Keeps.refl [] w).alloc _
  go_loopw [13] (fun i wr => ∃ k : Nat, k ≤ l.length ∧ i = .int .i64 k ∧ IsSet wr w.heap.size ((l.take k).map (·.1)) ∧ Keeps [] w wr ∧ Hid (chkA (l.drop k) ((l.take k).map (·.1)) = R)) (fun i _ => l.length - (intOf i).toNat)
  case atStart => exact ⟨0, Nat.zero_le _, rfl, hset0, hk0, HR⟩
  case round =>
    obtain ⟨k, hk, rfl, hset, hkw, hC⟩ := hrel
    clear HR hset0 hk0
    by_cases hlt : k < l.length
    · obtain ⟨g, x, rfl, hc⟩ := (hv.keeps hkw).addr (by omega)
      have a0 := hc _ _ (pair_at0 l k hlt)
      have a1 := hc _ _ (pair_at1 l k hlt)
      rw [← Nat.add_assoc] at a1
      have hC1 := hC.out
      rw [chkA_drop l k hlt] at hC1
      have hfk : l[k].1.length ≤ maxLen := hf _ (List.getElem_mem hlt)
      have hts : (l.take (k + 1)).map (·.1) = (l.take k).map (·.1) ++ [l[k].1] := by rw [List.take_succ_eq_append_getElem hlt, List.map_append]; rfl
      have hml : ((l.take k).map (·.1)).length < maxLen := by simp; unfold maxLen; omega
      have HC1 := hide hC1
      clear hC hC1 hc
      generalize (l.take k).map (·.1) = met at *
      have HTS := hide hts
      clear hts
      generalize l[k] = p at *
      obtain ⟨n, v⟩ := p
      have hA : IsPair (wr.alloc (.cells #[.string ⟨n.toArray⟩, .string ⟨v.toArray⟩] 52)) wr.heap.size ⟨n.toArray⟩ ⟨v.toArray⟩ := heap_alloc_new wr _
      have hkA : Keeps [] wr (wr.alloc (.cells #[.string ⟨n.toArray⟩, .string ⟨v.toArray⟩] 52)) := (Keeps.refl [] wr).alloc _
      have hsetA := hset.keeps hkA List.not_mem_nil
      have hkwA := hkw.trans hkA
      have hnm := hide (fun w => isName_all ⟨n.toArray⟩ w hfk)
      rw [str_list] at hnm
      simp only at a0 a1
      go_wp2_with fail
      refine (hnm.out _).mono ?_
      rintro e w3 ⟨rfl, rfl⟩
      clear a0 a1
      have c0 := hA.cell0
      cases hin : isNameL n
      · have hR1 : R = 1 := by rw [← HC1.out]; simp [hin]
        subst hR1
        go_wp2_with fail
        go_ret
        exact ⟨rfl, hkwA⟩
      · by_cases hmt : n ∈ met
        · have hR6 : R = 6 := by rw [← HC1.out]; simp [hin, hmt]
          subst hR6
          have hd : decide (n ∈ met) = true := by simpa using hmt
          have hlook := hsetA.look n hfk
          rw [hd] at hlook
          go_wp2_with fail
          go_ret
          exact ⟨rfl, hkwA.alloc _⟩
        · have hd : decide (n ∈ met) = false := by simpa using hmt
          have hlook := hsetA.look n hfk
          rw [hd] at hlook
          have hk2 : Keeps [] wr ((wr.alloc (.cells #[.string ⟨n.toArray⟩, .string ⟨v.toArray⟩] 52)).alloc (.cells #[] 182)) := hkA.alloc _
          obtain ⟨w6, hup, hset6, hk6⟩ := (hset.keeps hk2 List.not_mem_nil).add n hfk hml
          have c0' := (hA.keeps ((Keeps.refl [] _).alloc (.cells #[] 182)) List.not_mem_nil).cell0
          have HC2 : Hid (chkA (l.drop (k + 1)) ((l.take (k + 1)).map (·.1)) = R) := by
            rw [HTS.out]
            have := HC1.out
            simp [hin, hmt] at this
            exact this
          have hkw6 : Keeps [] w w6 := ((hkw.trans hk2).up.trans hk6).mono fun i hi hlt => by simp at hi; omega
          have hset7 : IsSet w6 w.heap.size ((l.take (k + 1)).map (·.1)) := by rw [HTS.out]; exact hset6
          clear HC1
          go_wp2_with fail
          go_roundw
          case rel => exact ⟨k + 1, by omega, by go_num, hset7, hkw6, HC2⟩
          case measure => simp [intOf]; omega
    · have hRR : R = 0 := by
        rw [← hC.out, List.drop_eq_nil_of_le (by omega)]
        rfl
      subst hRR
      go_wp2_with fail
      go_ret
      exact ⟨rfl, hkw⟩
end Go.Proofs.YtlcljanibjdejaaGreat

namespace Go.Proofs.YtlcljanibjdejaaGreat
open Go.RowKit Go.Maps

/-- What checkToken answers. -/
def chkT (t : Tok) : Int :=
  if t.kind = 1 then (if t.name ≠ [] ∨ t.attrs ≠ [] ∨ t.text = [] then 1 else 0)
  else if t.kind = 2 then (if t.text ≠ [] ∨ isNameL t.name = false then 1 else chkA t.attrs [])
  else if t.kind = 3 then (if t.text ≠ [] ∨ t.attrs ≠ [] ∨ isNameL t.name = false then 1 else 0)
  else 7

/-- A token's names are no longer than a string of Go may be. -/
def FitsT (t : Tok) : Prop := t.name.length ≤ maxLen ∧ Fits t.attrs

theorem emptyB (x : List UInt8) : ((⟨x.toArray⟩ : ByteArray).toList == (⟨#[]⟩ : ByteArray).toList) = decide (x = []) := strEq x []

set_option maxRecDepth 4000 in
set_option maxHeartbeats 4000000 in
theorem checkToken_any (w : World) (kd : Int) (nm tx : List UInt8) (la : List Pair) (v : Value) (hv : Lies w v la.length 2 (pairCells la)) (hf : FitsT ⟨kd, nm, la, tx⟩) :
    Calls Tryz.prog 161 #[.agg #[.int .i64 kd, .string ⟨nm.toArray⟩, v, .string ⟨tx.toArray⟩]] w fun e w' => e = .returned (.int .i64 (chkT ⟨kd, nm, la, tx⟩)) ∧ Keeps [] w w' := by
  obtain ⟨o, c, rfl, h1, h2⟩ := hv.form
  unfold maxLen at h2
  have ha : Keeps [] w (w.alloc (.cells #[.int .i64 kd, .string ⟨nm.toArray⟩, .slice o la.length c, .string ⟨tx.toArray⟩] 117)) := (Keeps.refl [] w).alloc _
  have hnm := hide (fun w => isName_all ⟨nm.toArray⟩ w hf.1)
  rw [str_list] at hnm
  have hca := hide (fun (w' : World) (hk : Keeps [] w w') => checkAttrs_any w' _ la (hv.keeps hk) hf.2)
  obtain ⟨R, hR⟩ : ∃ R, chkT ⟨kd, nm, la, tx⟩ = R := ⟨_, rfl⟩
  rw [hR]
  unfold chkT at hR
  simp only at hR
  generalize chkA la [] = A at *
  have hal : la ≠ [] ↔ 0 < la.length := by cases la <;> simp
  by_cases k1 : kd = 1
  · subst k1
    rw [if_pos rfl] at hR
    by_cases n1 : nm = []
    · subst n1
      by_cases a1 : la = []
      · subst a1
        by_cases t1 : tx = []
        · subst t1
          simp at hR
          subst hR
          clear hal
          go_enter Tryz.func161, Tryz.ntmps161
          go_wp2_with fail
          go_ret
          exact ⟨rfl, ha⟩
        · simp [t1] at hR
          subst hR
          have he : tx.isEmpty = false := by simpa using t1
          clear hal
          go_enter Tryz.func161, Tryz.ntmps161
          go_wp2_with fail
          go_ret
          exact ⟨rfl, ha⟩
      · have hz := hal.1 a1
        simp [a1] at hR
        subst hR
        clear hal a1
        go_enter Tryz.func161, Tryz.ntmps161
        go_wp2_with fail
        go_ret
        exact ⟨rfl, ha⟩
    · simp [n1] at hR
      subst hR
      clear hal
      go_enter Tryz.func161, Tryz.ntmps161
      go_wp2_with fail
      go_ret
      exact ⟨rfl, ha⟩
  · rw [if_neg k1] at hR
    have e1 : (kd == 1) = false := by simpa using k1
    by_cases k2 : kd = 2
    · subst k2
      rw [if_pos rfl] at hR
      by_cases t1 : tx = []
      · subst t1
        cases hin : isNameL nm
        · rw [hin] at hnm
          simp [hin] at hR
          subst hR
          clear hal
          go_enter Tryz.func161, Tryz.ntmps161
          go_wp2_with fail
          refine (hnm.out _).mono ?_
          rintro e w1 ⟨rfl, rfl⟩
          go_wp2_with fail
          go_ret
          exact ⟨rfl, ha⟩
        · rw [hin] at hnm
          simp [hin] at hR
          subst hR
          clear hal
          go_enter Tryz.func161, Tryz.ntmps161
          go_wp2_with fail
          refine (hnm.out _).mono ?_
          rintro e w1 ⟨rfl, rfl⟩
          go_wp2_with fail
          refine (hca.out _ ha).mono ?_
          rintro e w2 ⟨rfl, hk2⟩
          go_wp2_with fail
          go_ret
          exact ⟨rfl, ha.trans hk2⟩
      · simp [t1] at hR
        subst hR
        clear hal
        go_enter Tryz.func161, Tryz.ntmps161
        go_wp2_with fail
        go_ret
        exact ⟨rfl, ha⟩
    · rw [if_neg k2] at hR
      have e2 : (kd == 2) = false := by simpa using k2
      by_cases k3 : kd = 3
      · subst k3
        rw [if_pos rfl] at hR
        by_cases t1 : tx = []
        · subst t1
          by_cases a1 : la = []
          · subst a1
            cases hin : isNameL nm
            · rw [hin] at hnm
              simp [hin] at hR
              subst hR
              clear hal
              go_enter Tryz.func161, Tryz.ntmps161
              go_wp2_with fail
              refine (hnm.out _).mono ?_
              rintro e w1 ⟨rfl, rfl⟩
              go_wp2_with fail
              go_ret
              exact ⟨rfl, ha⟩
            · rw [hin] at hnm
              simp [hin] at hR
              subst hR
              clear hal
              go_enter Tryz.func161, Tryz.ntmps161
              go_wp2_with fail
              refine (hnm.out _).mono ?_
              rintro e w1 ⟨rfl, rfl⟩
              go_wp2_with fail
              go_ret
              exact ⟨rfl, ha⟩
          · have hz := hal.1 a1
            simp [a1] at hR
            subst hR
            clear hal a1
            go_enter Tryz.func161, Tryz.ntmps161
            go_wp2_with fail
            go_ret
            exact ⟨rfl, ha⟩
        · simp [t1] at hR
          subst hR
          clear hal
          go_enter Tryz.func161, Tryz.ntmps161
          go_wp2_with fail
          go_ret
          exact ⟨rfl, ha⟩
      · rw [if_neg k3] at hR
        have e3 : (kd == 3) = false := by simpa using k3
        subst hR
        clear hal
        go_enter Tryz.func161, Tryz.ntmps161
        go_wp2_with fail
        go_ret
        exact ⟨rfl, ha⟩
end Go.Proofs.YtlcljanibjdejaaGreat

namespace Go.Proofs.YtlcljanibjdejaaGreat
open Go.RowKit Go.Maps

/-- What Check answers of tokens, behind one of a kind. -/
def chkFrom : Int → List Tok → Int
  | _, [] => 0
  | p, t :: r => if chkT t ≠ 0 then chkT t else if t.kind = 1 ∧ p = 1 then 4 else chkFrom t.kind r
def chkL (ts : List Tok) : Int := if 3000 < ts.length then 2 else chkFrom 0 ts

def prevK (l : List (Tok × Value)) (k : Nat) : Int := if k = 0 then 0 else (l[k - 1]?.map (·.1.kind)).getD 0

theorem prevK_succ (l : List (Tok × Value)) (k : Nat) (hk : k < l.length) : prevK l (k + 1) = l[k].1.kind := by
  simp [prevK, List.getElem?_eq_getElem hk]

theorem chkFrom_drop (l : List (Tok × Value)) (k : Nat) (hk : k < l.length) (p : Int) : chkFrom p ((l.drop k).map (·.1)) = if chkT l[k].1 ≠ 0 then chkT l[k].1 else if l[k].1.kind = 1 ∧ p = 1 then 4 else chkFrom l[k].1.kind ((l.drop (k + 1)).map (·.1)) := by
  rw [List.drop_eq_getElem_cons hk, List.map_cons]
  rfl

set_option maxRecDepth 4000 in
set_option maxHeartbeats 4000000 in
theorem check_any (w : World) (v : Value) (ts : List Tok) (hv : Toks w v ts) (hf : ∀ t ∈ ts, FitsT t) :
    Calls Tryz.prog 82 #[v] w fun e w' => e = .returned (.int .i64 (chkL ts)) ∧ Keeps [] w w' := by
  obtain ⟨l, rfl, hv, hva⟩ := hv
  obtain ⟨o, c, rfl, h1, h2⟩ := hv.form
  unfold maxLen at h2
  unfold chkL
  rw [List.length_map]
  by_cases hbig : 3000 < l.length
  · rw [if_pos hbig]
    have hgt : decide ((3000 : Int) < (l.length : Int)) = true := by simp; omega
    go_enter Tryz.func82, Tryz.ntmps82
    go_wp2_with fail
    go_ret
    exact ⟨rfl, Keeps.refl _ _⟩
  · rw [if_neg hbig]
    have hgt : decide ((3000 : Int) < (l.length : Int)) = false := by simp; omega
    obtain ⟨R, hR⟩ : ∃ R, chkFrom 0 (l.map (·.1)) = R := ⟨_, rfl⟩
    rw [hR]
    have HR := hide hR
    clear hR
    go_enter Tryz.func82, Tryz.ntmps82
    go_wp2_with fail
    go_loopw [11] (fun i wr => ∃ k : Nat, k ≤ l.length ∧ i = .int .i64 k ∧ Keeps [] w wr ∧ Hid (chkFrom (prevK l k) ((l.drop k).map (·.1)) = R)) (fun i _ => l.length - (intOf i).toNat)
    case atStart => exact ⟨0, Nat.zero_le _, rfl, Keeps.refl _ _, HR⟩
    case round =>
      obtain ⟨k, hk, rfl, hkw, hC⟩ := hrel
      clear HR
      by_cases hlt : k < l.length
      · obtain ⟨g, x, rfl, hc⟩ := (hv.keeps hkw).addr (by omega)
        obtain ⟨a0, a1, a2, a3⟩ := lies_tok hc k hlt
        have hC1 := hC.out
        rw [chkFrom_drop l k hlt] at hC1
        have hsuc := prevK_succ l k hlt
        have hfk := hf l[k].1 (List.mem_map_of_mem (List.getElem_mem hlt))
        have hpa := hva l[k] (List.getElem_mem hlt)
        have hpv : 0 < k → wr.cell? ⟨g, x + (k - 1) * 4, none⟩ = some (.int .i64 (prevK l k)) := fun h0 => by
          have h9 := (lies_tok hc (k - 1) (by omega)).1
          have e9 := prevK_succ l (k - 1) (by omega)
          rw [show k - 1 + 1 = k from by omega] at e9
          rw [e9]
          exact h9
        have HPV := hide hpv
        have HPK := hide (show k = 0 → prevK l k = 0 from fun h => by subst h; rfl)
        have HC1 := hide hC1
        have HSUC := hide hsuc
        clear hC hC1 hc hpv hsuc
        generalize prevK l k = pk at *
        generalize l[k] = p at *
        obtain ⟨⟨kp, np, ap, xp⟩, vp⟩ := p
        simp only at a0 a1 a2 a3 hpa
        obtain ⟨op, cp, rfl, hp1, hp2⟩ := hpa.form
        unfold maxLen at hp2
        have hkA : Keeps [] wr (wr.alloc (.cells #[.int .i64 kp, .string ⟨np.toArray⟩, .slice op ap.length cp, .string ⟨xp.toArray⟩] 117)) := (Keeps.refl [] wr).alloc _
        have hA : IsTok (wr.alloc (.cells #[.int .i64 kp, .string ⟨np.toArray⟩, .slice op ap.length cp, .string ⟨xp.toArray⟩] 117)) wr.heap.size (⟨kp, np, ap, xp⟩, .slice op ap.length cp) := heap_alloc_new wr _
        have hct := hide (checkToken_any _ kp np xp ap _ (hpa.keeps (hkw.trans hkA)) hfk)
        have HC2 := HC1.out
        simp only at HC2
        generalize chkT ⟨kp, np, ap, xp⟩ = E at *
        have HC3 := hide HC2
        clear HC1 HC2
        go_wp2_with fail
        refine hct.out.mono ?_
        rintro e w3 ⟨rfl, hk3⟩
        have hkw3 : Keeps [] w w3 := (hkw.trans hkA).trans hk3
        have hA3 := hA.keeps hk3 List.not_mem_nil
        have c0 : w3.cell? ⟨wr.heap.size, 0, none⟩ = some (.int .i64 kp) := by rw [hA3.cell 0]; rfl
        by_cases hE : E = 0
        · subst hE
          have hN : ¬ (kp = 1 ∧ pk = 1) → Hid (chkFrom (prevK l (k + 1)) ((l.drop (k + 1)).map (·.1)) = R) := fun hn => by
            have h9 := HC3.out
            rw [if_neg (by simp), if_neg hn] at h9
            rw [HSUC.out]
            exact h9
          have HN := hide hN
          clear hN
          by_cases h0 : k = 0
          · subst h0
            have HC4 := HN.out (fun h => by have := HPK.out rfl; omega)
            go_wp2_with fail
            go_roundw
            case rel => exact ⟨1, by omega, by go_num, hkw3, HC4⟩
            case measure => simp [intOf]; omega
          · have hpc := cell_keeps (hkA.trans hk3) (HPV.out (by omega))
            have hpos : decide ((0 : Int) < (k : Int)) = true := by simp; omega
            by_cases hk1 : kp = 1
            · subst hk1
              by_cases hq1 : pk = 1
              · subst hq1
                have hR4 : R = 4 := by rw [← HC3.out]; simp
                subst hR4
                go_wp2_with fail
                go_ret
                exact ⟨rfl, hkw3⟩
              · have HC4 := HN.out (fun h => hq1 h.2)
                have hqb : (pk == 1) = false := by simpa using hq1
                go_wp2_with fail
                go_roundw
                case rel => exact ⟨k + 1, by omega, by go_num, hkw3, HC4⟩
                case measure => simp [intOf]; omega
            · have HC4 := HN.out (fun h => hk1 h.1)
              have hqb : (kp == 1) = false := by simpa using hk1
              go_wp2_with fail
              go_roundw
              case rel => exact ⟨k + 1, by omega, by go_num, hkw3, HC4⟩
              case measure => simp [intOf]; omega
        · have hEb : (E != 0) = true := by simpa using hE
          have hRE : R = E := by rw [← HC3.out]; simp [hE]
          subst hRE
          go_wp2_with fail
          go_ret
          exact ⟨rfl, hkw3⟩
      · have hRR : R = 0 := by
          rw [← hC.out, List.drop_eq_nil_of_le (by omega)]
          rfl
        subst hRR
        go_wp2_with fail
        go_ret
        exact ⟨rfl, hkw⟩
end Go.Proofs.YtlcljanibjdejaaGreat
