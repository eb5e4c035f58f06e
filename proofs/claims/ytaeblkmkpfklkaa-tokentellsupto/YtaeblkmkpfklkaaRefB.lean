/- CheckAttrs of the document's answer. CheckTokens of the document's answer. AttrBytes and TokenBytes of the document's answer. -/
import Derived.Test.YtaeblkmkpfklkaaRefA
import Derived.Test.YtaeblkmkpfklkaaCheckA
import Derived.Test.YtaeblkmkpfklkaaCheck
import Derived.Test.YtaeblkmkpfklkaaTakeOf
import Derived.Test.YtaeblkmkpfklkaaPrintAll
namespace Go.Proofs.Ytaeblkmkpfklkaa
open Go.RowKit Go.Maps

theorem enters38 : Enters 38 := enters_of Try.func38 (by kernel_rfl) (by kernel_rfl)

theorem chkA_here (l : List Pair) (k : Nat) (hk : k < l.length) (met : List (List UInt8)) : chkA (l.drop k) met = if isNameL l[k].1 = false then 1 else if l[k].1 ∈ met then 6 else chkA (l.drop (k + 1)) (met ++ [l[k].1]) := by
  rw [List.drop_eq_getElem_cons hk]
  rfl

theorem met_of (l : List Pair) (j : Nat) (hj : j < l.length) : l[j].1 ∈ (l.take j).map (·.1) ↔ ∃ i, ∃ h : i < l.length, i < j ∧ l[i].1 = l[j].1 := by
  constructor
  · intro h
    obtain ⟨p, hp, he⟩ := List.mem_map.1 h
    obtain ⟨i, hi, rfl⟩ := List.getElem_of_mem hp
    have hi' : i < j := by simp at hi; omega
    exact ⟨i, by omega, hi', by rw [← he, List.getElem_take]⟩
  · rintro ⟨i, h, hij, he⟩
    refine List.mem_map.2 ⟨l[i], ?_, he⟩
    have : i < (l.take j).length := by simp; omega
    have h2 := List.getElem_mem this
    rwa [List.getElem_take] at h2

set_option maxHeartbeats 8000000 in
theorem checkAttrsR_any (w : World) (v : Value) (l : List Pair) (hv : Lies w v l.length 2 (pairCells l)) (hf : Fits l) :
    Calls Try.prog 39 #[v, .func (.func 38) #[] #[]] w fun e w' => e = .returned (.int .i64 (chkA l [])) ∧ ∃ n, w' = w.drewN n := by
  have hE := enters38
  unfold Enters at hE
  obtain ⟨o, c, rfl, h1, h2⟩ := hv.form
  unfold maxLen at h2
  obtain ⟨R, hR⟩ : ∃ R, chkA l [] = R := ⟨_, rfl⟩
  rw [hR]
  have HR := hide hR
  clear hR
  go_enter Try.func39, Try.ntmps39
  go_wp2_with fail
  go_loopw [5] (fun i wr => ∃ j : Nat, j ≤ l.length ∧ i = .int .i64 j ∧ Hid (∃ m, wr = w.drewN m) ∧ Hid (chkA (l.drop j) ((l.take j).map (·.1)) = R)) (fun i _ => l.length - (intOf i).toNat)
  case atStart => exact ⟨0, Nat.zero_le _, rfl, ⟨0, rfl⟩, by simpa [Hid] using HR.out⟩
  case round =>
    obtain ⟨j, hj, rfl, hW, hH⟩ := hrel
    clear HR
    have hkw : Keeps [] w wr := by obtain ⟨m, hm⟩ := hW.out; rw [hm]; exact (Keeps.refl _ _).drewN _
    by_cases hlt : j < l.length
    · obtain ⟨g, x, rfl, hca⟩ := (hv.keeps hkw).addr (by omega)
      have a0 := hca _ _ (pair_at0 l j hlt)
      have hst := chkA_here l j hlt ((l.take j).map (·.1))
      have hnm := hide (fun w => isNameR_any ⟨l[j].1.toArray⟩ w (by rw [str_size]; exact hf l[j] (List.getElem_mem hlt)))
      rw [str_list] at hnm
      cases hn : isNameL l[j].1
      · have hRx : R = 1 := by rw [← hH.out, hst, if_pos hn]
        subst hRx
        rw [hn] at hnm
        clear hst hH hn hca
        go_wp2_with fail
        refine (hnm.out _).mono ?_
        rintro e w1 ⟨rfl, rfl⟩
        go_wp2_with fail
        go_ret
        exact ⟨rfl, hW.out⟩
      · rw [hn] at hnm
        have hyes : Hid (l[j].1 ∈ (l.take j).map (·.1) → R = 6) := fun h => by rw [← hH.out, hst, if_neg (by simp [hn]), if_pos h]
        have hno : Hid (l[j].1 ∉ (l.take j).map (·.1) → chkA (l.drop (j + 1)) ((l.take (j + 1)).map (·.1)) = R) := fun h => by
          rw [← hH.out, hst, if_neg (by simp [hn]), if_neg h, List.take_succ_eq_append_getElem hlt, List.map_append]
          rfl
        clear hst hH hn
        have HCA := hide hca
        clear hca
        go_wp2_with fail
        refine (hnm.out _).mono ?_
        rintro e w1 ⟨rfl, rfl⟩
        go_wp2_with fail
        go_loopw [6] (fun i wq => ∃ k : Nat, k ≤ j ∧ i = .int .i64 k ∧ Hid (∃ m, wq = w1.drewN m) ∧ Hid (∀ i (hi : i < l.length), i < k → l[i].1 ≠ l[j].1)) (fun i _ => j - (intOf i).toNat)
        case atStart => exact ⟨0, Nat.zero_le _, rfl, ⟨0, rfl⟩, fun i hi h => by omega⟩
        case round =>
          obtain ⟨k, hk, rfl, hW2, hH2⟩ := hrel
          by_cases hkj : k < j
          · have hkl : k < l.length := by omega
            have hcells : ∀ j u, (pairCells l)[j]? = some u → wr.cell? ⟨g, x + j, none⟩ = some u := fun j u hu => by
              obtain ⟨m, hm⟩ := hW2.out
              rw [hm]
              exact HCA.out j u hu
            have q0 := hcells _ _ (pair_at0 l k hkl)
            have q1 := hcells _ _ (pair_at0 l j hlt)
            clear hcells a0
            by_cases he : l[k].1 = l[j].1
            · have hR6 := hyes.out ((met_of l j hlt).2 ⟨k, hkl, hkj, he⟩)
              subst hR6
              have hse : ((⟨l[k].1.toArray⟩ : ByteArray).toList == (⟨l[j].1.toArray⟩ : ByteArray).toList) = true := by rw [strEq]; simpa using he
              have heb : (l[k].1 == l[j].1) = true := by simpa using he
              clear he hyes hno
              go_wp2_with fail
              go_quiet (fail)
              go_wp2_with fail
              go_ret
              refine ⟨rfl, ?_⟩
              obtain ⟨m, hm⟩ := hW2.out
              obtain ⟨m1, hm1⟩ := hW.out
              exact ⟨m1 + m + nq, by rw [hm, hm1]; simp [Nat.add_assoc]⟩
            · have hse : ((⟨l[k].1.toArray⟩ : ByteArray).toList == (⟨l[j].1.toArray⟩ : ByteArray).toList) = false := by rw [strEq]; simpa using he
              have heb : (l[k].1 == l[j].1) = false := by simpa using he
              have hed : decide (l[k].1 = l[j].1) = false := by simpa using he
              have HE2 := hide he
              go_wp2_with fail
              go_quiet (fail)
              go_wp2_with fail
              go_roundw
              case rel => exact ⟨k + 1, by omega, by go_num, by obtain ⟨m, hm⟩ := hW2.out; exact ⟨m + nq, by rw [hm]; simp⟩, fun i hi hik => by
                rcases Nat.lt_or_ge i k with h' | h'
                · exact hH2.out i hi h'
                · have : i = k := by omega
                  subst this
                  exact HE2.out⟩
              case measure => simp [intOf]; omega
          · have hnn := hno.out (fun h => by
              obtain ⟨i, hi, hij, he⟩ := (met_of l j hlt).1 h
              exact hH2.out i hi (by omega) he)
            have HN := hide hnn
            clear hnn hyes hno hH2 a0
            go_wp2_with fail
            go_roundw
            case rel => exact ⟨j + 1, by omega, by go_num, by
              obtain ⟨m, hm⟩ := hW2.out
              obtain ⟨m1, hm1⟩ := hW.out
              exact ⟨m1 + m, by rw [hm, hm1]; simp⟩, HN.out⟩
            case measure => simp [intOf]; omega
    · have hRx : R = 0 := by rw [← hH.out, List.drop_eq_nil_of_le (by omega)]; rfl
      subst hRx
      clear hH
      go_wp2_with fail
      go_ret
      exact ⟨rfl, hW.out⟩
end Go.Proofs.Ytaeblkmkpfklkaa

namespace Go.Proofs.Ytaeblkmkpfklkaa
open Go.RowKit Go.Maps

theorem betw_keeps (n a b : Int) (w : World) : Calls Try.prog 37 #[.int .i64 n, .int .i64 a, .int .i64 b] w fun e w' => e = .returned (.bool (decide (a ≤ n) && decide (n ≤ b))) ∧ Keeps [] w w' :=
  (between_any n a b w).mono fun _ _ h => ⟨h.1, by rw [h.2]; exact Keeps.refl _ _⟩

theorem checkAttrsR_keeps (w : World) (v : Value) (l : List Pair) (hv : Lies w v l.length 2 (pairCells l)) (hf : Fits l) :
    Calls Try.prog 39 #[v, .func (.func 38) #[] #[]] w fun e w' => e = .returned (.int .i64 (chkA l [])) ∧ Keeps [] w w' :=
  (checkAttrsR_any w v l hv hf).mono fun _ _ ⟨h1, n, h2⟩ => ⟨h1, by rw [h2]; exact (Keeps.refl _ _).drewN n⟩

set_option maxRecDepth 4000 in
set_option maxHeartbeats 8000000 in
theorem checkTokensR_any (w : World) (v : Value) (ts : List Tok) (hv : Toks w v ts) (hf : ∀ t ∈ ts, FitsT t) :
    Calls Try.prog 18 #[v] w fun e w' => e = .returned (.int .i64 (chkL ts)) ∧ Keeps [] w w' := by
  obtain ⟨l, rfl, hv, hva⟩ := hv
  obtain ⟨o, c, rfl, h1, h2⟩ := hv.form
  unfold maxLen at h2
  unfold chkL
  rw [List.length_map]
  by_cases hbig : 3000 < l.length
  · rw [if_pos hbig]
    have hgt : decide ((3000 : Int) < (l.length : Int)) = true := by simp; omega
    go_enter Try.func18, Try.ntmps18
    go_wp2_with fail
    go_ret
    exact ⟨rfl, Keeps.refl _ _⟩
  · rw [if_neg hbig]
    have hgt : decide ((3000 : Int) < (l.length : Int)) = false := by simp; omega
    obtain ⟨R, hR⟩ : ∃ R, chkFrom 0 (l.map (·.1)) = R := ⟨_, rfl⟩
    rw [hR]
    have HR := hide hR
    clear hR
    go_enter Try.func18, Try.ntmps18
    go_wp2_with fail
    go_loopw [3] (fun i wr => ∃ k : Nat, k ≤ l.length ∧ i = .int .i64 k ∧ Keeps [] w wr ∧ Hid (chkFrom (prevK l k) ((l.drop k).map (·.1)) = R)) (fun i _ => l.length - (intOf i).toNat)
    case atStart => exact ⟨0, Nat.zero_le _, rfl, Keeps.refl _ _, HR⟩
    case round =>
      obtain ⟨k, hk, rfl, hkw, hC⟩ := hrel
      clear HR
      by_cases hlt : k < l.length
      · obtain ⟨g, x, rfl, hc⟩ := (hv.keeps hkw).addr (by omega)
        obtain ⟨a0, a1, a2, a3⟩ := lies_tok hc k hlt
        have hC1 := hC.out
        rw [chkFrom_drop l k hlt] at hC1
        have hsuc := prevK_succ l k hlt
        have hfk := hf l[k].1 (List.mem_map_of_mem (List.getElem_mem hlt))
        have hpa := hva l[k] (List.getElem_mem hlt)
        have hpv : 0 < k → wr.cell? ⟨g, x + (k - 1) * 4, none⟩ = some (.int .i64 (prevK l k)) := fun h0 => by
          have h9 := (lies_tok hc (k - 1) (by omega)).1
          have e9 := prevK_succ l (k - 1) (by omega)
          rw [show k - 1 + 1 = k from by omega] at e9
          rw [e9]
          exact h9
        have HPV := hide hpv
        have HPK := hide (show k = 0 → prevK l k = 0 from fun h => by subst h; rfl)
        have HC1 := hide hC1
        have HSUC := hide hsuc
        clear hC hC1 hc hpv hsuc
        generalize prevK l k = pk at *
        generalize l[k] = p at *
        obtain ⟨⟨kp, np, ap, xp⟩, vp⟩ := p
        simp only at a0 a1 a2 a3 hpa
        obtain ⟨op, cp, rfl, hp1, hp2⟩ := hpa.form
        unfold maxLen at hp2
        have hkA : Keeps [] wr (wr.alloc (.cells #[.int .i64 kp, .string ⟨np.toArray⟩, .slice op ap.length cp, .string ⟨xp.toArray⟩] 43)) := (Keeps.refl [] wr).alloc _
        have hA : IsTok (wr.alloc (.cells #[.int .i64 kp, .string ⟨np.toArray⟩, .slice op ap.length cp, .string ⟨xp.toArray⟩] 43)) wr.heap.size (⟨kp, np, ap, xp⟩, .slice op ap.length cp) := heap_alloc_new wr _
        obtain ⟨B, hB⟩ : ∃ B, (decide ((1 : Int) ≤ kp) && decide (kp ≤ 3)) = B := ⟨_, rfl⟩
        have hb := hide (betw_keeps kp 1 3)
        rw [hB] at hb
        have HB := hide hB
        clear hB
        have hnm := hide (fun w => isNameR_any ⟨np.toArray⟩ w (by rw [str_size]; exact hfk.1))
        rw [str_list] at hnm
        have hca := hide (fun (w' : World) (hk : Keeps [] w w') => checkAttrsR_keeps w' _ ap (hpa.keeps hk) hfk.2)
        have HC2 := HC1.out
        simp only at HC2
        have HC3 := hide HC2
        have HSUC2 := HSUC.out
        simp only at HSUC2
        have HNX : Hid (chkT ⟨kp, np, ap, xp⟩ = 0 → ¬ (kp = 1 ∧ pk = 1) → Hid (chkFrom (prevK l (k + 1)) ((l.drop (k + 1)).map (·.1)) = R)) := fun h0 hn => by
          have h9 := HC2
          rw [if_neg (by simpa using h0), if_neg hn] at h9
          rw [HSUC2]
          exact h9
        clear HC1 HC2 HSUC HSUC2 hpa
        go_wp2_with fail
        refine (hb.out _).mono ?_
        rintro e w3 ⟨rfl, hk3⟩
        have hkw3 : Keeps [] w w3 := (hkw.trans hkA).trans hk3
        have hA3 := hA.keeps hk3 List.not_mem_nil
        have c0 : w3.cell? ⟨wr.heap.size, 0, none⟩ = some (.int .i64 kp) := by rw [hA3.cell 0]; rfl
        have c1 : w3.cell? ⟨wr.heap.size, 1, none⟩ = some (.string ⟨np.toArray⟩) := by rw [hA3.cell 1]; rfl
        have c2 : w3.cell? ⟨wr.heap.size, 2, none⟩ = some (.slice op ap.length cp) := by rw [hA3.cell 2]; rfl
        have c3 : w3.cell? ⟨wr.heap.size, 3, none⟩ = some (.string ⟨xp.toArray⟩) := by rw [hA3.cell 3]; rfl
        have hkx := hide (hkA.trans hk3)
        clear a0 a1 a2 a3 hA hkA hk3 hb hkw
        by_cases k1 : kp = 1
        · subst k1
          have hBt : B = true := by rw [← HB.out]; rfl
          subst hBt
          clear hca hnm HB
          by_cases n1 : np = []
          · subst n1
            by_cases a1 : ap = []
            · subst a1
              by_cases t1 : xp = []
              · subst t1
                have hR1 : R = 1 := by rw [← HC3.out]; simp [chkT]
                subst hR1
                clear HC3 HNX
                go_wp2_with fail
                go_ret
                exact ⟨rfl, hkw3⟩
              · have he : xp.isEmpty = false := by simpa using t1
                have hch : chkT ⟨1, [], [], xp⟩ = 0 := by simp [chkT, t1]
                by_cases h0 : k = 0
                · subst h0
                  have HC4 := HNX.out hch (fun h => by have := HPK.out rfl; omega)
                  clear HC3 HNX hch
                  go_wp2_with fail
                  go_roundw
                  case rel => exact ⟨1, by omega, by go_num, hkw3, HC4⟩
                  case measure => simp [intOf]; omega
                · have hpc := cell_keeps hkx.out (HPV.out (by omega))
                  have hpos : decide ((0 : Int) < (k : Int)) = true := by simp; omega
                  by_cases hq1 : pk = 1
                  · subst hq1
                    have hR4 : R = 4 := by rw [← HC3.out]; simp [hch]
                    subst hR4
                    clear HC3 HNX hch
                    go_wp2_with fail
                    go_ret
                    exact ⟨rfl, hkw3⟩
                  · have HC4 := HNX.out hch (fun h => hq1 h.2)
                    have hqb : (pk == 1) = false := by simpa using hq1
                    clear HC3 HNX hch
                    go_wp2_with fail
                    go_roundw
                    case rel => exact ⟨k + 1, by omega, by go_num, hkw3, HC4⟩
                    case measure => simp [intOf]; omega
            · have hz : 0 < ap.length := List.length_pos_iff.2 a1
              have hR1 : R = 1 := by rw [← HC3.out]; simp [chkT, a1]
              subst hR1
              clear HC3 HNX
              go_wp2_with fail
              go_ret
              exact ⟨rfl, hkw3⟩
          · have hne : np.isEmpty = false := by simpa using n1
            have hR1 : R = 1 := by rw [← HC3.out]; simp [chkT, n1]
            subst hR1
            clear HC3 HNX
            go_wp2_with fail
            go_ret
            exact ⟨rfl, hkw3⟩
        · by_cases k2 : kp = 2
          · subst k2
            have hBt : B = true := by rw [← HB.out]; rfl
            subst hBt
            clear HB k1
            by_cases t1 : xp = []
            · subst t1
              cases hin : isNameL np
              · rw [hin] at hnm
                have hR1 : R = 1 := by rw [← HC3.out]; simp [chkT, hin]
                subst hR1
                clear HC3 HNX hca hin
                go_wp2_with fail
                refine (hnm.out _).mono ?_
                rintro e w4 ⟨rfl, rfl⟩
                go_wp2_with fail
                go_ret
                exact ⟨rfl, hkw3⟩
              · rw [hin] at hnm
                have hch : chkT ⟨2, np, ap, []⟩ = chkA ap [] := by simp [chkT, hin]
                rw [hch] at HC3 HNX
                generalize chkA ap [] = A at *
                by_cases hA0 : A = 0
                · subst hA0
                  have HC4 := HNX.out rfl (fun h => by have := h.1; omega)
                  clear HC3 HNX hin hch
                  go_wp2_with fail
                  refine (hnm.out _).mono ?_
                  rintro e w4 ⟨rfl, rfl⟩
                  go_wp2_with fail
                  refine (hca.out _ hkw3).mono ?_
                  rintro e w5 ⟨rfl, hk5⟩
                  have hkw5 := hkw3.trans hk5
                  have d0 := cell_keeps hk5 c0
                  clear c0 c1 c2 c3 hca
                  by_cases h0 : k = 0
                  · subst h0
                    go_wp2_with fail
                    go_roundw
                    case rel => exact ⟨1, by omega, by go_num, hkw5, HC4⟩
                    case measure => simp [intOf]; omega
                  · have hpos : decide ((0 : Int) < (k : Int)) = true := by simp; omega
                    go_wp2_with fail
                    go_roundw
                    case rel => exact ⟨k + 1, by omega, by go_num, hkw5, HC4⟩
                    case measure => simp [intOf]; omega
                · have hRA : R = A := by rw [← HC3.out]; simp [hA0]
                  subst hRA
                  have hAb : (R != 0) = true := by simpa using hA0
                  clear HC3 HNX hin hch
                  go_wp2_with fail
                  refine (hnm.out _).mono ?_
                  rintro e w4 ⟨rfl, rfl⟩
                  go_wp2_with fail
                  refine (hca.out _ hkw3).mono ?_
                  rintro e w5 ⟨rfl, hk5⟩
                  have hkw5 := hkw3.trans hk5
                  go_wp2_with fail
                  go_ret
                  exact ⟨rfl, hkw5⟩
            · have he : xp.isEmpty = false := by simpa using t1
              clear hca hnm
              have hR1 : R = 1 := by rw [← HC3.out]; simp [chkT, t1]
              subst hR1
              clear HC3 HNX
              go_wp2_with fail
              go_ret
              exact ⟨rfl, hkw3⟩
          · by_cases k3 : kp = 3
            · subst k3
              have hBt : B = true := by rw [← HB.out]; rfl
              subst hBt
              clear HB k1 k2
              by_cases t1 : xp = []
              · subst t1
                by_cases a1 : ap = []
                · subst a1
                  cases hin : isNameL np
                  · rw [hin] at hnm
                    have hR1 : R = 1 := by rw [← HC3.out]; simp [chkT, hin]
                    subst hR1
                    clear HC3 HNX hca hin
                    go_wp2_with fail
                    refine (hnm.out _).mono ?_
                    rintro e w4 ⟨rfl, rfl⟩
                    go_wp2_with fail
                    go_ret
                    exact ⟨rfl, hkw3⟩
                  · rw [hin] at hnm
                    have hch : chkT ⟨3, np, [], []⟩ = chkA [] [] := by simp [chkT, hin, chkA]
                    rw [hch] at HC3 HNX
                    have hA0 : (chkA [] [] : Int) = 0 := rfl
                    rw [hA0] at HC3 HNX hca
                    have HC4 := HNX.out rfl (fun h => by have := h.1; omega)
                    clear HC3 HNX hin hch hA0
                    go_wp2_with fail
                    refine (hnm.out _).mono ?_
                    rintro e w4 ⟨rfl, rfl⟩
                    go_wp2_with fail
                    refine (hca.out _ hkw3).mono ?_
                    rintro e w5 ⟨rfl, hk5⟩
                    have hkw5 := hkw3.trans hk5
                    have d0 := cell_keeps hk5 c0
                    clear c0 c1 c2 c3 hca
                    by_cases h0 : k = 0
                    · subst h0
                      go_wp2_with fail
                      go_roundw
                      case rel => exact ⟨1, by omega, by go_num, hkw5, HC4⟩
                      case measure => simp [intOf]; omega
                    · have hpos : decide ((0 : Int) < (k : Int)) = true := by simp; omega
                      go_wp2_with fail
                      go_roundw
                      case rel => exact ⟨k + 1, by omega, by go_num, hkw5, HC4⟩
                      case measure => simp [intOf]; omega
                · have hz : 0 < ap.length := List.length_pos_iff.2 a1
                  clear hca hnm
                  have hR1 : R = 1 := by rw [← HC3.out]; simp [chkT, a1]
                  subst hR1
                  clear HC3 HNX
                  go_wp2_with fail
                  go_ret
                  exact ⟨rfl, hkw3⟩
              · have he : xp.isEmpty = false := by simpa using t1
                clear hca hnm
                have hR1 : R = 1 := by rw [← HC3.out]; simp [chkT, t1]
                subst hR1
                clear HC3 HNX
                go_wp2_with fail
                go_ret
                exact ⟨rfl, hkw3⟩
            · have hBf : B = false := by
                rw [← HB.out]
                simp only [Bool.and_eq_false_iff, decide_eq_false_iff_not]
                omega
              subst hBf
              have hR7 : R = 7 := by rw [← HC3.out]; simp [chkT, k1, k2, k3]
              subst hR7
              clear HC3 HNX HB hca hnm
              go_wp2_with fail
              go_ret
              exact ⟨rfl, hkw3⟩
      · have hRR : R = 0 := by
          rw [← hC.out, List.drop_eq_nil_of_le (by omega)]
          rfl
        subst hRR
        go_wp2_with fail
        go_ret
        exact ⟨rfl, hkw⟩
end Go.Proofs.Ytaeblkmkpfklkaa

namespace Go.Proofs.Ytaeblkmkpfklkaa
open Go.RowKit Go.Maps

theorem quiet_put (s : ByteArray) (w : World) (hs : s.size ≤ 2000000) (n : Nat) :
    Calls Try.prog 13 #[.string s] (w.drewN n) fun e w' => e = .returned (.string ⟨(putL s.data.toList).toArray⟩) ∧ w' = w.drewN n := putOf_any s (w.drewN n) hs

set_option maxRecDepth 4000 in
set_option maxHeartbeats 4000000 in
theorem attrBytes_any (w : World) (v : Value) (l : List Pair) (hv : Lies w v l.length 2 (pairCells l)) (hb : bulkP l ≤ 1100000) :
    Calls Try.prog 47 #[v] w fun e w' => e = .returned (.string ⟨(pairsP l).toArray⟩) ∧ ∃ n, w' = w.drewN n := by
  obtain ⟨o, c, rfl, h1, h2⟩ := hv.form
  unfold maxLen at h2
  go_enter Try.func47, Try.ntmps47
  go_wp2_with fail
  go_loopw [3, 4] (fun o i wr => ∃ (k : Nat) (S : ByteArray), k ≤ l.length ∧ i = .int .i64 k ∧ o = .string S ∧ Hid (S.data.toList = pairsP (l.take k)) ∧ Hid (∃ m, wr = w.drewN m)) (fun _ i _ => l.length - (intOf i).toNat)
  case atStart => exact ⟨0, ⟨#[]⟩, Nat.zero_le _, rfl, rfl, rfl, ⟨0, rfl⟩⟩
  case round =>
    obtain ⟨k, S, hk, rfl, rfl, hS, hW⟩ := hrel
    have hkw : Keeps [] w wr := by obtain ⟨m, hm⟩ := hW.out; rw [hm]; exact (Keeps.refl _ _).drewN _
    by_cases hlt : k < l.length
    · obtain ⟨g, x, rfl, hca⟩ := (hv.keeps hkw).addr (by omega)
      have a0 := hca _ _ (pair_at0 l k hlt)
      have a1 := hca _ _ (pair_at1 l k hlt)
      rw [← Nat.add_assoc] at a1
      have hfk := bulkP_mem (List.getElem_mem hlt)
      have hpl := pairsP_le8 l k
      have hts := pairsP_take l k hlt
      rw [← hS.out] at hts hpl
      have hSl : S.size ≤ 8 * bulkP l := by rw [← len_size]; exact hpl
      generalize l[k] = p at *
      obtain ⟨n, v⟩ := p
      simp only at a0 a1 hfk
      have hpv := putL_le v
      have hput := hide (quiet_put ⟨v.toArray⟩ wr (by rw [str_size]; omega))
      rw [str_list] at hput
      have hnl : (⟨n.toArray⟩ : ByteArray).size ≤ 1100000 := by rw [str_size]; omega
      have hPl : (⟨(putL v).toArray⟩ : ByteArray).size ≤ 6600000 := by rw [str_size]; omega
      have HTS : Hid (∀ X : ByteArray, X.data.toList = S.data.toList ++ pairP (n, v) → X.data.toList = pairsP (l.take (k + 1))) := fun X hX => by rw [hX, hts]
      have HP : Hid (∀ N P : ByteArray, N = ⟨n.toArray⟩ → P = ⟨(putL v).toArray⟩ → (S ++ (⟨#[32]⟩ ++ N ++ ⟨#[61, 34]⟩ ++ P ++ ⟨#[34]⟩)).data.toList = S.data.toList ++ pairP (n, v)) := fun N P hN hP => by
        subst hN; subst hP
        simp [pairP]
      have HP2 := HP.out _ _ rfl rfl
      clear hts hpl hS hca hfk hpv HP
      generalize (⟨(putL v).toArray⟩ : ByteArray) = P at *
      generalize (⟨n.toArray⟩ : ByteArray) = NB at *
      have HP3 := hide (HTS.out _ HP2)
      clear HP2 HTS
      have q1 : ¬ 9223372036854775807 < 1 + NB.size := by omega
      have q2 : ¬ 9223372036854775807 < 1 + NB.size + 2 := by omega
      have q3 : ¬ 9223372036854775807 < 1 + NB.size + 2 + P.size := by omega
      have q4 : ¬ 9223372036854775807 < 1 + NB.size + 2 + P.size + 1 := by omega
      have q5 : ¬ 9223372036854775807 < S.size + (1 + NB.size + 2 + P.size + 1) := by omega
      go_wp2_with fail
      go_quiet ((go_at_call 13; exact Calls.quiet_of_same (hput.out _)))
      go_wp2_with fail
      go_roundw
      case rel => exact ⟨k + 1, _, by omega, by go_num, rfl, HP3, by obtain ⟨m, hm⟩ := hW.out; exact ⟨m + nq, by rw [hm]; simp⟩⟩
      case measure => simp [intOf]; omega
    · have hall : l.take k = l := List.take_of_length_le (by omega)
      have hSe : S = ⟨(pairsP l).toArray⟩ := WideShapes.bytes_inj (by rw [hS.out, hall])
      subst hSe
      clear hS
      go_wp2_with fail
      go_ret
      exact ⟨rfl, hW.out⟩

set_option maxRecDepth 4000 in
set_option maxHeartbeats 4000000 in
theorem tokenBytes_any (w : World) (v : Value) (ts : List Tok) (hv : Toks w v ts) (hb : bulkL ts ≤ 1100000) (hkd : ∀ t ∈ ts, t.kind = 1 ∨ t.kind = 2 ∨ t.kind = 3) :
    Calls Try.prog 20 #[v] w fun e w' => e = .returned (.string ⟨(toksP ts).toArray⟩) ∧ ∃ n, w' = w.drewN n := by
  obtain ⟨l, rfl, hv, hva⟩ := hv
  obtain ⟨o, c, rfl, h1, h2⟩ := hv.form
  unfold maxLen at h2
  go_enter Try.func20, Try.ntmps20
  go_wp2_with fail
  go_loopw [3, 4] (fun o i wr => ∃ (k : Nat) (S : ByteArray), k ≤ l.length ∧ i = .int .i64 k ∧ o = .string S ∧ Hid (S.data.toList = toksP ((l.take k).map (·.1))) ∧ Hid (∃ m, wr = w.drewN m)) (fun _ i _ => l.length - (intOf i).toNat)
  case atStart => exact ⟨0, ⟨#[]⟩, Nat.zero_le _, rfl, rfl, rfl, ⟨0, rfl⟩⟩
  case round =>
    obtain ⟨k, S, hk, rfl, rfl, hS, hW⟩ := hrel
    have hkw : Keeps [] w wr := by obtain ⟨m, hm⟩ := hW.out; rw [hm]; exact (Keeps.refl _ _).drewN _
    by_cases hlt : k < l.length
    · obtain ⟨g, x, rfl, hc⟩ := (hv.keeps hkw).addr (by omega)
      obtain ⟨a0, a1, a2, a3⟩ := lies_tok hc k hlt
      have hkk := hkd l[k].1 (List.mem_map_of_mem (List.getElem_mem hlt))
      have hfk := bulkL_mem (List.mem_map_of_mem (f := (·.1)) (List.getElem_mem hlt))
      have hpa := hva l[k] (List.getElem_mem hlt)
      have hpl := toksP_le8 l k
      have hts := toksP_take l k hlt
      rw [← hS.out] at hts hpl
      have hSl : S.size ≤ 8 * bulkL (l.map (·.1)) := by rw [← len_size]; exact hpl
      have hab := fun (hq : bulkP l[k].1.attrs ≤ 1100000) (n : Nat) => attrBytes_any (wr.drewN n) l[k].2 l[k].1.attrs (hpa.keeps (hkw.drewN n)) hq
      generalize l[k] = p at *
      obtain ⟨⟨kp, np, ap, xp⟩, vp⟩ := p
      simp only at a0 a1 a2 a3 hkk hab hpa hts
      unfold bulkT at hfk
      simp only at hfk
      obtain ⟨op, cp, rfl, hp1, hp2⟩ := hpa.form
      unfold maxLen at hp2
      have HTS : Hid (∀ X : ByteArray, X.data.toList = S.data.toList ++ tokP ⟨kp, np, ap, xp⟩ → X.data.toList = toksP ((l.take (k + 1)).map (·.1))) := fun X hX => by rw [hX, hts]
      have hAB := hide (hab (by omega))
      have hpx := putL_le xp
      have hap := pairsP_le8 ap ap.length
      rw [List.take_length] at hap
      clear hts hpl hS hc hab hpa
      have hnl : (⟨np.toArray⟩ : ByteArray).size ≤ 1100000 := by rw [str_size]; omega
      rcases hkk with rfl | rfl | rfl
      · have hput := hide (fun w => putOf_any ⟨xp.toArray⟩ w (by rw [str_size]; omega))
        rw [str_list] at hput
        have hPl : (⟨(putL xp).toArray⟩ : ByteArray).size ≤ 6600000 := by rw [str_size]; omega
        have HP := hide (HTS.out (S ++ ⟨(putL xp).toArray⟩) (by simp [tokP]))
        clear HTS hAB hpx hap
        generalize (⟨(putL xp).toArray⟩ : ByteArray) = P at *
        have q1 : ¬ 9223372036854775807 < S.size + P.size := by omega
        go_wp2_with fail
        refine (hput.out _).mono ?_
        rintro e w3 ⟨rfl, rfl⟩
        go_wp2_with fail
        go_roundw
        case rel => exact ⟨k + 1, _, by omega, by go_num, rfl, HP, hW⟩
        case measure => simp [intOf]; omega
      · have hPl : (⟨(pairsP ap).toArray⟩ : ByteArray).size ≤ 8800000 := by rw [str_size]; omega
        have HP := hide (HTS.out (S ++ (⟨#[60]⟩ ++ ⟨np.toArray⟩ ++ ⟨(pairsP ap).toArray⟩ ++ ⟨#[62]⟩)) (by simp [tokP, openP]))
        clear HTS hpx hap
        generalize (⟨(pairsP ap).toArray⟩ : ByteArray) = P at *
        generalize (⟨np.toArray⟩ : ByteArray) = NB at *
        have q1 : ¬ 9223372036854775807 < 1 + NB.size := by omega
        have q2 : ¬ 9223372036854775807 < 1 + NB.size + P.size := by omega
        have q3 : ¬ 9223372036854775807 < 1 + NB.size + P.size + 1 := by omega
        have q4 : ¬ 9223372036854775807 < S.size + (1 + NB.size + P.size + 1) := by omega
        go_wp2_with fail
        go_quiet ((go_at_call 47; exact Calls.quiet_of (hAB.out _)))
        go_wp2_with fail
        go_roundw
        case rel => exact ⟨k + 1, _, by omega, by go_num, rfl, HP, by obtain ⟨m, hm⟩ := hW.out; exact ⟨m + nq, by rw [hm]; simp⟩⟩
        case measure => simp [intOf]; omega
      · have HP := hide (HTS.out (S ++ (⟨#[60, 47]⟩ ++ ⟨np.toArray⟩ ++ ⟨#[62]⟩)) (by simp [tokP]))
        clear HTS hpx hap hAB
        generalize (⟨np.toArray⟩ : ByteArray) = NB at *
        have q1 : ¬ 9223372036854775807 < 2 + NB.size := by omega
        have q2 : ¬ 9223372036854775807 < 2 + NB.size + 1 := by omega
        have q3 : ¬ 9223372036854775807 < S.size + (2 + NB.size + 1) := by omega
        go_wp2_with fail
        go_roundw
        case rel => exact ⟨k + 1, _, by omega, by go_num, rfl, HP, hW⟩
        case measure => simp [intOf]; omega
    · have hall : l.take k = l := List.take_of_length_le (by omega)
      have hSe : S = ⟨(toksP (l.map (·.1))).toArray⟩ := WideShapes.bytes_inj (by rw [hS.out, hall])
      subst hSe
      clear hS
      go_wp2_with fail
      go_ret
      exact ⟨rfl, hW.out⟩
end Go.Proofs.Ytaeblkmkpfklkaa
