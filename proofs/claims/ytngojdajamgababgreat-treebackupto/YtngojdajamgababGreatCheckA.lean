/- nodes.CheckAttrs of the names of a token. -/
import Derived.Test.YtngojdajamgababGreatSameTok
import Derived.Test.YtngojdajamgababGreatNameAll
namespace Go.Proofs.YtngojdajamgababGreat
open Go.RowKit Go.Maps

/-- What checkAttrs answers. -/
def chkA : List Pair → List (List UInt8) → Int
  | [], _ => 0
  | p :: r, met => if isNameL p.1 = false then 1 else if p.1 ∈ met then 6 else chkA r (met ++ [p.1])

theorem chkA_drop (l : List Pair) (k : Nat) (hk : k < l.length) (met : List (List UInt8)) : chkA (l.drop k) met = if isNameL l[k].1 = false then 1 else if l[k].1 ∈ met then 6 else chkA (l.drop (k + 1)) (met ++ [l[k].1]) := by
  rw [List.drop_eq_getElem_cons hk]
  rfl

/-- Names of attributes are no longer than a string of Go may be. -/
def Fits (l : List Pair) : Prop := ∀ p ∈ l, p.1.length ≤ maxLen

theorem enters64 : Enters 64 := enters_of Tryz.func64 (by kernel_rfl) (by kernel_rfl)

set_option maxRecDepth 4000 in
set_option maxHeartbeats 4000000 in
theorem checkAttrs_any (w : World) (v : Value) (l : List Pair) (hv : Lies w v l.length 2 (pairCells l)) (hf : Fits l) :
    Calls Tryz.prog 65 #[v, .func (.func 64) #[] #[]] w fun e w' => e = .returned (.int .i64 (chkA l [])) ∧ Keeps [] w w' := by
  have hE := enters64
  unfold Enters at hE
  obtain ⟨o, c, rfl, h1, h2⟩ := hv.form
  obtain ⟨R, hR⟩ : ∃ R, chkA l [] = R := ⟨_, rfl⟩
  rw [hR]
  have HR := hide hR
  clear hR
  unfold maxLen at h2
  have hmm := @run_makeMap Tryz.prog
  go_enter Tryz.func65, Tryz.ntmps65
  go_wp2_with fail
  have hset0 : IsSet (w.alloc (.map #[] 0)) w.heap.size [] := IsSet.made w
  have hk0 : Keeps [] w (w.alloc (.map #[] 0)) := (Keeps.refl [] w).alloc _
  go_loopw [13] (fun i wr => ∃ k : Nat, k ≤ l.length ∧ i = .int .i64 k ∧ IsSet wr w.heap.size ((l.take k).map (·.1)) ∧ Keeps [] w wr ∧ Hid (chkA (l.drop k) ((l.take k).map (·.1)) = R)) (fun i _ => l.length - (intOf i).toNat)
  case atStart => exact ⟨0, Nat.zero_le _, rfl, hset0, hk0, HR⟩
  case round =>
    obtain ⟨k, hk, rfl, hset, hkw, hC⟩ := hrel
    clear HR hset0 hk0
    by_cases hlt : k < l.length
    · obtain ⟨g, x, rfl, hc⟩ := (hv.keeps hkw).addr (by omega)
      have a0 := hc _ _ (pair_at0 l k hlt)
      have a1 := hc _ _ (pair_at1 l k hlt)
      rw [← Nat.add_assoc] at a1
      have hC1 := hC.out
      rw [chkA_drop l k hlt] at hC1
      have hfk : l[k].1.length ≤ maxLen := hf _ (List.getElem_mem hlt)
      have hts : (l.take (k + 1)).map (·.1) = (l.take k).map (·.1) ++ [l[k].1] := by rw [List.take_succ_eq_append_getElem hlt, List.map_append]; rfl
      have hml : ((l.take k).map (·.1)).length < maxLen := by simp; unfold maxLen; omega
      have HC1 := hide hC1
      clear hC hC1 hc
      generalize (l.take k).map (·.1) = met at *
      have HTS := hide hts
      clear hts
      generalize l[k] = p at *
      obtain ⟨n, v⟩ := p
      have hA : IsPair (wr.alloc (.cells #[.string ⟨n.toArray⟩, .string ⟨v.toArray⟩] 83)) wr.heap.size ⟨n.toArray⟩ ⟨v.toArray⟩ := heap_alloc_new wr _
      have hkA : Keeps [] wr (wr.alloc (.cells #[.string ⟨n.toArray⟩, .string ⟨v.toArray⟩] 83)) := (Keeps.refl [] wr).alloc _
      have hsetA := hset.keeps hkA List.not_mem_nil
      have hkwA := hkw.trans hkA
      have hnm := hide (fun w => isName_all ⟨n.toArray⟩ w hfk)
      rw [str_list] at hnm
      simp only at a0 a1
      go_wp2_with fail
      refine (hnm.out _).mono ?_
      rintro e w3 ⟨rfl, rfl⟩
      clear a0 a1
      have c0 := hA.cell0
      cases hin : isNameL n
      · have hR1 : R = 1 := by rw [← HC1.out]; simp [hin]
        subst hR1
        go_wp2_with fail
        go_ret
        exact ⟨rfl, hkwA⟩
      · by_cases hmt : n ∈ met
        · have hR6 : R = 6 := by rw [← HC1.out]; simp [hin, hmt]
          subst hR6
          have hd : decide (n ∈ met) = true := by simpa using hmt
          have hlook := hsetA.look n hfk
          rw [hd] at hlook
          go_wp2_with fail
          go_ret
          exact ⟨rfl, hkwA.alloc _⟩
        · have hd : decide (n ∈ met) = false := by simpa using hmt
          have hlook := hsetA.look n hfk
          rw [hd] at hlook
          have hk2 : Keeps [] wr ((wr.alloc (.cells #[.string ⟨n.toArray⟩, .string ⟨v.toArray⟩] 83)).alloc (.cells #[] 99)) := hkA.alloc _
          obtain ⟨w6, hup, hset6, hk6⟩ := (hset.keeps hk2 List.not_mem_nil).add n hfk hml
          have c0' := (hA.keeps ((Keeps.refl [] _).alloc (.cells #[] 99)) List.not_mem_nil).cell0
          have HC2 : Hid (chkA (l.drop (k + 1)) ((l.take (k + 1)).map (·.1)) = R) := by
            rw [HTS.out]
            have := HC1.out
            simp [hin, hmt] at this
            exact this
          have hkw6 : Keeps [] w w6 := ((hkw.trans hk2).up.trans hk6).mono fun i hi hlt => by simp at hi; omega
          have hset7 : IsSet w6 w.heap.size ((l.take (k + 1)).map (·.1)) := by rw [HTS.out]; exact hset6
          clear HC1
          go_wp2_with fail
          go_roundw
          case rel => exact ⟨k + 1, by omega, by go_num, hset7, hkw6, HC2⟩
          case measure => simp [intOf]; omega
    · have hRR : R = 0 := by
        rw [← hC.out, List.drop_eq_nil_of_le (by omega)]
        rfl
      subst hRR
      go_wp2_with fail
      go_ret
      exact ⟨rfl, hkw⟩
end Go.Proofs.YtngojdajamgababGreat
