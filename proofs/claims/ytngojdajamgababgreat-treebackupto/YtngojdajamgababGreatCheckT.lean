/- checkToken, Check. -/
import Derived.Test.YtngojdajamgababGreatCheckA
namespace Go.Proofs.YtngojdajamgababGreat
open Go.RowKit Go.Maps

/-- What checkToken answers. -/
def chkT (t : Tok) : Int :=
  if t.kind = 1 then (if t.name ≠ [] ∨ t.attrs ≠ [] ∨ t.text = [] then 1 else 0)
  else if t.kind = 2 then (if t.text ≠ [] ∨ isNameL t.name = false then 1 else chkA t.attrs [])
  else if t.kind = 3 then (if t.text ≠ [] ∨ t.attrs ≠ [] ∨ isNameL t.name = false then 1 else 0)
  else 7

/-- A token's names are no longer than a string of Go may be. -/
def FitsT (t : Tok) : Prop := t.name.length ≤ maxLen ∧ Fits t.attrs

theorem emptyB (x : List UInt8) : ((⟨x.toArray⟩ : ByteArray).toList == (⟨#[]⟩ : ByteArray).toList) = decide (x = []) := strEq x []

set_option maxRecDepth 4000 in
set_option maxHeartbeats 4000000 in
theorem checkToken_any (w : World) (kd : Int) (nm tx : List UInt8) (la : List Pair) (v : Value) (hv : Lies w v la.length 2 (pairCells la)) (hf : FitsT ⟨kd, nm, la, tx⟩) :
    Calls Tryz.prog 40 #[.agg #[.int .i64 kd, .string ⟨nm.toArray⟩, v, .string ⟨tx.toArray⟩]] w fun e w' => e = .returned (.int .i64 (chkT ⟨kd, nm, la, tx⟩)) ∧ Keeps [] w w' := by
  obtain ⟨o, c, rfl, h1, h2⟩ := hv.form
  unfold maxLen at h2
  have ha : Keeps [] w (w.alloc (.cells #[.int .i64 kd, .string ⟨nm.toArray⟩, .slice o la.length c, .string ⟨tx.toArray⟩] 48)) := (Keeps.refl [] w).alloc _
  have hnm := hide (fun w => isName_all ⟨nm.toArray⟩ w hf.1)
  rw [str_list] at hnm
  have hca := hide (fun (w' : World) (hk : Keeps [] w w') => checkAttrs_any w' _ la (hv.keeps hk) hf.2)
  obtain ⟨R, hR⟩ : ∃ R, chkT ⟨kd, nm, la, tx⟩ = R := ⟨_, rfl⟩
  rw [hR]
  unfold chkT at hR
  simp only at hR
  generalize chkA la [] = A at *
  have hal : la ≠ [] ↔ 0 < la.length := by cases la <;> simp
  by_cases k1 : kd = 1
  · subst k1
    rw [if_pos rfl] at hR
    by_cases n1 : nm = []
    · subst n1
      by_cases a1 : la = []
      · subst a1
        by_cases t1 : tx = []
        · subst t1
          simp at hR
          subst hR
          clear hal
          go_enter Tryz.func40, Tryz.ntmps40
          go_wp2_with fail
          go_ret
          exact ⟨rfl, ha⟩
        · simp [t1] at hR
          subst hR
          have he : tx.isEmpty = false := by simpa using t1
          clear hal
          go_enter Tryz.func40, Tryz.ntmps40
          go_wp2_with fail
          go_ret
          exact ⟨rfl, ha⟩
      · have hz := hal.1 a1
        simp [a1] at hR
        subst hR
        clear hal a1
        go_enter Tryz.func40, Tryz.ntmps40
        go_wp2_with fail
        go_ret
        exact ⟨rfl, ha⟩
    · simp [n1] at hR
      subst hR
      clear hal
      go_enter Tryz.func40, Tryz.ntmps40
      go_wp2_with fail
      go_ret
      exact ⟨rfl, ha⟩
  · rw [if_neg k1] at hR
    have e1 : (kd == 1) = false := by simpa using k1
    by_cases k2 : kd = 2
    · subst k2
      rw [if_pos rfl] at hR
      by_cases t1 : tx = []
      · subst t1
        cases hin : isNameL nm
        · rw [hin] at hnm
          simp [hin] at hR
          subst hR
          clear hal
          go_enter Tryz.func40, Tryz.ntmps40
          go_wp2_with fail
          refine (hnm.out _).mono ?_
          rintro e w1 ⟨rfl, rfl⟩
          go_wp2_with fail
          go_ret
          exact ⟨rfl, ha⟩
        · rw [hin] at hnm
          simp [hin] at hR
          subst hR
          clear hal
          go_enter Tryz.func40, Tryz.ntmps40
          go_wp2_with fail
          refine (hnm.out _).mono ?_
          rintro e w1 ⟨rfl, rfl⟩
          go_wp2_with fail
          refine (hca.out _ ha).mono ?_
          rintro e w2 ⟨rfl, hk2⟩
          go_wp2_with fail
          go_ret
          exact ⟨rfl, ha.trans hk2⟩
      · simp [t1] at hR
        subst hR
        clear hal
        go_enter Tryz.func40, Tryz.ntmps40
        go_wp2_with fail
        go_ret
        exact ⟨rfl, ha⟩
    · rw [if_neg k2] at hR
      have e2 : (kd == 2) = false := by simpa using k2
      by_cases k3 : kd = 3
      · subst k3
        rw [if_pos rfl] at hR
        by_cases t1 : tx = []
        · subst t1
          by_cases a1 : la = []
          · subst a1
            cases hin : isNameL nm
            · rw [hin] at hnm
              simp [hin] at hR
              subst hR
              clear hal
              go_enter Tryz.func40, Tryz.ntmps40
              go_wp2_with fail
              refine (hnm.out _).mono ?_
              rintro e w1 ⟨rfl, rfl⟩
              go_wp2_with fail
              go_ret
              exact ⟨rfl, ha⟩
            · rw [hin] at hnm
              simp [hin] at hR
              subst hR
              clear hal
              go_enter Tryz.func40, Tryz.ntmps40
              go_wp2_with fail
              refine (hnm.out _).mono ?_
              rintro e w1 ⟨rfl, rfl⟩
              go_wp2_with fail
              go_ret
              exact ⟨rfl, ha⟩
          · have hz := hal.1 a1
            simp [a1] at hR
            subst hR
            clear hal a1
            go_enter Tryz.func40, Tryz.ntmps40
            go_wp2_with fail
            go_ret
            exact ⟨rfl, ha⟩
        · simp [t1] at hR
          subst hR
          clear hal
          go_enter Tryz.func40, Tryz.ntmps40
          go_wp2_with fail
          go_ret
          exact ⟨rfl, ha⟩
      · rw [if_neg k3] at hR
        have e3 : (kd == 3) = false := by simpa using k3
        subst hR
        clear hal
        go_enter Tryz.func40, Tryz.ntmps40
        go_wp2_with fail
        go_ret
        exact ⟨rfl, ha⟩
end Go.Proofs.YtngojdajamgababGreat
