/- inside: does a p stand in a p, or a li in a li? TreeWalls' walk: no p stands in a p, and no li in a li, without a wall between. TreeWalls holds: for every input it returns true, and each argument reads behind the call as it read before. -/
import Derived.Test.YtngojdajamgababGreatTreeSM
import Derived.BigQuiet
import Derived.Test.YtngojdajamgababGreatReadAll
import Derived.ProofKit
import Derived.OpenShut
import Derived.ShutString
import Derived.SizedLaws
import Derived.HandedShaped
namespace Go.Proofs.YtngojdajamgababGreat
open Go.RowKit Go.Maps

theorem inL_drop (p li : Bool) (l : List Pn) (k : Nat) (hk : k < l.length) : inL p li ((l.drop k).map Pn.nd) = (((l[k].nd.name == [112]) && p || (l[k].nd.name == [108, 105]) && li) || inL (if wallN l[k].nd.name = true then false else p || (l[k].nd.name == [112])) (if listN l[k].nd.name = true then false else li || (l[k].nd.name == [108, 105])) l[k].nd.kids || inL p li ((l.drop (k + 1)).map Pn.nd)) := by
  rw [List.drop_eq_getElem_cons hk, List.map_cons]
  generalize l[k] = p
  obtain ⟨⟨n, a, t, ks⟩, av, kv⟩ := p
  rw [inL]
  rfl

/-- Which of five names it is. -/
theorem five (n : List UInt8) : ((n == [112]) = true ∧ (n == [108, 105]) = false ∧ (n == [117, 108]) = false ∧ (n == [111, 108]) = false ∧ (n == [98, 108, 111, 99, 107, 113, 117, 111, 116, 101]) = false) ∨ ((n == [112]) = false ∧ (n == [108, 105]) = true ∧ (n == [117, 108]) = false ∧ (n == [111, 108]) = false ∧ (n == [98, 108, 111, 99, 107, 113, 117, 111, 116, 101]) = false) ∨ ((n == [112]) = false ∧ (n == [108, 105]) = false ∧ (n == [117, 108]) = true ∧ (n == [111, 108]) = false ∧ (n == [98, 108, 111, 99, 107, 113, 117, 111, 116, 101]) = false) ∨ ((n == [112]) = false ∧ (n == [108, 105]) = false ∧ (n == [117, 108]) = false ∧ (n == [111, 108]) = true ∧ (n == [98, 108, 111, 99, 107, 113, 117, 111, 116, 101]) = false) ∨ ((n == [112]) = false ∧ (n == [108, 105]) = false ∧ (n == [117, 108]) = false ∧ (n == [111, 108]) = false ∧ (n == [98, 108, 111, 99, 107, 113, 117, 111, 116, 101]) = true) ∨ ((n == [112]) = false ∧ (n == [108, 105]) = false ∧ (n == [117, 108]) = false ∧ (n == [111, 108]) = false ∧ (n == [98, 108, 111, 99, 107, 113, 117, 111, 116, 101]) = false) := by
  by_cases h1 : n = [112]
  · subst h1; exact .inl ⟨rfl, rfl, rfl, rfl, rfl⟩
  by_cases h2 : n = [108, 105]
  · subst h2; exact .inr (.inl ⟨rfl, rfl, rfl, rfl, rfl⟩)
  by_cases h3 : n = [117, 108]
  · subst h3; exact .inr (.inr (.inl ⟨rfl, rfl, rfl, rfl, rfl⟩))
  by_cases h4 : n = [111, 108]
  · subst h4; exact .inr (.inr (.inr (.inl ⟨rfl, rfl, rfl, rfl, rfl⟩)))
  by_cases h5 : n = [98, 108, 111, 99, 107, 113, 117, 111, 116, 101]
  · subst h5; exact .inr (.inr (.inr (.inr (.inl ⟨rfl, rfl, rfl, rfl, rfl⟩))))
  exact .inr (.inr (.inr (.inr (.inr ⟨by simpa using h1, by simpa using h2, by simpa using h3, by simpa using h4, by simpa using h5⟩))))

set_option maxRecDepth 8000 in
set_option maxHeartbeats 8000000 in
theorem inside_all (P : Nat → Prop) (w0 : World) (v : Value) (ns : List Nd) (h : Ns w0 P v ns) : ∀ (p li : Bool) (w : World), Keeps [] w0 w →
    Calls Tryz.prog 20 #[v, .bool p, .bool li] w fun e w' => e = .returned (.bool (inL p li ns)) ∧ Keeps [] w w' := by
  induction h with
  | mk v l ns hns hl ha hk ih =>
    intro p li w hkw
    subst hns
    obtain ⟨R, hR⟩ : ∃ R, inL p li (l.map Pn.nd) = R := ⟨_, rfl⟩
    rw [hR]
    have hlw := hl.keeps hkw (fun _ _ => List.not_mem_nil)
    obtain ⟨o, c, rfl, h1, h2⟩ := hlw.lies.form
    unfold maxLen at h2
    have HR := hide hR
    have HL := hide hlw
    have HI := hide ih
    have HK := hide hkw
    have HAv := hide (fun p hp => (ha p hp).lies.form)
    have HKv := hide (fun p hp => (hk p hp).form)
    clear hR hlw hl ha hk ih hkw
    go_enter Tryz.func20, Tryz.ntmps20
    go_wp2_with fail
    go_loopw [7] (fun i wr => ∃ (k : Nat), k ≤ l.length ∧ i = .int .i64 k ∧ Keeps [] w wr ∧ Hid (inL p li ((l.drop k).map Pn.nd) = R)) (fun i _ => l.length - (intOf i).toNat)
    case atStart => exact ⟨0, Nat.zero_le _, rfl, Keeps.refl _ _, HR⟩
    case round =>
      obtain ⟨k, hk, rfl, hkr, hH⟩ := hrel
      clear HR
      by_cases hlt : k < l.length
      · obtain ⟨g, x, hoo, hcl⟩ := (HL.out.lies.keeps hkr).addr (by omega)
        subst hoo
        obtain ⟨a0, a1, a2, a3⟩ := lies_pn hcl k hlt
        have hH1 := hH.out
        rw [inL_drop p li l k hlt] at hH1
        have hkr0 : Keeps [] wr wr := Keeps.refl _ _
        have hcall := hide (fun (a b : Bool) W (hW : Keeps [] wr W) => HI.out l[k] (List.getElem_mem hlt) a b W ((HK.out.trans hkr).trans hW))
        have hav := HAv.out l[k] (List.getElem_mem hlt)
        have hkv := HKv.out l[k] (List.getElem_mem hlt)
        clear hcl hH HL HI HAv HKv
        generalize l[k] = q at *
        obtain ⟨⟨nm, at', tx, ks⟩, av, kv⟩ := q
        simp only [Nd.name, Nd.text, Nd.kids, Nd.attrs] at a0 a1 a2 a3 hH1 hcall hav hkv
        obtain ⟨ao, ac, rfl, _, _⟩ := hav
        obtain ⟨ko, kc, rfl⟩ := hkv
        obtain ⟨Y, hY⟩ : ∃ Y, inL p li ((l.drop (k + 1)).map Pn.nd) = Y := ⟨_, rfl⟩
        rw [hY] at hH1
        have HY := hide hY
        clear hY
        --FILL
        have p1 := nameEq nm [112]
        have p2 := nameEq nm [108, 105]
        have p3 := nameEq nm [117, 108]
        have p4 := nameEq nm [111, 108]
        have p5 := nameEq nm [98, 108, 111, 99, 107, 113, 117, 111, 116, 101]
        clear HK
        rcases five nm with ⟨e1, e2, e3, e4, e5⟩ | ⟨e1, e2, e3, e4, e5⟩ | ⟨e1, e2, e3, e4, e5⟩ | ⟨e1, e2, e3, e4, e5⟩ | ⟨e1, e2, e3, e4, e5⟩ | ⟨e1, e2, e3, e4, e5⟩
        · have hw : wallN nm = false := by unfold wallN listN; rw [e2, e3, e4, e5]; rfl
          have hl : listN nm = false := by unfold listN; rw [e3, e4]; rfl
          simp only [e1, e2, hw, hl] at hH1
          have hnm : nm = [112] := eq_of_beq e1
          clear e1 e2 e3 e4 e5 hw hl p1 p2 p3 p4 p5
          subst hnm
          cases p <;> cases li
          · have hH2 : (inL true false ks || Y) = R := by simpa using hH1
            have hcl := hide (hcall.out true false)
            clear hH1 hcall
            generalize inL true false ks = X at *
            go_wp2_with fail
            go_quiet (fail)
            go_wp2_with fail
            refine (hcl.out _ ((hkr0.alloc _).drewN _)).mono ?_
            rintro e w1 ⟨rfl, hk1⟩
            cases X
            · have HH := hide ((show (false || Y) = Y from rfl).symm.trans hH2)
              clear hH2 hcl
              go_wp2_with fail
              go_roundw
              case rel => exact ⟨k + 1, by omega, by go_num, hkr.trans (((hkr0.alloc _).drewN _).trans hk1), by rw [Hid, HY.out]; exact HH.out⟩
              case measure => simp [intOf]; omega
            · have hRt : true = R := hH2
              subst hRt
              clear hcl
              go_wp2_with fail
              go_ret
              exact ⟨rfl, hkr.trans (((hkr0.alloc _).drewN _).trans hk1)⟩
          · have hH2 : (inL true true ks || Y) = R := by simpa using hH1
            have hcl := hide (hcall.out true true)
            clear hH1 hcall
            generalize inL true true ks = X at *
            go_wp2_with fail
            go_quiet (fail)
            go_wp2_with fail
            refine (hcl.out _ ((hkr0.alloc _).drewN _)).mono ?_
            rintro e w1 ⟨rfl, hk1⟩
            cases X
            · have HH := hide ((show (false || Y) = Y from rfl).symm.trans hH2)
              clear hH2 hcl
              go_wp2_with fail
              go_roundw
              case rel => exact ⟨k + 1, by omega, by go_num, hkr.trans (((hkr0.alloc _).drewN _).trans hk1), by rw [Hid, HY.out]; exact HH.out⟩
              case measure => simp [intOf]; omega
            · have hRt : true = R := hH2
              subst hRt
              clear hcl
              go_wp2_with fail
              go_ret
              exact ⟨rfl, hkr.trans (((hkr0.alloc _).drewN _).trans hk1)⟩
          · have hRt : true = R := by simpa using hH1
            subst hRt
            clear hH1 hcall HY
            go_wp2_with fail
            go_ret
            exact ⟨rfl, hkr.alloc _⟩
          · have hRt : true = R := by simpa using hH1
            subst hRt
            clear hH1 hcall HY
            go_wp2_with fail
            go_ret
            exact ⟨rfl, hkr.alloc _⟩
        · have hw : wallN nm = true := by unfold wallN listN; rw [e2, e3, e4, e5]; rfl
          have hl : listN nm = false := by unfold listN; rw [e3, e4]; rfl
          simp only [e1, e2, hw, hl] at hH1
          have hnm : nm = [108, 105] := eq_of_beq e2
          clear e1 e2 e3 e4 e5 hw hl p1 p2 p3 p4 p5
          subst hnm
          cases p <;> cases li
          · have hH2 : (inL false true ks || Y) = R := by simpa using hH1
            have hcl := hide (hcall.out false true)
            clear hH1 hcall
            generalize inL false true ks = X at *
            go_wp2_with fail
            go_quiet (fail)
            go_wp2_with fail
            refine (hcl.out _ ((hkr0.alloc _).drewN _)).mono ?_
            rintro e w1 ⟨rfl, hk1⟩
            cases X
            · have HH := hide ((show (false || Y) = Y from rfl).symm.trans hH2)
              clear hH2 hcl
              go_wp2_with fail
              go_roundw
              case rel => exact ⟨k + 1, by omega, by go_num, hkr.trans (((hkr0.alloc _).drewN _).trans hk1), by rw [Hid, HY.out]; exact HH.out⟩
              case measure => simp [intOf]; omega
            · have hRt : true = R := hH2
              subst hRt
              clear hcl
              go_wp2_with fail
              go_ret
              exact ⟨rfl, hkr.trans (((hkr0.alloc _).drewN _).trans hk1)⟩
          · have hRt : true = R := by simpa using hH1
            subst hRt
            clear hH1 hcall HY
            go_wp2_with fail
            go_ret
            exact ⟨rfl, hkr.alloc _⟩
          · have hH2 : (inL false true ks || Y) = R := by simpa using hH1
            have hcl := hide (hcall.out false true)
            clear hH1 hcall
            generalize inL false true ks = X at *
            go_wp2_with fail
            go_quiet (fail)
            go_wp2_with fail
            refine (hcl.out _ ((hkr0.alloc _).drewN _)).mono ?_
            rintro e w1 ⟨rfl, hk1⟩
            cases X
            · have HH := hide ((show (false || Y) = Y from rfl).symm.trans hH2)
              clear hH2 hcl
              go_wp2_with fail
              go_roundw
              case rel => exact ⟨k + 1, by omega, by go_num, hkr.trans (((hkr0.alloc _).drewN _).trans hk1), by rw [Hid, HY.out]; exact HH.out⟩
              case measure => simp [intOf]; omega
            · have hRt : true = R := hH2
              subst hRt
              clear hcl
              go_wp2_with fail
              go_ret
              exact ⟨rfl, hkr.trans (((hkr0.alloc _).drewN _).trans hk1)⟩
          · have hRt : true = R := by simpa using hH1
            subst hRt
            clear hH1 hcall HY
            go_wp2_with fail
            go_ret
            exact ⟨rfl, hkr.alloc _⟩
        · have hw : wallN nm = true := by unfold wallN listN; rw [e2, e3, e4, e5]; rfl
          have hl : listN nm = true := by unfold listN; rw [e3, e4]; rfl
          simp only [e1, e2, hw, hl] at hH1
          have hnm : nm = [117, 108] := eq_of_beq e3
          clear e1 e2 e3 e4 e5 hw hl p1 p2 p3 p4 p5
          subst hnm
          cases p <;> cases li
          · have hH2 : (inL false false ks || Y) = R := by simpa using hH1
            have hcl := hide (hcall.out false false)
            clear hH1 hcall
            generalize inL false false ks = X at *
            go_wp2_with fail
            go_quiet (fail)
            go_wp2_with fail
            refine (hcl.out _ ((hkr0.alloc _).drewN _)).mono ?_
            rintro e w1 ⟨rfl, hk1⟩
            cases X
            · have HH := hide ((show (false || Y) = Y from rfl).symm.trans hH2)
              clear hH2 hcl
              go_wp2_with fail
              go_roundw
              case rel => exact ⟨k + 1, by omega, by go_num, hkr.trans (((hkr0.alloc _).drewN _).trans hk1), by rw [Hid, HY.out]; exact HH.out⟩
              case measure => simp [intOf]; omega
            · have hRt : true = R := hH2
              subst hRt
              clear hcl
              go_wp2_with fail
              go_ret
              exact ⟨rfl, hkr.trans (((hkr0.alloc _).drewN _).trans hk1)⟩
          · have hH2 : (inL false false ks || Y) = R := by simpa using hH1
            have hcl := hide (hcall.out false false)
            clear hH1 hcall
            generalize inL false false ks = X at *
            go_wp2_with fail
            go_quiet (fail)
            go_wp2_with fail
            refine (hcl.out _ ((hkr0.alloc _).drewN _)).mono ?_
            rintro e w1 ⟨rfl, hk1⟩
            cases X
            · have HH := hide ((show (false || Y) = Y from rfl).symm.trans hH2)
              clear hH2 hcl
              go_wp2_with fail
              go_roundw
              case rel => exact ⟨k + 1, by omega, by go_num, hkr.trans (((hkr0.alloc _).drewN _).trans hk1), by rw [Hid, HY.out]; exact HH.out⟩
              case measure => simp [intOf]; omega
            · have hRt : true = R := hH2
              subst hRt
              clear hcl
              go_wp2_with fail
              go_ret
              exact ⟨rfl, hkr.trans (((hkr0.alloc _).drewN _).trans hk1)⟩
          · have hH2 : (inL false false ks || Y) = R := by simpa using hH1
            have hcl := hide (hcall.out false false)
            clear hH1 hcall
            generalize inL false false ks = X at *
            go_wp2_with fail
            go_quiet (fail)
            go_wp2_with fail
            refine (hcl.out _ ((hkr0.alloc _).drewN _)).mono ?_
            rintro e w1 ⟨rfl, hk1⟩
            cases X
            · have HH := hide ((show (false || Y) = Y from rfl).symm.trans hH2)
              clear hH2 hcl
              go_wp2_with fail
              go_roundw
              case rel => exact ⟨k + 1, by omega, by go_num, hkr.trans (((hkr0.alloc _).drewN _).trans hk1), by rw [Hid, HY.out]; exact HH.out⟩
              case measure => simp [intOf]; omega
            · have hRt : true = R := hH2
              subst hRt
              clear hcl
              go_wp2_with fail
              go_ret
              exact ⟨rfl, hkr.trans (((hkr0.alloc _).drewN _).trans hk1)⟩
          · have hH2 : (inL false false ks || Y) = R := by simpa using hH1
            have hcl := hide (hcall.out false false)
            clear hH1 hcall
            generalize inL false false ks = X at *
            go_wp2_with fail
            go_quiet (fail)
            go_wp2_with fail
            refine (hcl.out _ ((hkr0.alloc _).drewN _)).mono ?_
            rintro e w1 ⟨rfl, hk1⟩
            cases X
            · have HH := hide ((show (false || Y) = Y from rfl).symm.trans hH2)
              clear hH2 hcl
              go_wp2_with fail
              go_roundw
              case rel => exact ⟨k + 1, by omega, by go_num, hkr.trans (((hkr0.alloc _).drewN _).trans hk1), by rw [Hid, HY.out]; exact HH.out⟩
              case measure => simp [intOf]; omega
            · have hRt : true = R := hH2
              subst hRt
              clear hcl
              go_wp2_with fail
              go_ret
              exact ⟨rfl, hkr.trans (((hkr0.alloc _).drewN _).trans hk1)⟩
        · have hw : wallN nm = true := by unfold wallN listN; rw [e2, e3, e4, e5]; rfl
          have hl : listN nm = true := by unfold listN; rw [e3, e4]; rfl
          simp only [e1, e2, hw, hl] at hH1
          have hnm : nm = [111, 108] := eq_of_beq e4
          clear e1 e2 e3 e4 e5 hw hl p1 p2 p3 p4 p5
          subst hnm
          cases p <;> cases li
          · have hH2 : (inL false false ks || Y) = R := by simpa using hH1
            have hcl := hide (hcall.out false false)
            clear hH1 hcall
            generalize inL false false ks = X at *
            go_wp2_with fail
            go_quiet (fail)
            go_wp2_with fail
            refine (hcl.out _ ((hkr0.alloc _).drewN _)).mono ?_
            rintro e w1 ⟨rfl, hk1⟩
            cases X
            · have HH := hide ((show (false || Y) = Y from rfl).symm.trans hH2)
              clear hH2 hcl
              go_wp2_with fail
              go_roundw
              case rel => exact ⟨k + 1, by omega, by go_num, hkr.trans (((hkr0.alloc _).drewN _).trans hk1), by rw [Hid, HY.out]; exact HH.out⟩
              case measure => simp [intOf]; omega
            · have hRt : true = R := hH2
              subst hRt
              clear hcl
              go_wp2_with fail
              go_ret
              exact ⟨rfl, hkr.trans (((hkr0.alloc _).drewN _).trans hk1)⟩
          · have hH2 : (inL false false ks || Y) = R := by simpa using hH1
            have hcl := hide (hcall.out false false)
            clear hH1 hcall
            generalize inL false false ks = X at *
            go_wp2_with fail
            go_quiet (fail)
            go_wp2_with fail
            refine (hcl.out _ ((hkr0.alloc _).drewN _)).mono ?_
            rintro e w1 ⟨rfl, hk1⟩
            cases X
            · have HH := hide ((show (false || Y) = Y from rfl).symm.trans hH2)
              clear hH2 hcl
              go_wp2_with fail
              go_roundw
              case rel => exact ⟨k + 1, by omega, by go_num, hkr.trans (((hkr0.alloc _).drewN _).trans hk1), by rw [Hid, HY.out]; exact HH.out⟩
              case measure => simp [intOf]; omega
            · have hRt : true = R := hH2
              subst hRt
              clear hcl
              go_wp2_with fail
              go_ret
              exact ⟨rfl, hkr.trans (((hkr0.alloc _).drewN _).trans hk1)⟩
          · have hH2 : (inL false false ks || Y) = R := by simpa using hH1
            have hcl := hide (hcall.out false false)
            clear hH1 hcall
            generalize inL false false ks = X at *
            go_wp2_with fail
            go_quiet (fail)
            go_wp2_with fail
            refine (hcl.out _ ((hkr0.alloc _).drewN _)).mono ?_
            rintro e w1 ⟨rfl, hk1⟩
            cases X
            · have HH := hide ((show (false || Y) = Y from rfl).symm.trans hH2)
              clear hH2 hcl
              go_wp2_with fail
              go_roundw
              case rel => exact ⟨k + 1, by omega, by go_num, hkr.trans (((hkr0.alloc _).drewN _).trans hk1), by rw [Hid, HY.out]; exact HH.out⟩
              case measure => simp [intOf]; omega
            · have hRt : true = R := hH2
              subst hRt
              clear hcl
              go_wp2_with fail
              go_ret
              exact ⟨rfl, hkr.trans (((hkr0.alloc _).drewN _).trans hk1)⟩
          · have hH2 : (inL false false ks || Y) = R := by simpa using hH1
            have hcl := hide (hcall.out false false)
            clear hH1 hcall
            generalize inL false false ks = X at *
            go_wp2_with fail
            go_quiet (fail)
            go_wp2_with fail
            refine (hcl.out _ ((hkr0.alloc _).drewN _)).mono ?_
            rintro e w1 ⟨rfl, hk1⟩
            cases X
            · have HH := hide ((show (false || Y) = Y from rfl).symm.trans hH2)
              clear hH2 hcl
              go_wp2_with fail
              go_roundw
              case rel => exact ⟨k + 1, by omega, by go_num, hkr.trans (((hkr0.alloc _).drewN _).trans hk1), by rw [Hid, HY.out]; exact HH.out⟩
              case measure => simp [intOf]; omega
            · have hRt : true = R := hH2
              subst hRt
              clear hcl
              go_wp2_with fail
              go_ret
              exact ⟨rfl, hkr.trans (((hkr0.alloc _).drewN _).trans hk1)⟩
        · have hw : wallN nm = true := by unfold wallN listN; rw [e2, e3, e4, e5]; rfl
          have hl : listN nm = false := by unfold listN; rw [e3, e4]; rfl
          simp only [e1, e2, hw, hl] at hH1
          have hnm : nm = [98, 108, 111, 99, 107, 113, 117, 111, 116, 101] := eq_of_beq e5
          clear e1 e2 e3 e4 e5 hw hl p1 p2 p3 p4 p5
          subst hnm
          cases p <;> cases li
          · have hH2 : (inL false false ks || Y) = R := by simpa using hH1
            have hcl := hide (hcall.out false false)
            clear hH1 hcall
            generalize inL false false ks = X at *
            go_wp2_with fail
            go_quiet (fail)
            go_wp2_with fail
            refine (hcl.out _ ((hkr0.alloc _).drewN _)).mono ?_
            rintro e w1 ⟨rfl, hk1⟩
            cases X
            · have HH := hide ((show (false || Y) = Y from rfl).symm.trans hH2)
              clear hH2 hcl
              go_wp2_with fail
              go_roundw
              case rel => exact ⟨k + 1, by omega, by go_num, hkr.trans (((hkr0.alloc _).drewN _).trans hk1), by rw [Hid, HY.out]; exact HH.out⟩
              case measure => simp [intOf]; omega
            · have hRt : true = R := hH2
              subst hRt
              clear hcl
              go_wp2_with fail
              go_ret
              exact ⟨rfl, hkr.trans (((hkr0.alloc _).drewN _).trans hk1)⟩
          · have hH2 : (inL false true ks || Y) = R := by simpa using hH1
            have hcl := hide (hcall.out false true)
            clear hH1 hcall
            generalize inL false true ks = X at *
            go_wp2_with fail
            go_quiet (fail)
            go_wp2_with fail
            refine (hcl.out _ ((hkr0.alloc _).drewN _)).mono ?_
            rintro e w1 ⟨rfl, hk1⟩
            cases X
            · have HH := hide ((show (false || Y) = Y from rfl).symm.trans hH2)
              clear hH2 hcl
              go_wp2_with fail
              go_roundw
              case rel => exact ⟨k + 1, by omega, by go_num, hkr.trans (((hkr0.alloc _).drewN _).trans hk1), by rw [Hid, HY.out]; exact HH.out⟩
              case measure => simp [intOf]; omega
            · have hRt : true = R := hH2
              subst hRt
              clear hcl
              go_wp2_with fail
              go_ret
              exact ⟨rfl, hkr.trans (((hkr0.alloc _).drewN _).trans hk1)⟩
          · have hH2 : (inL false false ks || Y) = R := by simpa using hH1
            have hcl := hide (hcall.out false false)
            clear hH1 hcall
            generalize inL false false ks = X at *
            go_wp2_with fail
            go_quiet (fail)
            go_wp2_with fail
            refine (hcl.out _ ((hkr0.alloc _).drewN _)).mono ?_
            rintro e w1 ⟨rfl, hk1⟩
            cases X
            · have HH := hide ((show (false || Y) = Y from rfl).symm.trans hH2)
              clear hH2 hcl
              go_wp2_with fail
              go_roundw
              case rel => exact ⟨k + 1, by omega, by go_num, hkr.trans (((hkr0.alloc _).drewN _).trans hk1), by rw [Hid, HY.out]; exact HH.out⟩
              case measure => simp [intOf]; omega
            · have hRt : true = R := hH2
              subst hRt
              clear hcl
              go_wp2_with fail
              go_ret
              exact ⟨rfl, hkr.trans (((hkr0.alloc _).drewN _).trans hk1)⟩
          · have hH2 : (inL false true ks || Y) = R := by simpa using hH1
            have hcl := hide (hcall.out false true)
            clear hH1 hcall
            generalize inL false true ks = X at *
            go_wp2_with fail
            go_quiet (fail)
            go_wp2_with fail
            refine (hcl.out _ ((hkr0.alloc _).drewN _)).mono ?_
            rintro e w1 ⟨rfl, hk1⟩
            cases X
            · have HH := hide ((show (false || Y) = Y from rfl).symm.trans hH2)
              clear hH2 hcl
              go_wp2_with fail
              go_roundw
              case rel => exact ⟨k + 1, by omega, by go_num, hkr.trans (((hkr0.alloc _).drewN _).trans hk1), by rw [Hid, HY.out]; exact HH.out⟩
              case measure => simp [intOf]; omega
            · have hRt : true = R := hH2
              subst hRt
              clear hcl
              go_wp2_with fail
              go_ret
              exact ⟨rfl, hkr.trans (((hkr0.alloc _).drewN _).trans hk1)⟩
        · have hw : wallN nm = false := by unfold wallN listN; rw [e2, e3, e4, e5]; rfl
          have hl : listN nm = false := by unfold listN; rw [e3, e4]; rfl
          simp only [e1, e2, hw, hl] at hH1
          clear hw hl p1 p2 p3 p4 p5
          cases p <;> cases li
          · have hH2 : (inL false false ks || Y) = R := by simpa using hH1
            have hcl := hide (hcall.out false false)
            clear hH1 hcall
            generalize inL false false ks = X at *
            go_wp2_with fail
            go_quiet (fail)
            go_wp2_with fail
            refine (hcl.out _ ((hkr0.alloc _).drewN _)).mono ?_
            rintro e w1 ⟨rfl, hk1⟩
            cases X
            · have HH := hide ((show (false || Y) = Y from rfl).symm.trans hH2)
              clear hH2 hcl
              go_wp2_with fail
              go_roundw
              case rel => exact ⟨k + 1, by omega, by go_num, hkr.trans (((hkr0.alloc _).drewN _).trans hk1), by rw [Hid, HY.out]; exact HH.out⟩
              case measure => simp [intOf]; omega
            · have hRt : true = R := hH2
              subst hRt
              clear hcl
              go_wp2_with fail
              go_ret
              exact ⟨rfl, hkr.trans (((hkr0.alloc _).drewN _).trans hk1)⟩
          · have hH2 : (inL false true ks || Y) = R := by simpa using hH1
            have hcl := hide (hcall.out false true)
            clear hH1 hcall
            generalize inL false true ks = X at *
            go_wp2_with fail
            go_quiet (fail)
            go_wp2_with fail
            refine (hcl.out _ ((hkr0.alloc _).drewN _)).mono ?_
            rintro e w1 ⟨rfl, hk1⟩
            cases X
            · have HH := hide ((show (false || Y) = Y from rfl).symm.trans hH2)
              clear hH2 hcl
              go_wp2_with fail
              go_roundw
              case rel => exact ⟨k + 1, by omega, by go_num, hkr.trans (((hkr0.alloc _).drewN _).trans hk1), by rw [Hid, HY.out]; exact HH.out⟩
              case measure => simp [intOf]; omega
            · have hRt : true = R := hH2
              subst hRt
              clear hcl
              go_wp2_with fail
              go_ret
              exact ⟨rfl, hkr.trans (((hkr0.alloc _).drewN _).trans hk1)⟩
          · have hH2 : (inL true false ks || Y) = R := by simpa using hH1
            have hcl := hide (hcall.out true false)
            clear hH1 hcall
            generalize inL true false ks = X at *
            go_wp2_with fail
            go_quiet (fail)
            go_wp2_with fail
            refine (hcl.out _ ((hkr0.alloc _).drewN _)).mono ?_
            rintro e w1 ⟨rfl, hk1⟩
            cases X
            · have HH := hide ((show (false || Y) = Y from rfl).symm.trans hH2)
              clear hH2 hcl
              go_wp2_with fail
              go_roundw
              case rel => exact ⟨k + 1, by omega, by go_num, hkr.trans (((hkr0.alloc _).drewN _).trans hk1), by rw [Hid, HY.out]; exact HH.out⟩
              case measure => simp [intOf]; omega
            · have hRt : true = R := hH2
              subst hRt
              clear hcl
              go_wp2_with fail
              go_ret
              exact ⟨rfl, hkr.trans (((hkr0.alloc _).drewN _).trans hk1)⟩
          · have hH2 : (inL true true ks || Y) = R := by simpa using hH1
            have hcl := hide (hcall.out true true)
            clear hH1 hcall
            generalize inL true true ks = X at *
            go_wp2_with fail
            go_quiet (fail)
            go_wp2_with fail
            refine (hcl.out _ ((hkr0.alloc _).drewN _)).mono ?_
            rintro e w1 ⟨rfl, hk1⟩
            cases X
            · have HH := hide ((show (false || Y) = Y from rfl).symm.trans hH2)
              clear hH2 hcl
              go_wp2_with fail
              go_roundw
              case rel => exact ⟨k + 1, by omega, by go_num, hkr.trans (((hkr0.alloc _).drewN _).trans hk1), by rw [Hid, HY.out]; exact HH.out⟩
              case measure => simp [intOf]; omega
            · have hRt : true = R := hH2
              subst hRt
              clear hcl
              go_wp2_with fail
              go_ret
              exact ⟨rfl, hkr.trans (((hkr0.alloc _).drewN _).trans hk1)⟩
      · have hRe : false = R := by
          have := hH.out
          rw [List.drop_eq_nil_of_le (by omega)] at this
          simpa [inL] using this
        subst hRe
        clear hH HI HL HK HAv HKv
        go_wp2_with fail
        go_ret
        exact ⟨rfl, hkr⟩
end Go.Proofs.YtngojdajamgababGreat

namespace Go.Proofs.YtngojdajamgababGreat
open Go.RowKit Go.Maps

set_option maxRecDepth 8000 in
set_option maxHeartbeats 4000000 in
theorem walls_any (s : ByteArray) (w : World) (hs : s.size ≤ maxLen) (hM : HasMax w) :
    Calls Tryz.prog 5 #[.string s] w fun e w' => e = .returned (.bool true) ∧ Keeps [] w w' := by
  have hr := hide (read_any s w hs hM)
  by_cases h : 3000 < s.size
  · simp only [if_pos h] at hr
    go_enter Tryz.func5, Tryz.ntmps5
    go_wp2_with fail
    refine hr.out.mono ?_
    rintro e w1 ⟨hk1, rfl⟩
    go_wp2_with fail
    refine (treeBegun_any _ (hM.keeps hk1 List.not_mem_nil)).mono ?_
    rintro e w2 ⟨rfl, hk2⟩
    go_wp2_with fail
    refine (tokenBegun_any _ ((hM.keeps hk1 List.not_mem_nil).keeps hk2 List.not_mem_nil)).mono ?_
    rintro e w3 ⟨rfl, hk3⟩
    go_wp2_with fail
    go_ret
    exact ⟨rfl, (hk1.trans hk2).trans hk3⟩
  · simp only [if_neg h] at hr
    have hln : s.data.toList.length ≤ 3000 := by rw [len_size]; omega
    have hgood := readL_good s.data.toList hln
    have hbulk := readL_bulk s.data.toList
    generalize readL s.data.toList = ts at *
    have hb : bulkL ts ≤ 1100000 := by omega
    have hfit := bulk_fits hb
    have htx := bulkL_text ts
    have hin := built_walls ts hgood
    have HG := hide hgood
    have HF := hide hfit
    have HI := hide hin
    have HT := hide (show (ts.flatMap Tok.text).length ≤ 2000000 from by omega)
    clear hgood hfit hin htx hb hbulk hln h
    go_enter Tryz.func5, Tryz.ntmps5
    go_wp2_with fail
    refine hr.out.mono ?_
    rintro e w1 ⟨hk1, v1, rfl, ht1⟩
    have hT1 := hide ht1.toks
    obtain ⟨o1, n1, c1, hv1⟩ : ∃ o n c, v1 = .slice o n c := by
      obtain ⟨l, _, hl, _⟩ := ht1.toks
      obtain ⟨o, c, h, _⟩ := hl.form
      exact ⟨o, _, c, h⟩
    subst hv1
    have hM1 := hM.keeps hk1 List.not_mem_nil
    clear hr ht1
    go_wp2_with fail
    refine (treeBegun_any _ hM1).mono ?_
    rintro e w2 ⟨rfl, hk2⟩
    have hM2 := hM1.keeps hk2 List.not_mem_nil
    go_wp2_with fail
    refine (tokenBegun_any _ hM2).mono ?_
    rintro e w3 ⟨rfl, hk3⟩
    have hM3 := hM2.keeps hk3 List.not_mem_nil
    have hbd := hide (build_any w3 _ ts ((hT1.out.keeps hk2).keeps hk3) (fun t ht => (HF.out t ht).1) hM3.pos (fun t ht => (HF.out t ht).2) HT.out)
    rw [HG.out, if_pos rfl] at hbd
    go_wp2_with fail
    refine hbd.out.mono ?_
    rintro e w4 ⟨v4, rfl, hN4, hk4⟩
    obtain ⟨o4, c4, hv4⟩ := hN4.form
    subst hv4
    have hins := hide (inside_all _ w4 _ _ hN4 false false w4 (Keeps.refl _ _))
    rw [HI.out] at hins
    clear hbd
    go_wp2_with fail
    refine hins.out.mono ?_
    rintro e w5 ⟨rfl, hk5⟩
    go_wp2_with fail
    go_ret
    exact ⟨rfl, (((hk1.trans hk2).trans hk3).trans hk4).trans hk5⟩
end Go.Proofs.YtngojdajamgababGreat

namespace Go.Proofs.YtngojdajamgababGreat
open Go.ChangeShapes Go.WideShapes Go.ChangeAt Go.RowKit
open Go.ChangeMaps (open_string shut_string)

theorem treeWalls_own : ownKnob Tryz.prog.godebug = none := by kernel_rfl

/-- The cell of internal/bytealg.MaxLen holds a number. -/
theorem max_of_shaped (W : World) (h : W.ShapedOpen Tryz.prog) : HasMax W := Tryz.laysM143.s1_3 W h

set_option maxRecDepth 100000 in
theorem treeWalls_lifted (os : Os) (started : os.Started) (H : Type) (enc : TypeId × Value → H) :
    ReturnsInHanded {} Tryz.checked os 5 .any (Rows.treeWallsSpec.pre6 enc Tryz.prog Tryz.f5 Rows.treeWallsRow.domain false) (Rows.treeWallsSpec.post enc Tryz.prog Tryz.f5 false true false false) := by
  refine returnsInHanded_of_change_shaped (C := Tryz.checked) treeWalls_own started (by kernel_rfl) Tryz.func5
    (ChangeSpec.witness6 (enc := enc) (C := Tryz.checked) false ⟨#[], #[.string ByteArray.empty], []⟩ 8 (by kernel_rfl) (by kernel_rfl) (by kernel_rfl) (by kernel_rfl)) ?_
  intro W base args ds gs before hval0 hW hcnd hsz0 hsh _
  have hM : HasMax W := max_of_shaped W hsh
  have hval : ∀ (j : Nat) t v, Tryz.f5.params[j]? = some t → args[j]? = some v → Value.okWide Tryz.prog W .any base t v := hval0
  have hW' := hW
  obtain ⟨p, q, hA0, hV, rfl, hfz, hnd⟩ := hW
  have hA : DataW.TrodAll enc Tryz.prog W 0 (fun _ => true) true Tryz.f5.params.toList args.toList ds p := hA0
  rw [Tryz.params5] at hA hval
  obtain ⟨v0, d0, rfl, rfl, h0⟩ := trodAll_one hA
  obtain ⟨rfl, rfl⟩ := trodVars_none hV
  obtain ⟨a0, rfl, rfl, rfl, w0⟩ := open_string Tryz.underlying9 (hval 0 9 v0 rfl rfl) h0
  clear hA0 hval0
  simp only [List.append_nil] at hW'
  refine (walls_any a0 W w0 hM).mono fun e W' ⟨he, hg⟩ => ?_
  subst he
  refine ⟨_, rfl, _, _, _, [], [], [], hW', trodAll_cons_mk (shut_bool Tryz.underlying4 _) trodAll_mk0, (trodAll_cons_mk (shut_string Tryz.underlying9 w0) trodAll_mk0), rfl, hg.nil_below.frame _, fun h => by cases h⟩

theorem treeWalls_holds : Rows.TreeWallsSaid :=
  OpenClaim.holds_of_wide 5 Tryz.f5 rfl rfl rfl rfl rfl rfl rfl ⟨rfl, rfl, rfl, rfl, rfl⟩ rfl rfl rfl rfl rfl (by kernel_rfl) Tryz.func5 (by kernel_rfl)
    (of_decide_eq_true (by kernel_rfl)) (by unfold Func.isWrapper; first | (rw [if_pos (by decide +kernel)]; kernel_rfl) | (rw [if_neg (by decide +kernel)]; exact ⟨rfl, rfl⟩))
    (fun os started H enc _ => treeWalls_lifted os started H enc)
#print axioms treeWalls_holds
end Go.Proofs.YtngojdajamgababGreat
