/- textIn, SameNodes. SameNodes of nodes that are the same. -/
import Derived.Test.YtaeblkmkpfklkabTreeGH
namespace Go.Proofs.Ytaeblkmkpfklkab
open Go.RowKit Go.Maps

/-- Nodes that are only read, in any blocks. -/
theorem Ns.keeps0 {w w' : World} {P : Nat → Prop} {v : Value} {ns : List Nd} (h : Ns w P v ns) (hk : Keeps [] w w') : Ns w' P v ns := h.keeps hk (fun _ _ => List.not_mem_nil)

theorem textNs_drop (gone : Bool) (l : List Pn) (k : Nat) (hk : k < l.length) : textNs gone ((l.drop k).map Pn.nd) = (if (gone && goneN l[k].nd.name) = true then [] else l[k].nd.text ++ textNs gone l[k].nd.kids) ++ textNs gone ((l.drop (k + 1)).map Pn.nd) := by
  rw [List.drop_eq_getElem_cons hk, List.map_cons]
  generalize l[k] = p
  obtain ⟨⟨n, a, t, ks⟩, av, kv⟩ := p
  rw [textNs]
  rfl

/-- How much text there is in a tree, all in all. -/
def bytesNs : List Nd → Nat
  | [] => 0
  | .mk _ _ t k :: r => t.length + bytesNs k + bytesNs r
theorem bytesNs_drop (l : List Pn) (k : Nat) (hk : k < l.length) : bytesNs ((l.drop k).map Pn.nd) = l[k].nd.text.length + bytesNs l[k].nd.kids + bytesNs ((l.drop (k + 1)).map Pn.nd) := by
  rw [List.drop_eq_getElem_cons hk, List.map_cons]
  generalize l[k] = p
  obtain ⟨⟨n, a, t, ks⟩, av, kv⟩ := p
  rw [bytesNs]
  rfl
theorem text_bytes (gone : Bool) : (ns : List Nd) → (textNs gone ns).length ≤ bytesNs ns
  | [] => by simp [textNs, bytesNs]
  | .mk n a t k :: r => by
    have h1 := text_bytes gone k
    have h2 := text_bytes gone r
    rw [textNs, bytesNs, List.length_append]
    split
    · simp; omega
    · simp; omega

theorem str_append (x y : List UInt8) : (⟨x.toArray⟩ : ByteArray) ++ ⟨y.toArray⟩ = ⟨(x ++ y).toArray⟩ := WideShapes.bytes_inj (by simp)

set_option maxRecDepth 8000 in
set_option maxHeartbeats 4000000 in
theorem textIn_all (P : Nat → Prop) (gone : Bool) (w0 : World) (v : Value) (ns : List Nd) (h : Ns w0 P v ns) : bytesNs ns ≤ 4000000 → ∀ w, Keeps [] w0 w →
    Calls Try.prog 13 #[v, .bool gone] w fun e w' => e = .returned (.string ⟨(textNs gone ns).toArray⟩) ∧ ∃ n, w' = w.drewN n := by
  induction h with
  | mk v l ns hns hl ha hk ih =>
    intro hb w hkw
    subst hns
    obtain ⟨R, hR⟩ : ∃ R, textNs gone (l.map Pn.nd) = R := ⟨_, rfl⟩
    rw [hR]
    have hRl : R.length ≤ 4000000 := by rw [← hR]; exact Nat.le_trans (text_bytes _ _) hb
    have hlw := hl.keeps hkw (fun _ _ => List.not_mem_nil)
    obtain ⟨o, c, rfl, h1, h2⟩ := hlw.lies.form
    unfold maxLen at h2
    have HR := hide hR
    have HL := hide hlw
    have HI := hide ih
    have HK := hide hkw
    have HB := hide hb
    clear hR hlw hl ha hk ih hkw hb
    go_enter Try.func13, Try.ntmps13
    go_wp2_with fail
    go_loopw [5, 6] (fun sv i wr => ∃ (k m : Nat) (D : List UInt8), k ≤ l.length ∧ i = .int .i64 k ∧ sv = .string ⟨D.toArray⟩ ∧ Hid (wr = w.drewN m) ∧ D.length ≤ 4000000 ∧ Hid (D ++ textNs gone ((l.drop k).map Pn.nd) = R)) (fun _ i _ => l.length - (intOf i).toNat)
    case atStart => exact ⟨0, 0, [], Nat.zero_le _, rfl, rfl, rfl, by simp, HR⟩
    case round =>
      obtain ⟨k, m, D, hk, rfl, rfl, hWm, hD, hH⟩ := hrel
      clear HR
      have hkr : Keeps [] w wr := by rw [hWm.out]; exact (Keeps.refl _ _).drewN _
      by_cases hlt : k < l.length
      · obtain ⟨g, x, hoo, hcl⟩ := (HL.out.lies.keeps hkr).addr (by omega)
        subst hoo
        obtain ⟨a0, a1, a2, a3⟩ := lies_pn hcl k hlt
        have hH1 := hH.out
        rw [textNs_drop gone l k hlt] at hH1
        have hbl : bytesNs l[k].nd.kids ≤ 4000000 := by
          have h9 := HB.out
          have h8 : bytesNs (l.map Pn.nd) = bytesNs ((l.drop 0).map Pn.nd) := rfl
          have h7 : ∀ j, j ≤ k → bytesNs ((l.drop k).map Pn.nd) ≤ bytesNs ((l.drop (k - j)).map Pn.nd) := by
            intro j hj
            induction j with
            | zero => exact Nat.le_refl _
            | succ j ihj =>
              have := bytesNs_drop l (k - (j + 1)) (by omega)
              rw [show k - (j + 1) + 1 = k - j from by omega] at this
              have := ihj (by omega)
              omega
          have h6 := h7 k (Nat.le_refl _)
          rw [Nat.sub_self] at h6
          have := bytesNs_drop l k hlt
          omega
        have hcall := hide (fun n => HI.out l[k] (List.getElem_mem hlt) hbl (wr.drewN n) ((HK.out.trans hkr).drewN n))
        clear hcl hH HL hbl
        generalize l[k] = p at *
        obtain ⟨⟨nm, at', tx, ks⟩, av, kv⟩ := p
        simp only [Nd.name, Nd.text, Nd.kids] at a0 a1 a2 a3 hH1 hcall
        generalize textNs gone ks = X at *
        obtain ⟨Y, hY⟩ : ∃ Y, textNs gone ((l.drop (k + 1)).map Pn.nd) = Y := ⟨_, rfl⟩
        rw [hY] at hH1
        have HY := hide hY
        clear hY
        clear a1
        have p1 := nameEq nm [115, 99, 114, 105, 112, 116]
        have p2 := nameEq nm [115, 116, 121, 108, 101]
        have p3 := nameEq nm [116, 101, 109, 112, 108, 97, 116, 101]
        cases hg : (gone && goneN nm)
        · simp only [hg, Bool.false_eq_true, if_false] at hH1
          have hln := congrArg List.length hH1
          simp only [List.length_append] at hln
          have HH : Hid ((D ++ (tx ++ X)) ++ Y = R) := by rw [Hid, ← hH1]; simp
          have z1 : ¬ 9223372036854775807 < tx.length + X.length := by omega
          have z2 : ¬ 9223372036854775807 < D.length + (tx.length + X.length) := by omega
          have hD2 : (D ++ (tx ++ X)).length ≤ 4000000 := by simp; omega
          have e1 := str_append tx X
          have e2 := str_append D (tx ++ X)
          clear hH1 hln
          cases gone
          · clear p1 p2 p3
            go_upto_region 6 with fail
            go_quiet ((go_at_call 13; exact Calls.quiet_of (hcall.out _)))
            go_wp2_with fail
            go_roundw
            case rel => exact ⟨k + 1, m + nq, D ++ (tx ++ X), by omega, by go_num, by first | rfl | simp [str_append], (by rw [Hid, hWm.out]; simp), hD2, by rw [Hid, HY.out]; exact HH.out⟩
            case measure => simp [intOf]; omega
          · unfold goneN at hg
            simp only [Bool.true_and, Bool.or_eq_false_iff] at hg
            obtain ⟨⟨g1, g2⟩, g3⟩ := hg
            rw [g1] at p1
            rw [g2] at p2
            rw [g3] at p3
            go_upto_region 6 with fail
            go_quiet ((go_at_call 13; exact Calls.quiet_of (hcall.out _)))
            go_wp2_with fail
            go_roundw
            case rel => exact ⟨k + 1, m + nq, D ++ (tx ++ X), by omega, by go_num, by first | rfl | simp [str_append], (by rw [Hid, hWm.out]; simp), hD2, by rw [Hid, HY.out]; exact HH.out⟩
            case measure => simp [intOf]; omega
        · simp only [hg, if_true, List.nil_append] at hH1
          have HH := hide hH1
          clear hH1 hcall HI
          simp only [Bool.and_eq_true] at hg
          obtain ⟨rfl, hg⟩ := hg
          unfold goneN at hg
          cases g1 : (nm == [115, 99, 114, 105, 112, 116])
          · rw [g1] at p1 hg
            cases g2 : (nm == [115, 116, 121, 108, 101])
            · rw [g2] at p2 hg
              simp only [Bool.false_or] at hg
              rw [hg] at p3
              go_wp2_with fail
              go_roundw
              case rel => exact ⟨k + 1, m, D, by omega, by go_num, rfl, hWm, hD, by rw [Hid, HY.out]; exact HH.out⟩
              case measure => simp [intOf]; omega
            · rw [g2] at p2
              clear p3 hg
              go_wp2_with fail
              go_roundw
              case rel => exact ⟨k + 1, m, D, by omega, by go_num, rfl, hWm, hD, by rw [Hid, HY.out]; exact HH.out⟩
              case measure => simp [intOf]; omega
          · rw [g1] at p1
            clear p2 p3 hg
            go_wp2_with fail
            go_roundw
            case rel => exact ⟨k + 1, m, D, by omega, by go_num, rfl, hWm, hD, by rw [Hid, HY.out]; exact HH.out⟩
            case measure => simp [intOf]; omega
      · have hRe : D = R := by
          have := hH.out
          rw [List.drop_eq_nil_of_le (by omega)] at this
          simpa [textNs] using this
        subst hRe
        go_wp2_with fail
        go_ret
        exact ⟨rfl, m, hWm.out⟩
end Go.Proofs.Ytaeblkmkpfklkab

namespace Go.Proofs.Ytaeblkmkpfklkab
open Go.RowKit Go.Maps

set_option maxRecDepth 8000 in
set_option maxHeartbeats 8000000 in
theorem sameNodes_eq (P Q : Nat → Prop) (w0 : World) (va : Value) (ns : List Nd) (h : Ns w0 P va ns) : ∀ (vb : Value) (w : World), Keeps [] w0 w → Ns w Q vb ns →
    Calls Try.prog 45 #[va, vb] w fun e w' => e = .returned (.bool true) ∧ ∃ n, w' = w.drewN n := by
  induction h with
  | mk v la ns hns hl haa hk ih =>
    intro vb w hkw hb
    cases hb with
    | mk _ lb _ hnb hlb hab hkb =>
    have hM : la.map Pn.nd = lb.map Pn.nd := hns.trans hnb.symm
    have hlen : la.length = lb.length := by simpa using congrArg List.length hM
    have hn : (((la.length : Int) != (lb.length : Int))) = false := by simp; omega
    have hla := (hl.keeps hkw (fun _ _ => List.not_mem_nil)).lies
    obtain ⟨oa, ca, rfl, h1, h2⟩ := hla.form
    have hlb' := hlb.lies
    obtain ⟨ob, cb, rfl, h3, h4⟩ := hlb'.form
    unfold maxLen at h2 h4
    have HL := hide hlen
    have HM := hide hM
    have HA := hide hla
    have HB := hide hlb'
    have HI := hide ih
    have HK := hide hkw
    have HAA := hide haa
    have HAB := hide hab
    have HKB := hide hkb
    clear hlen hM hla hlb' ih hkw haa hab hkb hl hlb hk hns hnb
    go_enter Try.func45, Try.ntmps45
    go_wp2_with fail
    go_loopw [5] (fun i wr => ∃ k : Nat, k ≤ la.length ∧ i = .int .i64 k ∧ Hid (∃ m, wr = w.drewN m)) (fun i _ => la.length - (intOf i).toNat)
    case atStart => exact ⟨0, Nat.zero_le _, rfl, 0, rfl⟩
    case round =>
      obtain ⟨k, hk, rfl, hW⟩ := hrel
      have hkw : Keeps [] w wr := by obtain ⟨m, hm⟩ := hW.out; rw [hm]; exact (Keeps.refl _ _).drewN _
      by_cases hlt : k < la.length
      · obtain ⟨ga, xa, ea, hca⟩ := (HA.out.keeps hkw).addr (by omega)
        obtain ⟨gb, xb, eb, hcb⟩ := (HB.out.keeps hkw).addr (by rw [← HL.out]; omega)
        subst ea
        subst eb
        have hltb : k < lb.length := by rw [← HL.out]; exact hlt
        obtain ⟨a0, a1, a2, a3⟩ := lies_pn hca k hlt
        obtain ⟨b0, b1, b2, b3⟩ := lies_pn hcb k hltb
        have hpq : la[k].nd = lb[k].nd := by
          have h9 : (la.map Pn.nd)[k]? = (lb.map Pn.nd)[k]? := by rw [HM.out]
          simpa [List.getElem?_eq_getElem hlt, List.getElem?_eq_getElem hltb] using h9
        have hpa := ((HAA.out la[k] (List.getElem_mem hlt)).keeps (HK.out.trans hkw) (fun _ _ => List.not_mem_nil)).lies
        have hpb := ((HAB.out lb[k] (List.getElem_mem hltb)).keeps hkw (fun _ _ => List.not_mem_nil)).lies
        have hsa := hide (fun n : Nat => sameAttrs_any (wr.drewN n) la[k].av lb[k].av la[k].nd.attrs lb[k].nd.attrs (hpa.keeps ((Keeps.refl [] wr).drewN n)) (hpb.keeps ((Keeps.refl [] wr).drewN n)))
        have hkb := HKB.out lb[k] (List.getElem_mem hltb)
        rw [← hpq] at hkb
        have hsn := hide (fun n : Nat => HI.out la[k] (List.getElem_mem hlt) lb[k].kv (wr.drewN n) ((HK.out.trans hkw).drewN n) (hkb.keeps0 (hkw.drewN n)))
        clear hca hcb hpa hpb hkb
        generalize la[k] = p at *
        generalize lb[k] = q at *
        obtain ⟨np, avp, kvp⟩ := p
        obtain ⟨nq', avq, kvq⟩ := q
        simp only at hpq
        subst hpq
        simp only at a0 a1 a2 a3 b0 b1 b2 b3 hsa hsn
        simp only [decide_true] at hsa
        generalize np.name = nm at *
        generalize np.text = tx at *
        go_wp2_with fail
        go_quiet ((first | (go_at_call 38; exact Calls.quiet_of (hsa.out _)) | (go_at_call 45; exact Calls.quiet_of (hsn.out _))))
        go_wp2_with fail
        go_roundw
        case rel => exact ⟨k + 1, by omega, by go_num, by obtain ⟨m, hm⟩ := hW.out; exact ⟨m + nq, by rw [hm]; simp⟩⟩
        case measure => simp [intOf]; omega
      · go_wp2_with fail
        go_ret
        exact ⟨rfl, hW.out⟩
end Go.Proofs.Ytaeblkmkpfklkab
