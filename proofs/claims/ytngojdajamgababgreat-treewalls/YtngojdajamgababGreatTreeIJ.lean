/- textIn, SameNodes. SameNodes of nodes that are the same. -/
import Derived.Test.YtngojdajamgababGreatTreeGH
namespace Go.Proofs.YtngojdajamgababGreat
open Go.RowKit Go.Maps

/-- Nodes that are only read, in any blocks. -/
theorem Ns.keeps0 {w w' : World} {P : Nat → Prop} {v : Value} {ns : List Nd} (h : Ns w P v ns) (hk : Keeps [] w w') : Ns w' P v ns := h.keeps hk (fun _ _ => List.not_mem_nil)

theorem textNs_drop (gone : Bool) (l : List Pn) (k : Nat) (hk : k < l.length) : textNs gone ((l.drop k).map Pn.nd) = (if (gone && goneN l[k].nd.name) = true then [] else l[k].nd.text ++ textNs gone l[k].nd.kids) ++ textNs gone ((l.drop (k + 1)).map Pn.nd) := by
  rw [List.drop_eq_getElem_cons hk, List.map_cons]
  generalize l[k] = p
  obtain ⟨⟨n, a, t, ks⟩, av, kv⟩ := p
  rw [textNs]
  rfl

/-- How much text there is in a tree, all in all. -/
def bytesNs : List Nd → Nat
  | [] => 0
  | .mk _ _ t k :: r => t.length + bytesNs k + bytesNs r
theorem bytesNs_drop (l : List Pn) (k : Nat) (hk : k < l.length) : bytesNs ((l.drop k).map Pn.nd) = l[k].nd.text.length + bytesNs l[k].nd.kids + bytesNs ((l.drop (k + 1)).map Pn.nd) := by
  rw [List.drop_eq_getElem_cons hk, List.map_cons]
  generalize l[k] = p
  obtain ⟨⟨n, a, t, ks⟩, av, kv⟩ := p
  rw [bytesNs]
  rfl
theorem text_bytes (gone : Bool) : (ns : List Nd) → (textNs gone ns).length ≤ bytesNs ns
  | [] => by simp [textNs, bytesNs]
  | .mk n a t k :: r => by
    have h1 := text_bytes gone k
    have h2 := text_bytes gone r
    rw [textNs, bytesNs, List.length_append]
    split
    · simp; omega
    · simp; omega

theorem str_append (x y : List UInt8) : (⟨x.toArray⟩ : ByteArray) ++ ⟨y.toArray⟩ = ⟨(x ++ y).toArray⟩ := WideShapes.bytes_inj (by simp)

end Go.Proofs.YtngojdajamgababGreat

namespace Go.Proofs.YtngojdajamgababGreat
open Go.RowKit Go.Maps

set_option maxRecDepth 8000 in
set_option maxHeartbeats 8000000 in
theorem sameNodes_eq (P Q : Nat → Prop) (w0 : World) (va : Value) (ns : List Nd) (h : Ns w0 P va ns) : ∀ (vb : Value) (w : World), Keeps [] w0 w → Ns w Q vb ns →
    Calls Tryz.prog 18 #[va, vb] w fun e w' => e = .returned (.bool true) ∧ ∃ n, w' = w.drewN n := by
  induction h with
  | mk v la ns hns hl haa hk ih =>
    intro vb w hkw hb
    cases hb with
    | mk _ lb _ hnb hlb hab hkb =>
    have hM : la.map Pn.nd = lb.map Pn.nd := hns.trans hnb.symm
    have hlen : la.length = lb.length := by simpa using congrArg List.length hM
    have hn : (((la.length : Int) != (lb.length : Int))) = false := by simp; omega
    have hla := (hl.keeps hkw (fun _ _ => List.not_mem_nil)).lies
    obtain ⟨oa, ca, rfl, h1, h2⟩ := hla.form
    have hlb' := hlb.lies
    obtain ⟨ob, cb, rfl, h3, h4⟩ := hlb'.form
    unfold maxLen at h2 h4
    have HL := hide hlen
    have HM := hide hM
    have HA := hide hla
    have HB := hide hlb'
    have HI := hide ih
    have HK := hide hkw
    have HAA := hide haa
    have HAB := hide hab
    have HKB := hide hkb
    clear hlen hM hla hlb' ih hkw haa hab hkb hl hlb hk hns hnb
    go_enter Tryz.func18, Tryz.ntmps18
    go_wp2_with fail
    go_loopw [5] (fun i wr => ∃ k : Nat, k ≤ la.length ∧ i = .int .i64 k ∧ Hid (∃ m, wr = w.drewN m)) (fun i _ => la.length - (intOf i).toNat)
    case atStart => exact ⟨0, Nat.zero_le _, rfl, 0, rfl⟩
    case round =>
      obtain ⟨k, hk, rfl, hW⟩ := hrel
      have hkw : Keeps [] w wr := by obtain ⟨m, hm⟩ := hW.out; rw [hm]; exact (Keeps.refl _ _).drewN _
      by_cases hlt : k < la.length
      · obtain ⟨ga, xa, ea, hca⟩ := (HA.out.keeps hkw).addr (by omega)
        obtain ⟨gb, xb, eb, hcb⟩ := (HB.out.keeps hkw).addr (by rw [← HL.out]; omega)
        subst ea
        subst eb
        have hltb : k < lb.length := by rw [← HL.out]; exact hlt
        obtain ⟨a0, a1, a2, a3⟩ := lies_pn hca k hlt
        obtain ⟨b0, b1, b2, b3⟩ := lies_pn hcb k hltb
        have hpq : la[k].nd = lb[k].nd := by
          have h9 : (la.map Pn.nd)[k]? = (lb.map Pn.nd)[k]? := by rw [HM.out]
          simpa [List.getElem?_eq_getElem hlt, List.getElem?_eq_getElem hltb] using h9
        have hpa := ((HAA.out la[k] (List.getElem_mem hlt)).keeps (HK.out.trans hkw) (fun _ _ => List.not_mem_nil)).lies
        have hpb := ((HAB.out lb[k] (List.getElem_mem hltb)).keeps hkw (fun _ _ => List.not_mem_nil)).lies
        have hsa := hide (fun n : Nat => sameAttrs_any (wr.drewN n) la[k].av lb[k].av la[k].nd.attrs lb[k].nd.attrs (hpa.keeps ((Keeps.refl [] wr).drewN n)) (hpb.keeps ((Keeps.refl [] wr).drewN n)))
        have hkb := HKB.out lb[k] (List.getElem_mem hltb)
        rw [← hpq] at hkb
        have hsn := hide (fun n : Nat => HI.out la[k] (List.getElem_mem hlt) lb[k].kv (wr.drewN n) ((HK.out.trans hkw).drewN n) (hkb.keeps0 (hkw.drewN n)))
        clear hca hcb hpa hpb hkb
        generalize la[k] = p at *
        generalize lb[k] = q at *
        obtain ⟨np, avp, kvp⟩ := p
        obtain ⟨nq', avq, kvq⟩ := q
        simp only at hpq
        subst hpq
        simp only at a0 a1 a2 a3 b0 b1 b2 b3 hsa hsn
        simp only [decide_true] at hsa
        generalize np.name = nm at *
        generalize np.text = tx at *
        go_wp2_with fail
        go_quiet ((first | (go_at_call 39; exact Calls.quiet_of (hsa.out _)) | (go_at_call 18; exact Calls.quiet_of (hsn.out _))))
        go_wp2_with fail
        go_roundw
        case rel => exact ⟨k + 1, by omega, by go_num, by obtain ⟨m, hm⟩ := hW.out; exact ⟨m + nq, by rw [hm]; simp⟩⟩
        case measure => simp [intOf]; omega
      · go_wp2_with fail
        go_ret
        exact ⟨rfl, hW.out⟩
end Go.Proofs.YtngojdajamgababGreat
