/- SameTokens of tokens that are the same. -/
import Derived.Test.YtngojdajamgababGreatSame
namespace Go.Proofs.YtngojdajamgababGreat
open Go.RowKit Go.Maps

set_option maxRecDepth 4000 in
set_option maxHeartbeats 8000000 in
theorem sameTokens_eq (w : World) (va vb : Value) (ts : List Tok) (ha : Toks w va ts) (hb : Toks w vb ts) :
    Calls Tryz.prog 16 #[va, vb] w fun e w' => e = .returned (.bool true) ∧ ∃ n, w' = w.drewN n := by
  obtain ⟨la, hla, ha, haa⟩ := ha
  obtain ⟨lb, hlb, hb, hba⟩ := hb
  obtain ⟨oa, ca, rfl, ha1, ha2⟩ := ha.form
  obtain ⟨ob, cb, rfl, hb1, hb2⟩ := hb.form
  unfold maxLen at ha2 hb2
  have hlen : la.length = lb.length := by simpa using congrArg List.length (hla.trans hlb.symm)
  have hn : (((la.length : Int) != (lb.length : Int))) = false := by simp; omega
  have HL := hide hlen
  have HM := hide (hla.trans hlb.symm)
  clear hlen hla hlb
  go_enter Tryz.func16, Tryz.ntmps16
  go_wp2_with fail
  go_loopw [5] (fun i wr => ∃ k : Nat, k ≤ la.length ∧ i = .int .i64 k ∧ Hid (∃ m, wr = w.drewN m)) (fun i _ => la.length - (intOf i).toNat)
  case atStart => exact ⟨0, Nat.zero_le _, rfl, 0, rfl⟩
  case round =>
    obtain ⟨k, hk, rfl, hW⟩ := hrel
    have hkw : Keeps [] w wr := by obtain ⟨m, hm⟩ := hW.out; rw [hm]; exact (Keeps.refl _ _).drewN _
    by_cases hlt : k < la.length
    · obtain ⟨ga, xa, rfl, hca⟩ := (ha.keeps hkw).addr (by omega)
      obtain ⟨gb, xb, rfl, hcb⟩ := (hb.keeps hkw).addr (by rw [← HL.out]; omega)
      have hltb : k < lb.length := by rw [← HL.out]; exact hlt
      obtain ⟨a0, a1, a2, a3⟩ := lies_tok hca k hlt
      obtain ⟨b0, b1, b2, b3⟩ := lies_tok hcb k hltb
      have hpa := haa la[k] (List.getElem_mem hlt)
      have hpb := hba lb[k] (List.getElem_mem hltb)
      have hsa := hide (fun n : Nat => sameAttrs_any (wr.drewN n) la[k].2 lb[k].2 la[k].1.attrs lb[k].1.attrs (hpa.keeps (hkw.drewN n)) (hpb.keeps (hkw.drewN n)))
      have hpq : la[k].1 = lb[k].1 := by
        have h1 : (la.map (·.1))[k]? = (lb.map (·.1))[k]? := by rw [HM.out]
        simpa [List.getElem?_eq_getElem hlt, List.getElem?_eq_getElem hltb] using h1
      clear hca hcb hpa hpb
      generalize la[k] = p at *
      generalize lb[k] = q at *
      obtain ⟨⟨kp, np, ap, xp⟩, vp⟩ := p
      obtain ⟨tq, vq⟩ := q
      simp only at hpq
      subst hpq
      simp only at hsa
      go_wp2_with fail
      go_quiet ((go_at_call 39; exact Calls.quiet_of (hsa.out _)))
      go_wp2_with fail
      go_roundw
      case rel => exact ⟨k + 1, by omega, by go_num, by obtain ⟨m, hm⟩ := hW.out; exact ⟨m + nq, by rw [hm]; simp⟩⟩
      case measure => simp [intOf]; omega
    · go_wp2_with fail
      go_ret
      exact ⟨rfl, hW.out⟩
end Go.Proofs.YtngojdajamgababGreat
