/- printOpen and Print, of tokens of bulk up to a million. Html of package clean. Strict trees: values. Strict trees: attributes. Strict trees: all attributes of a tag. -/
import Derived.Test.YtlcljanibjdejaaGreatXb08
namespace Go.Proofs.YtlcljanibjdejaaGreat
open Go.RowKit Go.Maps
theorem bulkP_mem {l : List Pair} {p : Pair} (h : p ∈ l) : p.1.length + p.2.length + 2 ≤ bulkP l := by
  induction l with
  | nil => simp at h
  | cons a l ih =>
    have e : bulkP (a :: l) = (a.1.length + a.2.length + 2) + bulkP l := by simp [bulkP]
    rcases List.mem_cons.1 h with rfl | h
    · omega
    · have := ih h; omega
theorem bulkP_len1 (l : List Pair) : l.length ≤ bulkP l := by
  induction l with
  | nil => simp
  | cons a l ih =>
    have e : bulkP (a :: l) = (a.1.length + a.2.length + 2) + bulkP l := by simp [bulkP]
    simp only [List.length_cons]; omega
theorem pairP_le8 (p : Pair) : (pairP p).length ≤ 8 * (p.1.length + p.2.length + 2) := by
  have := putL_le p.2
  simp [pairP]
  omega
theorem pairsP_le8 (l : List Pair) (k : Nat) : (pairsP (l.take k)).length ≤ 8 * bulkP l := by
  induction l generalizing k with
  | nil => simp [pairsP]
  | cons a l ih =>
    cases k with
    | zero => simp [pairsP]
    | succ k =>
      have e : bulkP (a :: l) = (a.1.length + a.2.length + 2) + bulkP l := by simp [bulkP]
      have e2 : pairsP ((a :: l).take (k + 1)) = pairP a ++ pairsP (l.take k) := by simp [pairsP]
      have h1 := pairP_le8 a
      have h2 := ih k
      rw [e2, List.length_append]
      omega
theorem tokP_le8 (t : Tok) : (tokP t).length ≤ 8 * bulkT t := by
  have h1 := pairsP_le8 t.attrs t.attrs.length
  rw [List.take_length] at h1
  have h2 := putL_le t.text
  unfold tokP bulkT
  split
  · omega
  · split
    · simp [openP]; omega
    · simp; omega
theorem toksP_le8 (l : List (Tok × Value)) (k : Nat) : (toksP ((l.take k).map (·.1))).length ≤ 8 * bulkL (l.map (·.1)) := by
  induction l generalizing k with
  | nil => simp [toksP]
  | cons a l ih =>
    cases k with
    | zero => simp [toksP]
    | succ k =>
      have e : bulkL ((a :: l).map (·.1)) = bulkT a.1 + bulkL (l.map (·.1)) := by simp [bulkL]
      have e2 : toksP (((a :: l).take (k + 1)).map (·.1)) = tokP a.1 ++ toksP ((l.take k).map (·.1)) := by simp [toksP]
      have h1 := tokP_le8 a.1
      have h2 := ih k
      rw [e2, List.length_append]
      omega
set_option maxRecDepth 4000 in
set_option maxHeartbeats 4000000 in
theorem printOpen_all (w0 : World) (B b : Nat) (l : List UInt8) (kd : Int) (nm tx : List UInt8) (la : List Pair) (v : Value) (hv : Lies w0 v la.length 2 (pairCells la)) (w : World) (hw0 : Keeps [] w0 w) (hB0 : w0.heap.size ≤ B) (h : IsBld B b l w) (hBw : B ≤ w.heap.size)
    (hnm : nm.length ≤ 38000000) (hf : bulkP la ≤ 38000000) (hl : l.length ≤ 304000000) :
    Calls Tryz.prog 143 #[.pointer (some ⟨b, 0, none⟩), .agg #[.int .i64 kd, .string ⟨nm.toArray⟩, v, .string ⟨tx.toArray⟩]] w fun e w' => e = .returned (.tuple #[]) ∧ IsBld B b (l ++ openP ⟨kd, nm, la, tx⟩) w' ∧ KeepsB B b w w' := by
  have hla := bulkP_len1 la
  obtain ⟨o, c, rfl, h1, h2⟩ := hv.form
  unfold maxLen at h2
  have ha : Keeps [] w (w.alloc (.cells #[.int .i64 kd, .string ⟨nm.toArray⟩, .slice o la.length c, .string ⟨tx.toArray⟩] 117)) := (Keeps.refl [] w).alloc _
  have hbx : IsTok (w.alloc (.cells #[.int .i64 kd, .string ⟨nm.toArray⟩, .slice o la.length c, .string ⟨tx.toArray⟩] 117)) w.heap.size (⟨kd, nm, la, tx⟩, .slice o la.length c) := heap_alloc_new w _
  have hBb : B ≤ b := by rcases h with h | h <;> exact h.1
  have hbw : b < w.heap.size := by rcases h with ⟨_, v, hb, _⟩ | ⟨_, v, hb, _⟩ <;> exact lt_of_block hb
  have hsum : ¬ 9223372036854775807 < 1 + nm.length := by omega
  have hstr : (⟨#[60]⟩ : ByteArray) ++ ⟨nm.toArray⟩ = ⟨([60] ++ nm).toArray⟩ := app2 [60] nm
  have hw1 := hide (write_all B b l ([60] ++ nm) _ (h.keeps ha) (by simp; omega) (Nat.le_trans hBw ha.size))
  obtain ⟨Z, hZ⟩ : ∃ Z, l ++ ([60] ++ nm) = Z := ⟨_, rfl⟩
  have hZl : Z.length ≤ 342100000 := by rw [← hZ]; simp; omega
  have hfin : l ++ openP ⟨kd, nm, la, tx⟩ = Z ++ pairsP la ++ [62] := by rw [← hZ]; simp [openP]
  rw [hfin]
  rw [hZ] at hw1
  clear hZ hfin
  have hwe := hide (fun (w : World) hb hB => write_all B b (Z ++ pairsP la) [62] w hb (by
    have := pairsP_le8 la la.length
    rw [List.take_length] at this
    simp; omega) hB)
  go_enter Tryz.func143, Tryz.ntmps143
  go_wp2_with fail
  refine hw1.out.mono ?_
  rintro e w2 ⟨rfl, hb2, hk2⟩
  have hbx2 := hk2.tok hbx (by omega)
  have hkw2 : KeepsB B b w w2 := (KeepsB.of ha).trans hk2
  have x2 : w2.cell? ⟨w.heap.size, 2, none⟩ = some (.slice o la.length c) := by rw [hbx2.cell 2]; rfl
  clear hw1 hstr hsum
  go_wp2_with fail
  go_loopw [14] (fun i wr => ∃ k : Nat, k ≤ la.length ∧ i = .int .i64 k ∧ IsBld B b (Z ++ pairsP (la.take k)) wr ∧ KeepsB B b w wr) (fun i _ => la.length - (intOf i).toNat)
  case atStart => exact ⟨0, Nat.zero_le _, rfl, by simpa [pairsP] using hb2, hkw2⟩
  case round =>
    obtain ⟨k, hk, rfl, hbk, hkw⟩ := hrel
    clear hb2 hk2 hbx2 x2
    have hBr := Nat.le_trans hBw hkw.size
    by_cases hlt : k < la.length
    · obtain ⟨g, x, rfl, hc⟩ := (hv.keeps (KeepsB.nil hw0 hkw hB0 hBb)).addr (by omega)
      have a0 := hc _ _ (pair_at0 la k hlt)
      have a1 := hc _ _ (pair_at1 la k hlt)
      rw [← Nat.add_assoc] at a1
      have hfk := bulkP_mem (List.getElem_mem hlt)
      have hpl := pairsP_le8 la k
      have hts := pairsP_take la k hlt
      generalize pairsP (la.take k) = Y at *
      have HTS := hide hts
      clear hts hc
      generalize la[k] = p at *
      obtain ⟨n, v⟩ := p
      simp only at a0 a1 hfk
      have hkA : Keeps [] wr (wr.alloc (.cells #[.string ⟨n.toArray⟩, .string ⟨v.toArray⟩] 52)) := (Keeps.refl [] wr).alloc _
      have hA : IsPair (wr.alloc (.cells #[.string ⟨n.toArray⟩, .string ⟨v.toArray⟩] 52)) wr.heap.size ⟨n.toArray⟩ ⟨v.toArray⟩ := heap_alloc_new wr _
      have hbr : b < wr.heap.size := Nat.lt_of_lt_of_le hbw hkw.size
      have hsum1 : ¬ 9223372036854775807 < 1 + n.length := by omega
      have hsum2 : ¬ 9223372036854775807 < 1 + n.length + 2 := by omega
      have hstr1 : (⟨#[32]⟩ : ByteArray) ++ ⟨n.toArray⟩ = ⟨([32] ++ n).toArray⟩ := app2 [32] n
      have hstr2 : (⟨(32 :: n).toArray⟩ : ByteArray) ++ ⟨#[61, 34]⟩ = ⟨([32] ++ n ++ [61, 34]).toArray⟩ := app2 (32 :: n) [61, 34]
      have hsz1 : (⟨(32 :: n).toArray⟩ : ByteArray).size = 1 + n.length := by rw [str_size]; simp; omega
      have hw3 := hide (write_all B b (Z ++ Y) ([32] ++ n ++ [61, 34]) _ (hbk.keeps hkA) (by simp; omega) (Nat.le_trans hBr hkA.size))
      have hw4 := hide (fun (w : World) hb hB => printText_all B b (Z ++ Y ++ ([32] ++ n ++ [61, 34])) v w hb hB (by omega) (by simp; omega))
      have hpv := putL_le v
      have hw5 := hide (fun (w : World) hb hB => write_all B b (Z ++ Y ++ ([32] ++ n ++ [61, 34]) ++ putL v) [34] w hb (by simp; omega) hB)
      have hY : Z ++ (Y ++ pairP (n, v)) = Z ++ Y ++ ([32] ++ n ++ [61, 34]) ++ putL v ++ [34] := by simp [pairP]
      have HY := hide hY
      clear hY
      go_wp2_with fail
      refine hw3.out.mono ?_
      rintro e w3 ⟨rfl, hb3, hk3⟩
      have hA3 := hk3.pair hA (by omega)
      have y1 := hA3.cell1
      have hB3 := Nat.le_trans (Nat.le_trans hBr hkA.size) hk3.size
      clear hstr1 hstr2 hsz1 a0 a1
      go_wp2_with fail
      refine (hw4.out _ hb3 hB3).mono ?_
      rintro e w4 ⟨rfl, hb4, hk4⟩
      go_wp2_with fail
      refine (hw5.out _ hb4 (Nat.le_trans hB3 hk4.size)).mono ?_
      rintro e w5 ⟨rfl, hb5, hk5⟩
      have hb5' : IsBld B b (Z ++ pairsP (la.take (k + 1))) w5 := by rw [HTS.out, HY.out]; exact hb5
      have hkw5 : KeepsB B b w w5 := (((hkw.trans (KeepsB.of hkA)).trans hk3).trans hk4).trans hk5
      go_wp2_with fail
      go_roundw
      case rel => exact ⟨k + 1, by omega, by go_num, hb5', hkw5⟩
      case measure => simp [intOf]; omega
    · have hall : la.take k = la := List.take_of_length_le (by omega)
      rw [hall] at hbk
      go_wp2_with fail
      refine (hwe.out _ hbk hBr).mono ?_
      rintro e w3 ⟨rfl, hb3, hk3⟩
      go_wp2_with fail
      go_end0
      exact ⟨rfl, hb3, hkw.trans hk3⟩
set_option maxRecDepth 4000 in
set_option maxHeartbeats 4000000 in
theorem print_all (w : World) (v : Value) (ts : List Tok) (hv : Toks w v ts) (hn : bulkL ts ≤ 38000000) (hc : chkL ts = 0) :
    Calls Tryz.prog 69 #[v] w fun e w' => e = .returned (.tuple #[.string ⟨(toksP ts).toArray⟩, .int .i64 0]) ∧ Keeps [] w w' := by
  have hchk := hide (check_any w v ts hv (fun t ht => by
    have h1 := bulkL_mem ht
    unfold bulkT at h1
    exact ⟨by unfold maxLen; omega, fun p hp => by have h2 := bulkP_mem hp; unfold maxLen; omega⟩))
  rw [hc] at hchk
  clear hc
  obtain ⟨l, rfl, hv, hva⟩ := hv
  have hfl : ∀ p ∈ l, bulkT p.1 ≤ bulkL (l.map (·.1)) := fun p hp => bulkL_mem (List.mem_map_of_mem hp)
  obtain ⟨o, c, rfl, h1, h2⟩ := hv.form
  unfold maxLen at h2
  go_enter Tryz.func69, Tryz.ntmps69
  go_wp2_with fail
  refine hchk.out.mono ?_
  rintro e w1 ⟨rfl, hk1⟩
  go_wp2_with fail
  have hb1 := bld_new w1
  have hkb1 : KeepsB w1.heap.size w1.heap.size w1 (w1.alloc (.cells #[.pointer none, .slice none 0 0] 134)) := KeepsB.of ((Keeps.refl [] w1).alloc _)
  have hsz1 : w1.heap.size + 1 ≤ (w1.alloc (.cells #[.pointer none, .slice none 0 0] 134)).heap.size := by simp
  clear hchk
  go_loopw [15] (fun i wr => ∃ k : Nat, k ≤ l.length ∧ i = .int .i64 k ∧ IsBld w1.heap.size w1.heap.size (toksP ((l.take k).map (·.1))) wr ∧ KeepsB w1.heap.size w1.heap.size w1 wr ∧ w1.heap.size + 1 ≤ wr.heap.size) (fun i _ => l.length - (intOf i).toNat)
  case atStart => exact ⟨0, Nat.zero_le _, rfl, by simpa [toksP] using hb1, hkb1, hsz1⟩
  case round =>
    obtain ⟨k, hk, rfl, hbk, hkw, hsz⟩ := hrel
    clear hb1 hkb1 hsz1
    have hK : Keeps [] w wr := KeepsB.nil hk1 hkw hk1.size (Nat.le_refl _)
    by_cases hlt : k < l.length
    · obtain ⟨g, x, rfl, hcc⟩ := (hv.keeps hK).addr (by omega)
      obtain ⟨a0, a1, a2, a3⟩ := lies_tok hcc k hlt
      have hfk := hfl l[k] (List.getElem_mem hlt)
      have hpa := hva l[k] (List.getElem_mem hlt)
      have hpl := toksP_le8 l k
      have HTS := hide (toksP_take l k hlt)
      generalize toksP ((l.take k).map (·.1)) = Y at *
      clear hcc
      generalize l[k] = p at *
      obtain ⟨⟨kp, np, ap, xp⟩, vp⟩ := p
      simp only at a0 a1 a2 a3 hpa hfk
      obtain ⟨op, cp, rfl, hp1, hp2⟩ := hpa.form
      unfold maxLen at hp2
      have hfn : np.length + xp.length + bulkP ap + 4 ≤ bulkL (l.map (·.1)) := hfk
      have hkA : Keeps [] wr (wr.alloc (.cells #[.int .i64 kp, .string ⟨np.toArray⟩, .slice op ap.length cp, .string ⟨xp.toArray⟩] 117)) := (Keeps.refl [] wr).alloc _
      have hA : IsTok (wr.alloc (.cells #[.int .i64 kp, .string ⟨np.toArray⟩, .slice op ap.length cp, .string ⟨xp.toArray⟩] 117)) wr.heap.size (⟨kp, np, ap, xp⟩, .slice op ap.length cp) := heap_alloc_new wr _
      have hBA : w1.heap.size ≤ (wr.alloc (.cells #[.int .i64 kp, .string ⟨np.toArray⟩, .slice op ap.length cp, .string ⟨xp.toArray⟩] 117)).heap.size := by simp; omega
      have hbA := hbk.keeps hkA
      have hkwA := hkw.trans (KeepsB.of hkA)
      by_cases hk1' : kp = 1
      · subst hk1'
        have hpt := hide (printText_all w1.heap.size w1.heap.size Y xp _ hbA hBA (by omega) (by omega))
        have HY := hide (show tokP ⟨1, np, ap, xp⟩ = putL xp from rfl)
        go_wp2_with fail
        refine hpt.out.mono ?_
        rintro e w5 ⟨rfl, hb5, hk5⟩
        have hb5' : IsBld w1.heap.size w1.heap.size (toksP ((l.take (k + 1)).map (·.1))) w5 := by rw [HTS.out, HY.out]; exact hb5
        have hs5 := Nat.le_trans hsz (Nat.le_trans hkA.size hk5.size)
        go_wp2_with fail
        go_roundw
        case rel => exact ⟨k + 1, by omega, by go_num, hb5', hkwA.trans hk5, hs5⟩
        case measure => simp [intOf]; omega
      · have e1 : (kp == 1) = false := by simpa using hk1'
        by_cases hk2' : kp = 2
        · subst hk2'
          have hpt := hide (printOpen_all w w1.heap.size w1.heap.size Y 2 np xp ap _ hpa _ (hK.trans hkA) hk1.size hbA hBA (by omega) (by omega) (by omega))
          have HY := hide (show tokP ⟨2, np, ap, xp⟩ = openP ⟨2, np, ap, xp⟩ from rfl)
          go_wp2_with fail
          refine hpt.out.mono ?_
          rintro e w5 ⟨rfl, hb5, hk5⟩
          have hb5' : IsBld w1.heap.size w1.heap.size (toksP ((l.take (k + 1)).map (·.1))) w5 := by rw [HTS.out, HY.out]; exact hb5
          have hs5 := Nat.le_trans hsz (Nat.le_trans hkA.size hk5.size)
          go_wp2_with fail
          go_roundw
          case rel => exact ⟨k + 1, by omega, by go_num, hb5', hkwA.trans hk5, hs5⟩
          case measure => simp [intOf]; omega
        · have e2 : (kp == 2) = false := by simpa using hk2'
          have HY := hide (show tokP ⟨kp, np, ap, xp⟩ = [60, 47] ++ np ++ [62] from by simp [tokP, hk1', hk2'])
          have hw5 := hide (write_all w1.heap.size w1.heap.size Y ([60, 47] ++ np ++ [62]) _ hbA (by simp; omega) hBA)
          have hsum1 : ¬ 9223372036854775807 < 2 + np.length := by omega
          have hsum2 : ¬ 9223372036854775807 < 2 + np.length + 1 := by omega
          have hstr1 : (⟨#[60, 47]⟩ : ByteArray) ++ ⟨np.toArray⟩ = ⟨([60, 47] ++ np).toArray⟩ := app2 [60, 47] np
          have hstr2 : (⟨(60 :: 47 :: np).toArray⟩ : ByteArray) ++ ⟨#[62]⟩ = ⟨([60, 47] ++ np ++ [62]).toArray⟩ := app2 (60 :: 47 :: np) [62]
          have hss : (⟨(60 :: 47 :: np).toArray⟩ : ByteArray).size = 2 + np.length := by rw [str_size]; simp; omega
          clear hk1' hk2'
          go_wp2_with fail
          refine hw5.out.mono ?_
          rintro e w5 ⟨rfl, hb5, hk5⟩
          have hb5' : IsBld w1.heap.size w1.heap.size (toksP ((l.take (k + 1)).map (·.1))) w5 := by rw [HTS.out, HY.out]; exact hb5
          have hs5 := Nat.le_trans hsz (Nat.le_trans hkA.size hk5.size)
          clear hstr1 hstr2 hss
          go_wp2_with fail
          go_roundw
          case rel => exact ⟨k + 1, by omega, by go_num, hb5', hkwA.trans hk5, hs5⟩
          case measure => simp [intOf]; omega
    · have hall : l.take k = l := List.take_of_length_le (by omega)
      rw [hall] at hbk
      go_wp2_with fail
      refine (Tryz.Builder_String_any w1.heap.size w1.heap.size _ _ hbk (by omega)).mono ?_
      rintro e w3 ⟨rfl, hb3⟩
      have hfin : Keeps [] w w3 := ⟨hb3.os.trans hK.os, hb3.tape.trans hK.tape, hb3.output.trans hK.output, Nat.le_trans hK.size hb3.size, fun i hi _ => (hb3.block i (Nat.lt_of_lt_of_le hi hk1.size)).trans (hK.block i hi List.not_mem_nil)⟩
      go_wp2_with fail
      go_ret2
      exact ⟨rfl, hfin⟩
end Go.Proofs.YtlcljanibjdejaaGreat
namespace Go.Proofs.YtlcljanibjdejaaGreat
open Go.RowKit Go.Maps
theorem must68 (s : ByteArray) (w : World) : Calls Tryz.prog 68 #[.string s, .int .i64 0] w fun e w' => e = .returned (.string s) ∧ w' = w := by
  go_enter Tryz.func68, Tryz.ntmps68
  go_wp2_with fail
  go_ret
  exact ⟨rfl, rfl⟩
end Go.Proofs.YtlcljanibjdejaaGreat
namespace Go.Proofs.YtlcljanibjdejaaGreat
open Go.RowKit Go.Maps
set_option maxHeartbeats 400000 in
theorem strict_any (s : ByteArray) (w : World) (hm : s.size ≤ maxLen) :
    Calls Tryz.prog 102 #[.string s] w fun e w' => e = two (strictAns s.data.toList) ∧ Keeps [] w w' := by
  unfold maxLen at hm
  unfold strictAns
  rw [len_size]
  by_cases h : 3000 < s.size
  · rw [if_pos h]
    go_enter Tryz.func102, Tryz.ntmps102
    go_wp2_with fail
    go_ret2
    exact ⟨rfl, Keeps.refl _ _⟩
  · rw [if_neg h]
    generalize hT : takeL s.data.toList = T
    have HT := hide hT
    clear hT
    obtain ⟨a, r⟩ := T
    cases r
    · go_enter Tryz.func102, Tryz.ntmps102
      go_wp2_with fail
      refine (taken_any s _ (by omega)).mono ?_
      rintro e w1 ⟨rfl, hk⟩
      rw [HT.out]
      go_wp2_with fail
      go_ret2
      exact ⟨rfl, hk⟩
    · go_enter Tryz.func102, Tryz.ntmps102
      go_wp2_with fail
      refine (taken_any s _ (by omega)).mono ?_
      rintro e w1 ⟨rfl, hk⟩
      rw [HT.out]
      go_wp2_with fail
      go_ret2
      exact ⟨rfl, hk⟩
theorem must68_no (s : ByteArray) (x : Int) (hx : x ≠ 0) (w : World) : Calls Tryz.prog 68 #[.string s, .int .i64 x] w fun e w' => e = .panicked (stopped x) ∧ w' = w := by
  have hd : (x != 0) = true := by simpa using hx
  clear hx
  go_enter Tryz.func68, Tryz.ntmps68
  go_wp2_with fail
  refine (with_any x _).mono ?_
  rintro e w1 ⟨rfl, rfl⟩
  exact ⟨rfl, rfl, rfl⟩
theorem strictAns_of (raw r : List UInt8) (h : raw.length ≤ 3000) : (strictAns raw = ((takeL raw).1, 0) ∧ strictX raw r = .ok ((takeL raw).1, r)) ∨ (strictAns raw = ([], 1) ∧ strictX raw r = .error 1) := by
  unfold strictAns strictX
  rw [if_neg (by omega)]
  cases (takeL raw).2 <;> simp
set_option maxHeartbeats 1000000 in
theorem value338 (c q : UInt8) (g : Nat) (w : World) (hq : q = 34 ∨ q = 39) (h : w.cell? ⟨g, 0, none⟩ = some (.string ⟨#[q]⟩)) :
    Calls Tryz.prog 338 #[.int .u8 c.toNat, .pointer (some ⟨g, 0, none⟩)] w fun e w' => e = .returned (.bool (notQ q c)) ∧ ∃ n, w' = w.drewN n := by
  unfold notQ
  rw [bne_at (c := c) (d := 60) rfl]
  rcases hq with rfl | rfl
  · rw [bne_at (c := c) (d := 34) rfl]
    have h9 : ((⟨#[34]⟩ : ByteArray)[0]'(by decide)).toNat = 34 := rfl
    go_enter Tryz.func338, Tryz.ntmps338
    go_wp2_with fail
    all_goals go_ret
    all_goals exact ⟨ret_bool (by simp [*]), 0, rfl⟩
  · rw [bne_at (c := c) (d := 39) rfl]
    have h9 : ((⟨#[39]⟩ : ByteArray)[0]'(by decide)).toNat = 39 := rfl
    go_enter Tryz.func338, Tryz.ntmps338
    go_wp2_with fail
    all_goals go_ret
    all_goals exact ⟨ret_bool (by simp [*]), 0, rfl⟩
theorem enters338 : Enters 338 := enters_of Tryz.func338 (by kernel_rfl) (by kernel_rfl)
theorem enters258 : Enters 258 := enters_of Tryz.func258 (by kernel_rfl) (by kernel_rfl)
set_option maxRecDepth 4000 in
set_option maxHeartbeats 4000000 in
theorem value325 (r b : Nat) (s : ByteArray) (l : List UInt8) (w : World) (hs : s.size ≤ 3000) (h : Xr w r b s l) :
    Calls Tryz.prog 325 #[.pointer (some ⟨r, 0, none⟩)] w fun e w' => Gives (valueX l) (fun p e w' => e = .returned (.string ⟨p.1.toArray⟩) ∧ Xr w' r b s p.2) e w' ∧ Keeps [b] w w' := by
  have hX := hide h
  have hbl := h.tx.lt
  have hrl := h.lt
  have hne := h.ne
  have hll : l.length ≤ 3000 := Nat.le_trans h.tx.len hs
  have hmf : ∀ (fn : Fn) (first cap : Array Value) (w : World), (Instr.makeFunc fn first cap).run Tryz.prog w = .ok (.func fn first cap) w := fun _ _ _ _ => rfl
  clear h
  have hg1 := heap_alloc_new w (.cells #[.string ⟨#[34]⟩] 9)
  obtain ⟨W, hW⟩ : ∃ W, w.alloc (.cells #[.string ⟨#[34]⟩] 9) = W := ⟨_, rfl⟩
  have hkW : Keeps [] w W := by rw [← hW]; exact (Keeps.refl [] w).alloc _
  rw [hW] at hg1
  have hXW := hX.out.keeps0 hkW
  have c0 : W.cell? ⟨r, 0, none⟩ = some (.pointer (some ⟨b, 0, none⟩)) := hXW.cell
  have g0 : W.cell? ⟨w.heap.size, 0, none⟩ = some (.string ⟨#[34]⟩) := cell_blk hg1 0
  have hp := hide (fun W1 (hT : Tx W1 b s l) => txPassed b s l [34] W1 hs hT)
  have HG := hide hg1
  have HKW := hide hkW
  have HXW := hide hXW
  have HW := hide hW
  clear hg1 hkW hXW hX hW
  cases hq : ([34] : List UInt8).isPrefixOf l
  · have HV0 : Hid (valueX l = match mustX [39] l with | .error e => .error e | .ok l1 => match mustX [39] (l1.dropWhile (notQ 39)) with | .error e => .error e | .ok l2 => strictX (l1.takeWhile (notQ 39)) l2) := by
      unfold valueX quoteX
      rw [hq]
      rfl
    rw [hq] at hp
    simp only [Bool.false_eq_true, if_false] at hp
    clear hq
    go_enter Tryz.func325, Tryz.ntmps325
    go_upto_region 2 with fail
    rw [HW.out]
    go_region_law (refine step_call rfl 258 _ _ rfl enters258 #[.pointer (some ⟨b, 0, none⟩), .string ⟨#[34]⟩] (by first | (simp [Act.eval]; done) | (simp [Act.eval, Act.put]; done) | kernel_rfl) (hp.out _ (HXW.out.tx.keeps ((Keeps.refl [] W).drew) List.not_mem_nil)) ?_; rintro e w2 ⟨rfl, hT2, hk2⟩; refine ⟨_, rfl, ?_⟩)
    all_goals have hk2' : Keeps [b] W w2 := keeps_drew hk2
    all_goals have hX2 := hide (HXW.out.on hk2' hT2)
    all_goals have hg2 := (hk2'.block _ (lt_of_block HG.out) (by simp; omega)).trans HG.out
    all_goals have d2 : w2.cell? ⟨w.heap.size, 0, none⟩ = some (.string ⟨#[34]⟩) := cell_blk hg2 0
    all_goals have f2 : w2.frozen? ⟨w.heap.size, 0, none⟩ = false := free_blk hg2 0
    all_goals have hg3 : (w2.setCell ⟨w.heap.size, 0, none⟩ (.string ⟨#[39]⟩)).heap[w.heap.size]? = some (.cells #[.string ⟨#[39]⟩] 9 (0, 0)) := by simp [World.setCell, Array.getElem?_modify, hg2]
    all_goals have hk3 : Keeps [w.heap.size] w2 (w2.setCell ⟨w.heap.size, 0, none⟩ (.string ⟨#[39]⟩)) := (Keeps.refl [w.heap.size] w2).setCell (.inl (by simp)) _
    all_goals have hX3 := hX2.out.keeps hk3 (by simp; omega) (by simp; omega)
    all_goals have hkw3 := keeps_on ((HKW.out.to (T := [b]) (by simp)).trans hk2') hk3 (fun g hg hlt => by simp at hg; omega)
    all_goals have HG3 := hide hg3
    all_goals have HX3 := hide hX3
    all_goals have HK3 := hide hkw3
    all_goals have d3 : (w2.setCell ⟨w.heap.size, 0, none⟩ (.string ⟨#[39]⟩)).cell? ⟨w.heap.size, 0, none⟩ = some (.string ⟨#[39]⟩) := cell_blk hg3 0
    all_goals have hm := hide (must255 r b s l [39] _ hs hX3)
    all_goals clear hg3 hX3 hkw3 hk3 hg2 hk2 hk2' hT2 HG HXW HKW hp
    all_goals go_wp2_with fail
    all_goals refine hm.out.mono ?_
    all_goals rintro e w4 ⟨hgv, hk4⟩
    all_goals rcases hgv with ⟨l1, hx1, rfl, hX4⟩ | ⟨k1, hx1, rfl⟩
    all_goals try exact ⟨rfl, .inr ⟨k1, HV0.out.trans (by rw [hx1]), rfl⟩, HK3.out.trans hk4⟩
    all_goals have HV : Hid (valueX l = match mustX [39] (l1.dropWhile (notQ 39)) with | .error e => .error e | .ok l2 => strictX (l1.takeWhile (notQ 39)) l2) := HV0.out.trans (by rw [hx1])
    all_goals have hl1 : l1.length ≤ 3000 := Nat.le_trans hX4.tx.len hs
    all_goals have HX4 := hide hX4
    all_goals have HG4 := hide ((hk4.block _ (lt_of_block HG3.out) (by simp; omega)).trans HG3.out)
    all_goals have HK4 := hide (HK3.out.trans hk4)
    all_goals clear hx1 HV0 hX4 hm HG3 HX3 HK3 hk4 d3
    all_goals
      have c5 : w4.cell? ⟨r, 0, none⟩ = some (.pointer (some ⟨b, 0, none⟩)) := HX4.out.cell
      have hpc := hide (txPassC 338 #[.pointer (some ⟨w.heap.size, 0, none⟩)] (notQ 39) enters338 b s l1 w4 hs HX4.out.tx (fun c w1 hk1 => value338 c 39 w.heap.size w1 (by simp) (cell_blk ((hk1.block _ (lt_of_block HG4.out) (by simp; omega)).trans HG4.out) 0)))
      have hst := fun l2 => strictAns_of (l1.takeWhile (notQ 39)) l2 (Nat.le_trans (List.takeWhile_sublist _).length_le hl1)
      have hsa := hide (fun w => strict_any ⟨(l1.takeWhile (notQ 39)).toArray⟩ w (by rw [str_size]; unfold maxLen; have := (List.takeWhile_sublist (notQ 39) (l := l1)).length_le; omega))
      rw [str_list] at hsa
      have hmu := hide (fun w1 (hX1 : Xr w1 r b s (l1.dropWhile (notQ 39))) => must255 r b s (l1.dropWhile (notQ 39)) [39] w1 hs hX1)
      generalize l1.takeWhile (notQ 39) = RAW at *
      generalize l1.dropWhile (notQ 39) = L1 at *
      generalize strictAns RAW = SA at *
      have HST := hide hst
      clear hst
      go_wp2_with fail
      refine hpc.out.mono ?_
      rintro e w5 ⟨rfl, hT5, hk5⟩
      have hX5 := hide (HX4.out.on hk5 hT5)
      have hg5 := (hk5.block _ (lt_of_block HG4.out) (by simp; omega)).trans HG4.out
      have d5 : w5.cell? ⟨w.heap.size, 0, none⟩ = some (.string ⟨#[39]⟩) := cell_blk hg5 0
      clear hT5 c5
      go_wp2_with fail
      refine (hmu.out _ hX5.out).mono ?_
      rintro e w6 ⟨hgv, hk6⟩
      rcases hgv with ⟨l2, hx2, rfl, hX6⟩ | ⟨k2, hx2, rfl⟩
      · have HX6 := hide hX6
        have hv := hide (HV.out.trans (by rw [hx2]) : valueX l = strictX RAW l2)
        clear hx2 hX6
        rcases HST.out l2 with ⟨h7, h8⟩ | ⟨h7, h8⟩
        · rw [h7] at hsa
          rw [h8] at hv
          clear h7 h8 HST
          go_wp2_with fail
          refine (hsa.out _).mono ?_
          rintro e w7 ⟨rfl, hk7⟩
          unfold two
          go_wp2_with fail
          refine (must68 _ _).mono ?_
          rintro e w8 ⟨rfl, h8⟩
          obtain rfl : w7 = w8 := h8.symm
          go_wp2_with fail
          go_ret
          rw [hv.out]
          exact ⟨.ok ⟨rfl, HX6.out.keeps0 hk7⟩, ((HK4.out.trans hk5).trans hk6).trans (hk7.to (by simp))⟩
        · rw [h7] at hsa
          rw [h8] at hv
          clear h7 h8 HST
          go_wp2_with fail
          refine (hsa.out _).mono ?_
          rintro e w7 ⟨rfl, hk7⟩
          unfold two
          go_wp2_with fail
          refine (must68_no _ 1 (by decide) _).mono ?_
          rintro e w8 ⟨rfl, h8⟩
          obtain rfl : w7 = w8 := h8.symm
          exact ⟨rfl, .inr ⟨1, hv.out, rfl⟩, ((HK4.out.trans hk5).trans hk6).trans (hk7.to (by simp))⟩
      · exact ⟨rfl, .inr ⟨k2, HV.out.trans (by rw [hx2]), rfl⟩, (HK4.out.trans hk5).trans hk6⟩
  · obtain ⟨l1, rfl⟩ : ∃ l1, l = 34 :: l1 := by
      obtain ⟨t, ht⟩ := List.isPrefixOf_iff_prefix.1 hq
      exact ⟨t, by rw [← ht]; rfl⟩
    have HV : Hid (valueX (34 :: l1) = match mustX [34] (l1.dropWhile (notQ 34)) with | .error e => .error e | .ok l2 => strictX (l1.takeWhile (notQ 34)) l2) := by
      unfold valueX quoteX
      rw [hq]
      rfl
    rw [hq] at hp
    simp only [if_true, List.length_singleton, List.drop_succ_cons, List.drop_zero] at hp
    have hl1 : l1.length ≤ 3000 := by simp at hll; omega
    clear hq
    generalize hl9 : (34 :: l1 : List UInt8) = l at *
    clear hl9
    go_enter Tryz.func325, Tryz.ntmps325
    go_upto_region 2 with fail
    rw [HW.out]
    go_region_law (refine step_call rfl 258 _ _ rfl enters258 #[.pointer (some ⟨b, 0, none⟩), .string ⟨#[34]⟩] (by first | (simp [Act.eval]; done) | (simp [Act.eval, Act.put]; done) | kernel_rfl) (hp.out _ (HXW.out.tx.keeps ((Keeps.refl [] W).drew) List.not_mem_nil)) ?_; rintro e w2 ⟨rfl, hT2, hk2⟩; refine ⟨_, rfl, ?_⟩)
    all_goals have hk2' : Keeps [b] W w2 := keeps_drew hk2
    all_goals have HX4 := hide (HXW.out.on hk2' hT2)
    all_goals have HG4 := hide ((hk2'.block _ (lt_of_block HG.out) (by simp; omega)).trans HG.out)
    all_goals have HK4 := hide ((HKW.out.to (T := [b]) (by simp)).trans hk2')
    all_goals clear hk2 hk2' hT2 HG HXW HKW hp
    all_goals
      have c5 : w2.cell? ⟨r, 0, none⟩ = some (.pointer (some ⟨b, 0, none⟩)) := HX4.out.cell
      have hpc := hide (txPassC 338 #[.pointer (some ⟨w.heap.size, 0, none⟩)] (notQ 34) enters338 b s l1 w2 hs HX4.out.tx (fun c w1 hk1 => value338 c 34 w.heap.size w1 (by simp) (cell_blk ((hk1.block _ (lt_of_block HG4.out) (by simp; omega)).trans HG4.out) 0)))
      have hst := fun l2 => strictAns_of (l1.takeWhile (notQ 34)) l2 (Nat.le_trans (List.takeWhile_sublist _).length_le hl1)
      have hsa := hide (fun w => strict_any ⟨(l1.takeWhile (notQ 34)).toArray⟩ w (by rw [str_size]; unfold maxLen; have := (List.takeWhile_sublist (notQ 34) (l := l1)).length_le; omega))
      rw [str_list] at hsa
      have hmu := hide (fun w1 (hX1 : Xr w1 r b s (l1.dropWhile (notQ 34))) => must255 r b s (l1.dropWhile (notQ 34)) [34] w1 hs hX1)
      generalize l1.takeWhile (notQ 34) = RAW at *
      generalize l1.dropWhile (notQ 34) = L1 at *
      generalize strictAns RAW = SA at *
      have HST := hide hst
      clear hst
      go_wp2_with fail
      refine hpc.out.mono ?_
      rintro e w5 ⟨rfl, hT5, hk5⟩
      have hX5 := hide (HX4.out.on hk5 hT5)
      have hg5 := (hk5.block _ (lt_of_block HG4.out) (by simp; omega)).trans HG4.out
      have d5 : w5.cell? ⟨w.heap.size, 0, none⟩ = some (.string ⟨#[34]⟩) := cell_blk hg5 0
      clear hT5 c5
      go_wp2_with fail
      refine (hmu.out _ hX5.out).mono ?_
      rintro e w6 ⟨hgv, hk6⟩
      rcases hgv with ⟨l2, hx2, rfl, hX6⟩ | ⟨k2, hx2, rfl⟩
      · have HX6 := hide hX6
        have hv := hide (HV.out.trans (by rw [hx2]) : valueX l = strictX RAW l2)
        clear hx2 hX6
        rcases HST.out l2 with ⟨h7, h8⟩ | ⟨h7, h8⟩
        · rw [h7] at hsa
          rw [h8] at hv
          clear h7 h8 HST
          go_wp2_with fail
          refine (hsa.out _).mono ?_
          rintro e w7 ⟨rfl, hk7⟩
          unfold two
          go_wp2_with fail
          refine (must68 _ _).mono ?_
          rintro e w8 ⟨rfl, h8⟩
          obtain rfl : w7 = w8 := h8.symm
          go_wp2_with fail
          go_ret
          rw [hv.out]
          exact ⟨.ok ⟨rfl, HX6.out.keeps0 hk7⟩, ((HK4.out.trans hk5).trans hk6).trans (hk7.to (by simp))⟩
        · rw [h7] at hsa
          rw [h8] at hv
          clear h7 h8 HST
          go_wp2_with fail
          refine (hsa.out _).mono ?_
          rintro e w7 ⟨rfl, hk7⟩
          unfold two
          go_wp2_with fail
          refine (must68_no _ 1 (by decide) _).mono ?_
          rintro e w8 ⟨rfl, h8⟩
          obtain rfl : w7 = w8 := h8.symm
          exact ⟨rfl, .inr ⟨1, hv.out, rfl⟩, ((HK4.out.trans hk5).trans hk6).trans (hk7.to (by simp))⟩
      · exact ⟨rfl, .inr ⟨k2, HV.out.trans (by rw [hx2]), rfl⟩, (HK4.out.trans hk5).trans hk6⟩
end Go.Proofs.YtlcljanibjdejaaGreat
namespace Go.Proofs.YtlcljanibjdejaaGreat
open Go.RowKit Go.Maps
set_option maxRecDepth 4000 in
set_option maxHeartbeats 4000000 in
theorem attr302 (r b : Nat) (s : ByteArray) (l : List UInt8) (w : World) (hs : s.size ≤ 3000) (h : Xr w r b s l) :
    Calls Tryz.prog 302 #[.pointer (some ⟨r, 0, none⟩)] w fun e w' => Gives (attrX l) (fun p e w' => e = .returned (.agg #[.string ⟨p.1.1.toArray⟩, .string ⟨p.1.2.toArray⟩]) ∧ Xr w' r b s p.2) e w' ∧ Keeps [b] w w' := by
  have hX := hide h
  have hbl := h.tx.lt
  obtain ⟨W, hW⟩ : ∃ W, w.alloc (.cells #[.string ⟨#[]⟩, .string ⟨#[]⟩] 52) = W := ⟨_, rfl⟩
  have hkW : Keeps [] w W := by rw [← hW]; exact (Keeps.refl [] w).alloc _
  have hb0 : W.heap[w.heap.size]? = some (.cells #[.string ⟨#[]⟩, .string ⟨#[]⟩] 52 (0, 0)) := by rw [← hW]; exact heap_alloc_new w _
  have hres : ∀ (tmps : Array Value) (w3 : World) (x y : List UInt8), tmps.getD 2 undef = .pointer (some ⟨w.heap.size, 0, none⟩) → w3.heap[w.heap.size]? = some (.cells #[.string ⟨x.toArray⟩, .string ⟨y.toArray⟩] 52 (0, 0)) → (results Tryz.f302 tmps).run Tryz.prog w3 = .ok (.agg #[.string ⟨x.toArray⟩, .string ⟨y.toArray⟩]) w3 := fun tmps w3 x y hp hg => results_cell_row (P := Tryz.prog) rfl tmps w3 _ 52 _ (0, 0) _ hp hg Tryz.underlying52 rfl (by kernel_rfl)
  have ht := hide (title256 r b s l W hs (hX.out.keeps0 hkW))
  have hwh := hide (fun (L : List UInt8) (w1 : World) (hX : Xr w1 r b s L) => white253 r b s L w1 hs hX)
  have hmu := hide (fun (L : List UInt8) (w1 : World) (hX : Xr w1 r b s L) => must255 r b s L [61] w1 hs hX)
  have hva := hide (fun (L : List UInt8) (w1 : World) (hX : Xr w1 r b s L) => value325 r b s L w1 hs hX)
  have HB0 := hide hb0
  have HKW := hide hkW
  have HW := hide hW
  have HV : Hid (attrX l = match titleX l with | .error e => .error e | .ok (n, l1) => match mustX [61] (l1.dropWhile whiteX) with | .error e => .error e | .ok l2 => match valueX (l2.dropWhile whiteX) with | .error e => .error e | .ok (v, l3) => .ok ((n, v), l3)) := rfl
  clear h hX hkW hW hb0
  go_enter Tryz.func302, Tryz.ntmps302
  go_upto_region 1 with fail
  rw [HW.out]
  go_wp2_with fail
  refine ht.out.mono ?_
  rintro e w1 ⟨hg1, hk1⟩
  rcases hg1 with ⟨⟨n, l1⟩, hx1, rfl, hX1⟩ | ⟨k1, hx1, rfl⟩
  case inr => exact ⟨rfl, .inr ⟨k1, HV.out.trans (by rw [hx1]), rfl⟩, (HKW.out.to (by simp)).trans hk1⟩
  have HX1 := hide hX1
  have HE1 := hide hx1
  have HK1 := hide hk1
  clear hX1 hx1 hk1
  simp only at HX1
  go_wp2_with fail
  refine (hwh.out l1 _ HX1.out).mono ?_
  rintro e w2 ⟨rfl, hX2, hk2⟩
  have HX2 := hide hX2
  have HK2 := hide (HK1.out.trans hk2)
  clear hX2 hk2
  go_wp2_with fail
  refine (hmu.out _ _ HX2.out).mono ?_
  rintro e w3 ⟨hg3, hk3⟩
  rcases hg3 with ⟨l2, hx3, rfl, hX3⟩ | ⟨k3, hx3, rfl⟩
  case inr => exact ⟨rfl, .inr ⟨k3, HV.out.trans (by rw [HE1.out]; simp only [hx3]), rfl⟩, ((HKW.out.to (by simp)).trans HK2.out).trans hk3⟩
  have HX3 := hide hX3
  have HE3 := hide hx3
  have HK3 := hide (HK2.out.trans hk3)
  clear hX3 hx3 hk3
  go_wp2_with fail
  refine (hwh.out l2 _ HX3.out).mono ?_
  rintro e w4 ⟨rfl, hX4, hk4⟩
  have HX4 := hide hX4
  have HK4 := hide (HK3.out.trans hk4)
  clear hX4 hk4
  go_wp2_with fail
  refine (hva.out _ _ HX4.out).mono ?_
  rintro e w5 ⟨hg5, hk5⟩
  rcases hg5 with ⟨⟨v, l3⟩, hx5, rfl, hX5⟩ | ⟨k5, hx5, rfl⟩
  case inr => exact ⟨rfl, .inr ⟨k5, HV.out.trans (by rw [HE1.out]; simp only [HE3.out, hx5]), rfl⟩, ((HKW.out.to (by simp)).trans HK4.out).trans hk5⟩
  have HX5 := hide hX5
  have HE5 := hide hx5
  have HK5 := hide (HK4.out.trans hk5)
  have hb5 := (HK5.out.block _ (lt_of_block HB0.out) (by simp; omega)).trans HB0.out
  have d0 : w5.cell? ⟨w.heap.size, 0, none⟩ = some (.string ⟨#[]⟩) := cell_blk hb5 0
  have d1 : w5.cell? ⟨w.heap.size, 1, none⟩ = some (.string ⟨#[]⟩) := cell_blk hb5 1
  have f0 : w5.frozen? ⟨w.heap.size, 0, none⟩ = false := free_blk hb5 0
  have f1 : w5.frozen? ⟨w.heap.size, 1, none⟩ = false := free_blk hb5 1
  clear hX5 hx5 hk5
  simp only at HX5
  go_wp2_with fail
  have hks : Keeps [w.heap.size] w5 ((w5.setCell ⟨w.heap.size, 0, none⟩ (.string ⟨n.toArray⟩)).setCell ⟨w.heap.size, 1, none⟩ (.string ⟨v.toArray⟩)) := ((Keeps.refl [w.heap.size] w5).setCell (.inl (by simp)) _).setCell (.inl (by simp)) _
  exact ⟨rfl, _, hres _ _ n v rfl (pair_set01 hb5 _ _), .inl ⟨((n, v), l3), HV.out.trans (by rw [HE1.out]; simp only [HE3.out, HE5.out]), rfl, HX5.out.keeps hks (by have := HX5.out.lt; simp; intro h9; have := HX5.out.rd; rw [h9, hb5] at this; simp at this) (by simp; omega)⟩, keeps_on ((HKW.out.to (by simp)).trans HK5.out) hks (fun g hg hlt => by simp at hg; omega)⟩
def idxP (f : Pair → Bool) : List Pair → Nat → Int
  | [], _ => -1
  | p :: r, k => if f p = true then (k : Int) else idxP f r (k + 1)
theorem idx_any (f : Pair → Bool) : ∀ (l : List Pair) (k : Nat), decide (0 ≤ idxP f l k) = l.any f
  | [], k => by simp [idxP]
  | p :: r, k => by
    rw [idxP]
    have := idx_any f r (k + 1)
    rw [List.any_cons]
    cases h : f p
    · simpa using this
    · simp
set_option maxRecDepth 4000 in
set_option maxHeartbeats 4000000 in
theorem indexP_any (K : Nat) (caps : Array Value) (f : Pair → Bool) (hE0 : Enters K) (w : World) (v : Value) (l : List Pair) (hv : Lies w v l.length 2 (pairCells l))
    (hf : ∀ (p : Pair) (w1 : World), Keeps [] w w1 → Calls Tryz.prog K (#[.agg #[.string ⟨p.1.toArray⟩, .string ⟨p.2.toArray⟩]] ++ caps) w1 fun e w' => e = .returned (.bool (f p)) ∧ Keeps [] w1 w') :
    Calls Tryz.prog 245 #[v, .func (.func K) #[] caps] w fun e w' => e = .returned (.int .i64 (idxP f l 0)) ∧ Keeps [] w w' := by
  have hE := hE0
  unfold Enters at hE
  obtain ⟨o, c, rfl, h1, h2⟩ := hv.form
  obtain ⟨R, hR⟩ : ∃ R, idxP f l 0 = R := ⟨_, rfl⟩
  rw [hR]
  have HR := hide hR
  have HF := hide hf
  clear hR hf
  unfold maxLen at h2
  go_enter Tryz.func245, Tryz.ntmps245
  go_wp2_with fail
  go_loopw [8] (fun i wr => ∃ k : Nat, k ≤ l.length ∧ i = .int .i64 k ∧ Keeps [] w wr ∧ Hid (idxP f (l.drop k) k = R)) (fun i _ => l.length - (intOf i).toNat)
  case atStart => exact ⟨0, Nat.zero_le _, rfl, Keeps.refl _ _, HR⟩
  case round =>
    obtain ⟨k, hk, rfl, hkw, hC⟩ := hrel
    clear HR
    by_cases hlt : k < l.length
    · obtain ⟨g, x, rfl, hc⟩ := (hv.keeps hkw).addr (by omega)
      have a0 := hc _ _ (pair_at0 l k hlt)
      have a1 := hc _ _ (pair_at1 l k hlt)
      rw [← Nat.add_assoc] at a1
      have hC1 := hC.out
      rw [List.drop_eq_getElem_cons hlt, idxP] at hC1
      have HC1 := hide hC1
      clear hC hC1 hc
      generalize l[k] = p at *
      obtain ⟨n, v⟩ := p
      simp only at a0 a1
      have hs := hide (HF.out (n, v) wr hkw)
      cases hb : f (n, v)
      · rw [hb] at hs
        go_wp2_with fail
        refine hs.out.mono ?_
        rintro e w1 ⟨rfl, hk1⟩
        clear a0 a1
        go_wp2_with fail
        go_roundw
        case rel => exact ⟨k + 1, by omega, by go_num, hkw.trans hk1, by have h9 := HC1.out; simp only [hb] at h9; exact hide (by simpa using h9)⟩
        case measure => simp [intOf]; omega
      · rw [hb] at hs
        go_wp2_with fail
        refine hs.out.mono ?_
        rintro e w1 ⟨rfl, hk1⟩
        clear a0 a1
        go_wp2_with fail
        go_ret
        refine ⟨?_, hkw.trans hk1⟩
        have h9 := HC1.out
        simp only [hb, if_true] at h9
        rw [← h9]
        rfl
    · have hRR : R = -1 := by
        rw [← hC.out, List.drop_eq_nil_of_le (by omega)]
        rfl
      subst hRR
      go_wp2_with fail
      go_ret
      exact ⟨rfl, hkw⟩
set_option maxHeartbeats 1000000 in
theorem containsP_any (K : Nat) (caps : Array Value) (f : Pair → Bool) (hE0 : Enters K) (w : World) (v : Value) (l : List Pair) (hv : Lies w v l.length 2 (pairCells l))
    (hf : ∀ (p : Pair) (w1 : World), Keeps [] w w1 → Calls Tryz.prog K (#[.agg #[.string ⟨p.1.toArray⟩, .string ⟨p.2.toArray⟩]] ++ caps) w1 fun e w' => e = .returned (.bool (f p)) ∧ Keeps [] w1 w') :
    Calls Tryz.prog 174 #[v, .func (.func K) #[] caps] w fun e w' => e = .returned (.bool (l.any f)) ∧ Keeps [] w w' := by
  have hs := hide (indexP_any K caps f hE0 w v l hv hf)
  obtain ⟨o, c, rfl, h1, h2⟩ := hv.form
  rw [← idx_any f l 0]
  generalize idxP f l 0 = R at *
  clear hv hf
  cases hd : decide (0 ≤ R)
  all_goals
    go_enter Tryz.func174, Tryz.ntmps174
    go_wp2_with fail
    refine hs.out.mono ?_
    rintro e w1 ⟨rfl, hk1⟩
    go_wp2_with fail
    go_ret
    exact ⟨rfl, hk1⟩
set_option maxHeartbeats 1000000 in
theorem same303 (p : Pair) (m x : List UInt8) (g : Nat) (w : World) (hg : w.heap[g]? = some (.cells #[.string ⟨m.toArray⟩, .string ⟨x.toArray⟩] 52 (0, 0))) :
    Calls Tryz.prog 303 #[.agg #[.string ⟨p.1.toArray⟩, .string ⟨p.2.toArray⟩], .pointer (some ⟨g, 0, none⟩)] w fun e w' => e = .returned (.bool (p.1 == m)) ∧ Keeps [] w w' := by
  have hk : Keeps [] w (w.alloc (.cells #[.string ⟨p.1.toArray⟩, .string ⟨p.2.toArray⟩] 52)) := (Keeps.refl [] w).alloc _
  have c0 : ∀ o, (w.alloc o).cell? ⟨g, 0, none⟩ = some (.string ⟨m.toArray⟩) := fun o => (cell_past (a := ⟨g, 0, none⟩) (lt_of_block hg) o).trans (cell_blk hg 0)
  have hse : ((⟨p.1.toArray⟩ : ByteArray).toList == (⟨m.toArray⟩ : ByteArray).toList) = (p.1 == m) := by rw [strEq, Bool.eq_iff_iff]; simp
  generalize p.1 = n at *
  cases hb : (n == m)
  · have hbe : decide (n = m) = false := by simpa using hb
    rw [hb] at hse
    go_enter Tryz.func303, Tryz.ntmps303
    go_wp2_with fail
    go_ret
    exact ⟨ret_bool (by simp [*]), hk⟩
  · have hbe : decide (n = m) = true := by simpa using hb
    rw [hb] at hse
    go_enter Tryz.func303, Tryz.ntmps303
    go_wp2_with fail
    go_ret
    exact ⟨ret_bool (by simp [*]), hk⟩
theorem enters303 : Enters 303 := enters_of Tryz.func303 (by kernel_rfl) (by kernel_rfl)
end Go.Proofs.YtlcljanibjdejaaGreat
namespace Go.Proofs.YtlcljanibjdejaaGreat
open Go.RowKit Go.Maps
/-- How much of the text is left. -/
def left (b : Nat) (s : ByteArray) (w : World) : Nat := s.size - (intOf ((w.cell? ⟨b, 1, none⟩).getD undef)).toNat
theorem Tx.left {w : World} {b : Nat} {s : ByteArray} {l : List UInt8} (h : Tx w b s l) : left b s w = l.length := by
  obtain ⟨k, h1, rfl, h3⟩ := h
  unfold Go.Proofs.YtlcljanibjdejaaGreat.left
  rw [h3.cell1]
  simp [intOf]
set_option maxHeartbeats 400000 in
theorem txAhead (b : Nat) (s : ByteArray) (l : List UInt8) (w : World) (hs : s.size ≤ 3000) (h : Tx w b s l) :
    Calls Tryz.prog 228 #[.pointer (some ⟨b, 0, none⟩), .int .i64 0, .func (.func 298) #[] #[]] w fun e w' => e = .returned (.bool (headX begX l)) ∧ ∃ n, w' = w.drewN n := by
  obtain ⟨k, hk, rfl, hT⟩ := h
  have c0 := hT.cell0
  have c1 := hT.cell1
  by_cases h : k < s.size
  · have hd : decide ((0 : Int) < (s.size : Int) - (k : Int)) = true := by simp; omega
    have hlt : (0 : Int) < (s.size : Int) - (k : Int) := by omega
    have hlt2 : (k : Int) + (0 : Int) < (s.size : Int) := by omega
    have hlt3 : (k : Int) < (s.size : Int) := by omega
    have hh : headX begX (s.data.toList.drop k) = begX s[k] := by rw [drop_byteAt s k h, byteAt_eq s k h]; rfl
    rw [hh]
    have hl := hide (fun w => begX_any s[k] w)
    generalize begX s[k] = r at *
    clear hh
    go_enter Tryz.func228, Tryz.ntmps228
    go_wp2_with fail
    go_quiet ((go_at_call 298; exact Calls.quiet_of_same (hl.out _)))
    go_wp2
    go_ret
    exact ⟨by simp, _, rfl⟩
  · have hd : decide ((0 : Int) < (s.size : Int) - (k : Int)) = false := by simp; omega
    have hh : headX begX (s.data.toList.drop k) = false := by rw [List.drop_eq_nil_of_le (by rw [len_size]; omega)]; rfl
    rw [hh]
    go_enter Tryz.func228, Tryz.ntmps228
    go_wp2_with fail
    go_quiet (fail)
    go_wp2
    go_ret
    exact ⟨rfl, _, rfl⟩
/-- What attrs comes to. -/
def AttrsOut (w : World) (r b : Nat) (s : ByteArray) (p : List Pair × List UInt8) (e : Ending) (w' : World) : Prop :=
  ∃ o c, e = .returned (.slice o p.1.length c) ∧ w'.ownsRow w.heap.size 52 2 (.slice o p.1.length c) p.1.length (pairCells p.1) ∧ Xr w' r b s p.2
set_option maxRecDepth 4000 in
set_option maxHeartbeats 8000000 in
theorem attrs257 (r b : Nat) (s : ByteArray) (l : List UInt8) (w : World) (hs : s.size ≤ 3000) (h : Xr w r b s l) :
    Calls Tryz.prog 257 #[.pointer (some ⟨r, 0, none⟩)] w fun e w' => Gives (attrsX (l.length + 1) [] l) (AttrsOut w r b s) e w' ∧ Keeps [b] w w' := by
  obtain ⟨i0, hi, hz0, hz1, hz2⟩ := info_parts info88
  have hX := hide h
  have hbl := h.tx.lt
  have hll : l.length ≤ 3000 := Nat.le_trans h.tx.len hs
  have hmf : ∀ (fn : Fn) (first cap : Array Value) (w : World), (Instr.makeFunc fn first cap).run Tryz.prog w = .ok (.func fn first cap) w := fun _ _ _ _ => rfl
  have hE9 := enters303
  unfold Enters at hE9
  obtain ⟨R, hR⟩ : ∃ R, attrsX (l.length + 1) [] l = R := ⟨_, rfl⟩
  rw [hR]
  have HR := hide hR
  clear hR h
  go_enter Tryz.func257, Tryz.ntmps257
  go_wp2_with fail
  go_loopw [3] (fun lv wr => ∃ (met : List Pair) (l' : List UInt8) (o : Option Addr) (c f : Nat), lv = .slice o met.length c ∧ Hid (wr.ownsRow w.heap.size 52 2 (.slice o met.length c) met.length (pairCells met)) ∧ Hid (Xr wr r b s l') ∧ Hid (Keeps [b] w wr) ∧ met.length + l'.length ≤ 3000 ∧ l'.length < f ∧ Hid (attrsX f met l' = R)) (fun _ wr => left b s wr)
  case atStart => exact ⟨[], l, none, 0, l.length + 1, rfl, World.ownsRow_nil _ _ _ _, hX.out, Keeps.refl _ _, by simpa using hll, by omega, HR.out⟩
  case round =>
    obtain ⟨met, l', o, c, f, rfl, hrow, hXr, hkr, hml, hf, hC⟩ := hrel
    obtain ⟨wo, hwo⟩ : ∃ wo, wo = wr := ⟨_, rfl⟩
    subst hwo
    clear HR hX
    cases f with
    | zero => omega
    | succ f =>
      have hleft := hide hXr.out.tx.left
      have hC1 := hC.out
      rw [attrsX] at hC1
      have hwh := hide (white253 r b s l' wo hs hXr.out)
      have hdl := drop_le whiteX l'
      cases hw0 : headX whiteX l'
      · rw [hw0] at hC1 hwh
        simp only [Bool.false_and, Bool.false_eq_true, if_false] at hC1
        have HC := hide hC1
        clear hC1 hC hw0
        go_wp2_with fail
        refine hwh.out.mono ?_
        rintro e w1 ⟨rfl, hX1, hk1⟩
        have hr1 := hide (hk1.owns hrow.out (fun g hg hm => by simp at hm; subst hm; have := (hrow.out.lt _ hg).1; omega))
        go_wp2_with fail
        go_ret
        rw [← HC.out]
        exact ⟨.ok ⟨o, c, rfl, hr1.out, hX1⟩, hkr.out.trans hk1⟩
      · rw [hw0] at hC1 hwh
        simp only [Bool.true_and] at hC1
        have hah := hide (fun w1 (hX1 : Xr w1 r b s (l'.dropWhile whiteX)) => txAhead b s (l'.dropWhile whiteX) w1 hs hX1.tx)
        have hpos : (l'.dropWhile whiteX).length < l'.length := by
          cases l' with
          | nil => simp [headX] at hw0
          | cons x l' =>
            simp only [headX] at hw0
            rw [List.dropWhile_cons, if_pos hw0]
            have := drop_le whiteX l'
            simp only [List.length_cons]
            omega
        generalize l'.dropWhile whiteX = L at *
        clear hC hw0
        cases hb0 : headX begX L
        · rw [hb0] at hC1 hah
          simp only [Bool.false_eq_true, if_false] at hC1
          have HC := hide hC1
          clear hC1 hb0
          go_wp2_with fail
          refine hwh.out.mono ?_
          rintro e w1 ⟨rfl, hX1, hk1⟩
          have hr1 := hide (hk1.owns hrow.out (fun g hg hm => by simp at hm; subst hm; have := (hrow.out.lt _ hg).1; omega))
          have HX1 := hide hX1
          have c1 := hX1.cell
          have hah1 := hide (hah.out w1 hX1)
          have HK1 := hide (hkr.out.trans hk1)
          clear hX1 hk1
          go_wp2_with fail
          refine hah1.out.mono ?_
          rintro e w2 ⟨rfl, n2, rfl⟩
          go_wp2_with fail
          go_ret
          rw [← HC.out]
          exact ⟨.ok ⟨o, c, rfl, ((Keeps.refl [] w1).drewN n2).owns hr1.out (fun _ _ => List.not_mem_nil), HX1.out.keeps0 ((Keeps.refl [] w1).drewN n2)⟩, HK1.out.drewN _⟩
        · rw [hb0] at hC1 hah
          simp only [if_true] at hC1
          have HC := hide hC1
          have hat := hide (fun w1 (hX1 : Xr w1 r b s L) => attr302 r b s L w1 hs hX1)
          clear hC1 hb0
          go_wp2_with fail
          refine hwh.out.mono ?_
          rintro e w1 ⟨rfl, hX1, hk1⟩
          have hr1 := hide (hk1.owns hrow.out (fun g hg hm => by simp at hm; subst hm; have := (hrow.out.lt _ hg).1; omega))
          have HX1 := hide hX1
          have c1 := hX1.cell
          have hah1 := hide (hah.out w1 hX1)
          have HK1 := hide (hkr.out.trans hk1)
          clear hX1 hk1
          go_wp2_with fail
          refine hah1.out.mono ?_
          rintro e w2 ⟨rfl, n2, rfl⟩
          have HX2 := hide (HX1.out.keeps0 ((Keeps.refl [] w1).drewN n2))
          have hr2 := hide (((Keeps.refl [] w1).drewN n2).owns hr1.out (fun _ _ => List.not_mem_nil))
          have HK2 := hide (HK1.out.drewN n2)
          generalize w1.drewN n2 = w2 at *
          clear c1
          go_wp2_with fail
          refine (hat.out _ HX2.out).mono ?_
          rintro e w3 ⟨hg3, hk3⟩
          rcases hg3 with ⟨⟨⟨n, v⟩, l2⟩, hx3, rfl, hX3⟩ | ⟨k3, hx3, rfl⟩
          case inr =>
            refine ⟨rfl, .inr ⟨k3, ?_, rfl⟩, HK2.out.trans hk3⟩
            rw [← HC.out, hx3]
          have hl2 := (attrX_ok hx3).2
          have HE3 := hide hx3
          simp only at hX3 hl2
          have hr3 := hide (hk3.owns hr2.out (fun g hg hm => by simp at hm; subst hm; have := (hr2.out.lt _ hg).1; omega))
          have hbx := heap_alloc_new w3 (.cells #[.string ⟨n.toArray⟩, .string ⟨v.toArray⟩] 52)
          have hka : Keeps [] w3 (w3.alloc (.cells #[.string ⟨n.toArray⟩, .string ⟨v.toArray⟩] 52)) := (Keeps.refl [] w3).alloc _
          have HX4 := hide (hX3.keeps0 hka)
          have hr4 := hide (hka.owns hr3.out (fun _ _ => List.not_mem_nil))
          have HK4 := hide ((HK2.out.trans hk3).trans (hka.to (by simp)))
          have hlt3 : w3.heap.size < (w3.alloc (.cells #[.string ⟨n.toArray⟩, .string ⟨v.toArray⟩] 52)).heap.size := lt_of_block hbx
          have hBw : w.heap.size ≤ w3.heap.size := (HK2.out.trans hk3).size
          clear hX3 hx3 hk3 hka
          obtain ⟨W4, hW4⟩ : ∃ W4, w3.alloc (.cells #[.string ⟨n.toArray⟩, .string ⟨v.toArray⟩] 52) = W4 := ⟨_, rfl⟩
          rw [hW4] at hbx HX4 hr4 HK4 hlt3
          have HW4 := hide hW4
          have hcn := hide (containsP_any 303 #[.pointer (some ⟨w3.heap.size, 0, none⟩)] (fun p => p.1 == n) enters303 W4 _ met (Lies.of_row hr4.out) (fun p w1 hk1 => same303 p n v w3.heap.size w1 ((hk1.block _ (lt_of_block hbx) List.not_mem_nil).trans hbx)))
          have HBX := hide hbx
          clear hW4 hbx
          cases hany : met.any (fun p => p.1 == n)
          · rw [hany] at hcn
            go_upto_region 4 with fail
            rw [HW4.out]
            go_wp2_with fail
            refine hcn.out.mono ?_
            rintro e w5 ⟨rfl, hk5⟩
            have hb5 := (hk5.block _ (lt_of_block HBX.out) List.not_mem_nil).trans HBX.out
            have x0 : w5.cell? ⟨w3.heap.size, 0, none⟩ = some (.string ⟨n.toArray⟩) := cell_blk hb5 0
            have x1 : w5.cell? ⟨w3.heap.size, 1, none⟩ = some (.string ⟨v.toArray⟩) := cell_blk hb5 1
            have hr5 := hide (hk5.owns hr4.out (fun _ _ => List.not_mem_nil))
            have HX5 := hide (HX4.out.keeps0 hk5)
            have HK5 := hide (HK4.out.trans (hk5.to (by simp)))
            have hB5 : w.heap.size ≤ w5.heap.size := HK5.out.size
            clear hk5 hb5
            go_wp2_with (at_builtin; refine wpList_append_own_at9 _ rfl _ _ 43 rfl w.heap.size 52 i0 _ 2 32 Tryz.underlying43 hi hz0 hz1 hz2 (by kernel_rfl) (by decide) (.slice o met.length c) met.length (pairCells met) rfl (hr5.out.alloc _) ⟨w5.heap.size, 0, none⟩ 1 1 [.string ⟨n.toArray⟩, .string ⟨v.toArray⟩] rfl rfl (lit_cells w5 _ 52) ?c2 ?c3 ?c4 ?c5 ?_)
            case c2 => first | (intro u hu; simp at hu; rcases hu with rfl | rfl <;> rfl) | exact ⟨rfl, rfl⟩
            case c3 => unfold maxLen; omega
            case c4 => omega
            case c5 => first | omega | (simp; omega)
            intro v6 w6 ho6 hg6 hw6
            obtain ⟨o6, c6, hv6⟩ := row_form ho6
            subst hv6
            have hk6 : Keeps ((.slice o met.length c) : Value).ownBlock.toList w5 w6 := ((Keeps.refl _ w5).alloc _).grown hg6 (fun i e => .inl (by simp [e]))
            have hbr : ∀ g, g ∈ ((.slice o met.length c) : Value).ownBlock.toList → w.heap.size ≤ g := fun g hg => (hr5.out.lt g (by simpa using hg)).1
            have HK6 := hide (keeps_on HK5.out hk6 (fun g hg hlt => by have := hbr g hg; omega))
            have HX6 := hide (HX5.out.keeps hk6 (fun hm => by have := hbr _ hm; have h7 := block_ne hr5.out HX5.out.rd (by decide); exact h7 (by simpa using hm)) (fun hm => by have := hbr _ hm; omega))
            have ec : pairCells (met ++ [(n, v)]) = pairCells met ++ [.string ⟨n.toArray⟩, .string ⟨v.toArray⟩] := by simp [pairCells]
            rw [← ec] at ho6
            have HO6 := hide ho6
            have HN : Hid (attrsX f (met ++ [(n, v)]) l2 = R) := by
              have h9 := HC.out
              rw [HE3.out] at h9
              simp only [hany, Bool.false_eq_true, if_false] at h9
              exact h9
            have hmeas : left b s w6 < left b s wo := by
              rw [HX6.out.tx.left, hleft.out]
              omega
            have HMS := hide hmeas
            have hwl : w6.ownsRow w.heap.size 52 2 (.slice o6 (met.length + 1) c6) (met.length + 1) (pairCells (met ++ [(n, v)])) := HO6.out
            have HWL := hide hwl
            clear hk6 hg6 hw6 ho6 hmeas hwl hany
            go_wp2_with fail
            refine ⟨⟨met ++ [(n, v)], l2, o6, c6, f, by simp, by rw [List.length_append]; exact HWL.out, HX6.out, HK6.out, by simp; omega, by omega, HN.out⟩, HMS.out⟩
          · rw [hany] at hcn
            go_upto_region 4 with fail
            rw [HW4.out]
            go_wp2_with fail
            refine hcn.out.mono ?_
            rintro e w5 ⟨rfl, hk5⟩
            go_wp2_with fail
            refine (with_any _ _).mono ?_
            rintro e w6 ⟨rfl, rfl⟩
            refine ⟨rfl, .inr ⟨6, ?_, rfl⟩, HK4.out.trans (hk5.to (by simp))⟩
            have h9 := HC.out
            rw [HE3.out] at h9
            simp only [hany, if_true] at h9
            exact h9.symm
end Go.Proofs.YtlcljanibjdejaaGreat
