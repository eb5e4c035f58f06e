/- printOpen and Print, of tokens of bulk up to a million. Html of package clean. cleanBegun: what must be in any case. cleanBegun: what must be in any case. textIn. -/
import Derived.Test.YtlcljanibjdejaaGreatPk29
import Derived.Test.YtlcljanibjdejaaGreatPk20
import Derived.Test.YtlcljanibjdejaaGreatPk30
import Derived.Test.YtlcljanibjdejaaGreatPk28
import Derived.Test.YtlcljanibjdejaaGreatPk18
namespace Go.Proofs.YtlcljanibjdejaaGreat
open Go.RowKit Go.Maps


theorem bulkP_mem {l : List Pair} {p : Pair} (h : p ∈ l) : p.1.length + p.2.length + 2 ≤ bulkP l := by
  induction l with
  | nil => simp at h
  | cons a l ih =>
    have e : bulkP (a :: l) = (a.1.length + a.2.length + 2) + bulkP l := by simp [bulkP]
    rcases List.mem_cons.1 h with rfl | h
    · omega
    · have := ih h; omega
theorem bulkP_len1 (l : List Pair) : l.length ≤ bulkP l := by
  induction l with
  | nil => simp
  | cons a l ih =>
    have e : bulkP (a :: l) = (a.1.length + a.2.length + 2) + bulkP l := by simp [bulkP]
    simp only [List.length_cons]; omega
theorem pairP_le8 (p : Pair) : (pairP p).length ≤ 8 * (p.1.length + p.2.length + 2) := by
  have := putL_le p.2
  simp [pairP]
  omega
theorem pairsP_le8 (l : List Pair) (k : Nat) : (pairsP (l.take k)).length ≤ 8 * bulkP l := by
  induction l generalizing k with
  | nil => simp [pairsP]
  | cons a l ih =>
    cases k with
    | zero => simp [pairsP]
    | succ k =>
      have e : bulkP (a :: l) = (a.1.length + a.2.length + 2) + bulkP l := by simp [bulkP]
      have e2 : pairsP ((a :: l).take (k + 1)) = pairP a ++ pairsP (l.take k) := by simp [pairsP]
      have h1 := pairP_le8 a
      have h2 := ih k
      rw [e2, List.length_append]
      omega
theorem tokP_le8 (t : Tok) : (tokP t).length ≤ 8 * bulkT t := by
  have h1 := pairsP_le8 t.attrs t.attrs.length
  rw [List.take_length] at h1
  have h2 := putL_le t.text
  unfold tokP bulkT
  split
  · omega
  · split
    · simp [openP]; omega
    · simp; omega
theorem toksP_le8 (l : List (Tok × Value)) (k : Nat) : (toksP ((l.take k).map (·.1))).length ≤ 8 * bulkL (l.map (·.1)) := by
  induction l generalizing k with
  | nil => simp [toksP]
  | cons a l ih =>
    cases k with
    | zero => simp [toksP]
    | succ k =>
      have e : bulkL ((a :: l).map (·.1)) = bulkT a.1 + bulkL (l.map (·.1)) := by simp [bulkL]
      have e2 : toksP (((a :: l).take (k + 1)).map (·.1)) = tokP a.1 ++ toksP ((l.take k).map (·.1)) := by simp [toksP]
      have h1 := tokP_le8 a.1
      have h2 := ih k
      rw [e2, List.length_append]
      omega

set_option maxRecDepth 4000 in
set_option maxHeartbeats 4000000 in
theorem printOpen_all (w0 : World) (B b : Nat) (l : List UInt8) (kd : Int) (nm tx : List UInt8) (la : List Pair) (v : Value) (hv : Lies w0 v la.length 2 (pairCells la)) (w : World) (hw0 : Keeps [] w0 w) (hB0 : w0.heap.size ≤ B) (h : IsBld B b l w) (hBw : B ≤ w.heap.size)
    (hnm : nm.length ≤ 38000000) (hf : bulkP la ≤ 38000000) (hl : l.length ≤ 304000000) :
    Calls Tryz.prog 143 #[.pointer (some ⟨b, 0, none⟩), .agg #[.int .i64 kd, .string ⟨nm.toArray⟩, v, .string ⟨tx.toArray⟩]] w fun e w' => e = .returned (.tuple #[]) ∧ IsBld B b (l ++ openP ⟨kd, nm, la, tx⟩) w' ∧ KeepsB B b w w' := by
  have hla := bulkP_len1 la
  obtain ⟨o, c, rfl, h1, h2⟩ := hv.form
  unfold maxLen at h2
  have ha : Keeps [] w (w.alloc (.cells #[.int .i64 kd, .string ⟨nm.toArray⟩, .slice o la.length c, .string ⟨tx.toArray⟩] 117)) := (Keeps.refl [] w).alloc _
  have hbx : IsTok (w.alloc (.cells #[.int .i64 kd, .string ⟨nm.toArray⟩, .slice o la.length c, .string ⟨tx.toArray⟩] 117)) w.heap.size (⟨kd, nm, la, tx⟩, .slice o la.length c) := heap_alloc_new w _
  have hBb : B ≤ b := by rcases h with h | h <;> exact h.1
  have hbw : b < w.heap.size := by rcases h with ⟨_, v, hb, _⟩ | ⟨_, v, hb, _⟩ <;> exact lt_of_block hb
  have hsum : ¬ 9223372036854775807 < 1 + nm.length := by omega
  have hstr : (⟨#[60]⟩ : ByteArray) ++ ⟨nm.toArray⟩ = ⟨([60] ++ nm).toArray⟩ := app2 [60] nm
  have hw1 := hide (write_all B b l ([60] ++ nm) _ (h.keeps ha) (by simp; omega) (Nat.le_trans hBw ha.size))
  obtain ⟨Z, hZ⟩ : ∃ Z, l ++ ([60] ++ nm) = Z := ⟨_, rfl⟩
  have hZl : Z.length ≤ 342100000 := by rw [← hZ]; simp; omega
  have hfin : l ++ openP ⟨kd, nm, la, tx⟩ = Z ++ pairsP la ++ [62] := by rw [← hZ]; simp [openP]
  rw [hfin]
  rw [hZ] at hw1
  clear hZ hfin
  have hwe := hide (fun (w : World) hb hB => write_all B b (Z ++ pairsP la) [62] w hb (by
    have := pairsP_le8 la la.length
    rw [List.take_length] at this
    simp; omega) hB)
  go_enter Tryz.func143, Tryz.ntmps143
  go_wp2_with fail
  refine hw1.out.mono ?_
  rintro e w2 ⟨rfl, hb2, hk2⟩
  have hbx2 := hk2.tok hbx (by omega)
  have hkw2 : KeepsB B b w w2 := (KeepsB.of ha).trans hk2
  have x2 : w2.cell? ⟨w.heap.size, 2, none⟩ = some (.slice o la.length c) := by rw [hbx2.cell 2]; rfl
  clear hw1 hstr hsum
  go_wp2_with fail
  go_loopw [14] (fun i wr => ∃ k : Nat, k ≤ la.length ∧ i = .int .i64 k ∧ IsBld B b (Z ++ pairsP (la.take k)) wr ∧ KeepsB B b w wr) (fun i _ => la.length - (intOf i).toNat)
  case atStart => exact ⟨0, Nat.zero_le _, rfl, by simpa [pairsP] using hb2, hkw2⟩
  case round =>
    obtain ⟨k, hk, rfl, hbk, hkw⟩ := hrel
    clear hb2 hk2 hbx2 x2
    have hBr := Nat.le_trans hBw hkw.size
    by_cases hlt : k < la.length
    · obtain ⟨g, x, rfl, hc⟩ := (hv.keeps (KeepsB.nil hw0 hkw hB0 hBb)).addr (by omega)
      have a0 := hc _ _ (pair_at0 la k hlt)
      have a1 := hc _ _ (pair_at1 la k hlt)
      rw [← Nat.add_assoc] at a1
      have hfk := bulkP_mem (List.getElem_mem hlt)
      have hpl := pairsP_le8 la k
      have hts := pairsP_take la k hlt
      generalize pairsP (la.take k) = Y at *
      have HTS := hide hts
      clear hts hc
      generalize la[k] = p at *
      obtain ⟨n, v⟩ := p
      simp only at a0 a1 hfk
      have hkA : Keeps [] wr (wr.alloc (.cells #[.string ⟨n.toArray⟩, .string ⟨v.toArray⟩] 52)) := (Keeps.refl [] wr).alloc _
      have hA : IsPair (wr.alloc (.cells #[.string ⟨n.toArray⟩, .string ⟨v.toArray⟩] 52)) wr.heap.size ⟨n.toArray⟩ ⟨v.toArray⟩ := heap_alloc_new wr _
      have hbr : b < wr.heap.size := Nat.lt_of_lt_of_le hbw hkw.size
      have hsum1 : ¬ 9223372036854775807 < 1 + n.length := by omega
      have hsum2 : ¬ 9223372036854775807 < 1 + n.length + 2 := by omega
      have hstr1 : (⟨#[32]⟩ : ByteArray) ++ ⟨n.toArray⟩ = ⟨([32] ++ n).toArray⟩ := app2 [32] n
      have hstr2 : (⟨(32 :: n).toArray⟩ : ByteArray) ++ ⟨#[61, 34]⟩ = ⟨([32] ++ n ++ [61, 34]).toArray⟩ := app2 (32 :: n) [61, 34]
      have hsz1 : (⟨(32 :: n).toArray⟩ : ByteArray).size = 1 + n.length := by rw [str_size]; simp; omega
      have hw3 := hide (write_all B b (Z ++ Y) ([32] ++ n ++ [61, 34]) _ (hbk.keeps hkA) (by simp; omega) (Nat.le_trans hBr hkA.size))
      have hw4 := hide (fun (w : World) hb hB => printText_all B b (Z ++ Y ++ ([32] ++ n ++ [61, 34])) v w hb hB (by omega) (by simp; omega))
      have hpv := putL_le v
      have hw5 := hide (fun (w : World) hb hB => write_all B b (Z ++ Y ++ ([32] ++ n ++ [61, 34]) ++ putL v) [34] w hb (by simp; omega) hB)
      have hY : Z ++ (Y ++ pairP (n, v)) = Z ++ Y ++ ([32] ++ n ++ [61, 34]) ++ putL v ++ [34] := by simp [pairP]
      have HY := hide hY
      clear hY
      go_wp2_with fail
      refine hw3.out.mono ?_
      rintro e w3 ⟨rfl, hb3, hk3⟩
      have hA3 := hk3.pair hA (by omega)
      have y1 := hA3.cell1
      have hB3 := Nat.le_trans (Nat.le_trans hBr hkA.size) hk3.size
      clear hstr1 hstr2 hsz1 a0 a1
      go_wp2_with fail
      refine (hw4.out _ hb3 hB3).mono ?_
      rintro e w4 ⟨rfl, hb4, hk4⟩
      go_wp2_with fail
      refine (hw5.out _ hb4 (Nat.le_trans hB3 hk4.size)).mono ?_
      rintro e w5 ⟨rfl, hb5, hk5⟩
      have hb5' : IsBld B b (Z ++ pairsP (la.take (k + 1))) w5 := by rw [HTS.out, HY.out]; exact hb5
      have hkw5 : KeepsB B b w w5 := (((hkw.trans (KeepsB.of hkA)).trans hk3).trans hk4).trans hk5
      go_wp2_with fail
      go_roundw
      case rel => exact ⟨k + 1, by omega, by go_num, hb5', hkw5⟩
      case measure => simp [intOf]; omega
    · have hall : la.take k = la := List.take_of_length_le (by omega)
      rw [hall] at hbk
      go_wp2_with fail
      refine (hwe.out _ hbk hBr).mono ?_
      rintro e w3 ⟨rfl, hb3, hk3⟩
      go_wp2_with fail
      go_end0
      exact ⟨rfl, hb3, hkw.trans hk3⟩

set_option maxRecDepth 4000 in
set_option maxHeartbeats 4000000 in
theorem print_all (w : World) (v : Value) (ts : List Tok) (hv : Toks w v ts) (hn : bulkL ts ≤ 38000000) (hc : chkL ts = 0) :
    Calls Tryz.prog 69 #[v] w fun e w' => e = .returned (.tuple #[.string ⟨(toksP ts).toArray⟩, .int .i64 0]) ∧ Keeps [] w w' := by
  have hchk := hide (check_any w v ts hv (fun t ht => by
    have h1 := bulkL_mem ht
    unfold bulkT at h1
    exact ⟨by unfold maxLen; omega, fun p hp => by have h2 := bulkP_mem hp; unfold maxLen; omega⟩))
  rw [hc] at hchk
  clear hc
  obtain ⟨l, rfl, hv, hva⟩ := hv
  have hfl : ∀ p ∈ l, bulkT p.1 ≤ bulkL (l.map (·.1)) := fun p hp => bulkL_mem (List.mem_map_of_mem hp)
  obtain ⟨o, c, rfl, h1, h2⟩ := hv.form
  unfold maxLen at h2
  go_enter Tryz.func69, Tryz.ntmps69
  go_wp2_with fail
  refine hchk.out.mono ?_
  rintro e w1 ⟨rfl, hk1⟩
  go_wp2_with fail
  have hb1 := bld_new w1
  have hkb1 : KeepsB w1.heap.size w1.heap.size w1 (w1.alloc (.cells #[.pointer none, .slice none 0 0] 134)) := KeepsB.of ((Keeps.refl [] w1).alloc _)
  have hsz1 : w1.heap.size + 1 ≤ (w1.alloc (.cells #[.pointer none, .slice none 0 0] 134)).heap.size := by simp
  clear hchk
  go_loopw [15] (fun i wr => ∃ k : Nat, k ≤ l.length ∧ i = .int .i64 k ∧ IsBld w1.heap.size w1.heap.size (toksP ((l.take k).map (·.1))) wr ∧ KeepsB w1.heap.size w1.heap.size w1 wr ∧ w1.heap.size + 1 ≤ wr.heap.size) (fun i _ => l.length - (intOf i).toNat)
  case atStart => exact ⟨0, Nat.zero_le _, rfl, by simpa [toksP] using hb1, hkb1, hsz1⟩
  case round =>
    obtain ⟨k, hk, rfl, hbk, hkw, hsz⟩ := hrel
    clear hb1 hkb1 hsz1
    have hK : Keeps [] w wr := KeepsB.nil hk1 hkw hk1.size (Nat.le_refl _)
    by_cases hlt : k < l.length
    · obtain ⟨g, x, rfl, hcc⟩ := (hv.keeps hK).addr (by omega)
      obtain ⟨a0, a1, a2, a3⟩ := lies_tok hcc k hlt
      have hfk := hfl l[k] (List.getElem_mem hlt)
      have hpa := hva l[k] (List.getElem_mem hlt)
      have hpl := toksP_le8 l k
      have HTS := hide (toksP_take l k hlt)
      generalize toksP ((l.take k).map (·.1)) = Y at *
      clear hcc
      generalize l[k] = p at *
      obtain ⟨⟨kp, np, ap, xp⟩, vp⟩ := p
      simp only at a0 a1 a2 a3 hpa hfk
      obtain ⟨op, cp, rfl, hp1, hp2⟩ := hpa.form
      unfold maxLen at hp2
      have hfn : np.length + xp.length + bulkP ap + 4 ≤ bulkL (l.map (·.1)) := hfk
      have hkA : Keeps [] wr (wr.alloc (.cells #[.int .i64 kp, .string ⟨np.toArray⟩, .slice op ap.length cp, .string ⟨xp.toArray⟩] 117)) := (Keeps.refl [] wr).alloc _
      have hA : IsTok (wr.alloc (.cells #[.int .i64 kp, .string ⟨np.toArray⟩, .slice op ap.length cp, .string ⟨xp.toArray⟩] 117)) wr.heap.size (⟨kp, np, ap, xp⟩, .slice op ap.length cp) := heap_alloc_new wr _
      have hBA : w1.heap.size ≤ (wr.alloc (.cells #[.int .i64 kp, .string ⟨np.toArray⟩, .slice op ap.length cp, .string ⟨xp.toArray⟩] 117)).heap.size := by simp; omega
      have hbA := hbk.keeps hkA
      have hkwA := hkw.trans (KeepsB.of hkA)
      by_cases hk1' : kp = 1
      · subst hk1'
        have hpt := hide (printText_all w1.heap.size w1.heap.size Y xp _ hbA hBA (by omega) (by omega))
        have HY := hide (show tokP ⟨1, np, ap, xp⟩ = putL xp from rfl)
        go_wp2_with fail
        refine hpt.out.mono ?_
        rintro e w5 ⟨rfl, hb5, hk5⟩
        have hb5' : IsBld w1.heap.size w1.heap.size (toksP ((l.take (k + 1)).map (·.1))) w5 := by rw [HTS.out, HY.out]; exact hb5
        have hs5 := Nat.le_trans hsz (Nat.le_trans hkA.size hk5.size)
        go_wp2_with fail
        go_roundw
        case rel => exact ⟨k + 1, by omega, by go_num, hb5', hkwA.trans hk5, hs5⟩
        case measure => simp [intOf]; omega
      · have e1 : (kp == 1) = false := by simpa using hk1'
        by_cases hk2' : kp = 2
        · subst hk2'
          have hpt := hide (printOpen_all w w1.heap.size w1.heap.size Y 2 np xp ap _ hpa _ (hK.trans hkA) hk1.size hbA hBA (by omega) (by omega) (by omega))
          have HY := hide (show tokP ⟨2, np, ap, xp⟩ = openP ⟨2, np, ap, xp⟩ from rfl)
          go_wp2_with fail
          refine hpt.out.mono ?_
          rintro e w5 ⟨rfl, hb5, hk5⟩
          have hb5' : IsBld w1.heap.size w1.heap.size (toksP ((l.take (k + 1)).map (·.1))) w5 := by rw [HTS.out, HY.out]; exact hb5
          have hs5 := Nat.le_trans hsz (Nat.le_trans hkA.size hk5.size)
          go_wp2_with fail
          go_roundw
          case rel => exact ⟨k + 1, by omega, by go_num, hb5', hkwA.trans hk5, hs5⟩
          case measure => simp [intOf]; omega
        · have e2 : (kp == 2) = false := by simpa using hk2'
          have HY := hide (show tokP ⟨kp, np, ap, xp⟩ = [60, 47] ++ np ++ [62] from by simp [tokP, hk1', hk2'])
          have hw5 := hide (write_all w1.heap.size w1.heap.size Y ([60, 47] ++ np ++ [62]) _ hbA (by simp; omega) hBA)
          have hsum1 : ¬ 9223372036854775807 < 2 + np.length := by omega
          have hsum2 : ¬ 9223372036854775807 < 2 + np.length + 1 := by omega
          have hstr1 : (⟨#[60, 47]⟩ : ByteArray) ++ ⟨np.toArray⟩ = ⟨([60, 47] ++ np).toArray⟩ := app2 [60, 47] np
          have hstr2 : (⟨(60 :: 47 :: np).toArray⟩ : ByteArray) ++ ⟨#[62]⟩ = ⟨([60, 47] ++ np ++ [62]).toArray⟩ := app2 (60 :: 47 :: np) [62]
          have hss : (⟨(60 :: 47 :: np).toArray⟩ : ByteArray).size = 2 + np.length := by rw [str_size]; simp; omega
          clear hk1' hk2'
          go_wp2_with fail
          refine hw5.out.mono ?_
          rintro e w5 ⟨rfl, hb5, hk5⟩
          have hb5' : IsBld w1.heap.size w1.heap.size (toksP ((l.take (k + 1)).map (·.1))) w5 := by rw [HTS.out, HY.out]; exact hb5
          have hs5 := Nat.le_trans hsz (Nat.le_trans hkA.size hk5.size)
          clear hstr1 hstr2 hss
          go_wp2_with fail
          go_roundw
          case rel => exact ⟨k + 1, by omega, by go_num, hb5', hkwA.trans hk5, hs5⟩
          case measure => simp [intOf]; omega
    · have hall : l.take k = l := List.take_of_length_le (by omega)
      rw [hall] at hbk
      go_wp2_with fail
      refine (Tryz.Builder_String_any w1.heap.size w1.heap.size _ _ hbk (by omega)).mono ?_
      rintro e w3 ⟨rfl, hb3⟩
      have hfin : Keeps [] w w3 := ⟨hb3.os.trans hK.os, hb3.tape.trans hK.tape, hb3.output.trans hK.output, Nat.le_trans hK.size hb3.size, fun i hi _ => (hb3.block i (Nat.lt_of_lt_of_le hi hk1.size)).trans (hK.block i hi List.not_mem_nil)⟩
      go_wp2_with fail
      go_ret2
      exact ⟨rfl, hfin⟩
end Go.Proofs.YtlcljanibjdejaaGreat

namespace Go.Proofs.YtlcljanibjdejaaGreat
open Go.RowKit Go.Maps

theorem must66 (o : Option Addr) (n c : Nat) (x : Int) (w : World) : Calls Tryz.prog 66 #[.slice o n c, .int .i64 x] w fun e w' => (x = 0 ∧ e = .returned (.slice o n c) ∨ x ≠ 0 ∧ e = .panicked (stopped x)) ∧ w' = w := by
  by_cases hx : x = 0
  · subst hx
    go_enter Tryz.func66, Tryz.ntmps66
    go_wp2_with fail
    go_ret
    exact ⟨.inl ⟨trivial, rfl⟩, rfl⟩
  · have hd : (x != 0) = true := by simpa using hx
    have hx2 := hide hx
    clear hx
    go_enter Tryz.func66, Tryz.ntmps66
    go_wp2_with fail
    refine (with_any x _).mono ?_
    rintro e w1 ⟨rfl, rfl⟩
    exact ⟨rfl, .inr ⟨hx2.out, rfl⟩, rfl⟩
theorem must67 (o : Option Addr) (n c : Nat) (x : Int) (w : World) : Calls Tryz.prog 67 #[.slice o n c, .int .i64 x] w fun e w' => (x = 0 ∧ e = .returned (.slice o n c) ∨ x ≠ 0 ∧ e = .panicked (stopped x)) ∧ w' = w := by
  by_cases hx : x = 0
  · subst hx
    go_enter Tryz.func67, Tryz.ntmps67
    go_wp2_with fail
    go_ret
    exact ⟨.inl ⟨trivial, rfl⟩, rfl⟩
  · have hd : (x != 0) = true := by simpa using hx
    have hx2 := hide hx
    clear hx
    go_enter Tryz.func67, Tryz.ntmps67
    go_wp2_with fail
    refine (with_any x _).mono ?_
    rintro e w1 ⟨rfl, rfl⟩
    exact ⟨rfl, .inr ⟨hx2.out, rfl⟩, rfl⟩
theorem must68 (s : ByteArray) (w : World) : Calls Tryz.prog 68 #[.string s, .int .i64 0] w fun e w' => e = .returned (.string s) ∧ w' = w := by
  go_enter Tryz.func68, Tryz.ntmps68
  go_wp2_with fail
  go_ret
  exact ⟨rfl, rfl⟩

def htmlL (base s : List UInt8) : List UInt8 := toksP (flatL (htmlT base s))

set_option maxRecDepth 4000 in
set_option maxHeartbeats 4000000 in
theorem html1_any (base s : List UInt8) (sb bb ob : Nat) (w : World) (hM : HasMax w) (hs : s.length ≤ maxLen) (hbl : base.length ≤ maxLen) (h1 : w.heap[sb]? = some (.cells #[.string ⟨s.toArray⟩] 9 (0, 0))) (h2 : w.heap[bb]? = some (.cells #[.string ⟨base.toArray⟩] 9 (0, 0))) (h3 : w.heap[ob]? = some (.cells #[.string ⟨#[]⟩] 9 (0, 0))) :
    Calls Tryz.prog 65 #[.pointer (some ⟨sb, 0, none⟩), .pointer (some ⟨bb, 0, none⟩), .pointer (some ⟨ob, 0, none⟩)] w fun e w' =>
      ((s.length ≤ 3000 ∧ base.length ≤ 3000) ∧ e = .returned (.tuple #[]) ∧ w'.heap[ob]? = some (.cells #[.string ⟨(htmlL base s).toArray⟩] 9 (0, 0)) ∨ ¬ (s.length ≤ 3000 ∧ base.length ≤ 3000) ∧ e = .panicked (stopped 2) ∧ w'.heap[ob]? = some (.cells #[.string ⟨#[]⟩] 9 (0, 0))) ∧ Keeps [ob] w w' := by
  have nn : ∀ g, g ∉ ([] : List Nat) := fun _ => List.not_mem_nil
  have c1 : w.cell? ⟨sb, 0, none⟩ = some (.string ⟨s.toArray⟩) := cell_blk h1 0
  have hrd := hide (read_any ⟨s.toArray⟩ w (by rw [str_size]; exact hs) hM)
  rw [str_size, str_list] at hrd
  have H2 := hide h2
  have H3 := hide h3
  have HM := hide hM
  clear h1 h2 h3 hM
  by_cases hs3 : 3000 < s.length
  · simp only [hs3, if_true] at hrd
    have hno : ¬ (s.length ≤ 3000 ∧ base.length ≤ 3000) := fun h => by omega
    have HNO := hide hno
    have hm := hide (fun w => (must67 none 0 0 2 w).mono (R' := fun e w' => e = .panicked (stopped 2) ∧ w' = w) (fun e w' h => ⟨h.1.elim (fun h => absurd h.1 (by decide)) (fun h => h.2), h.2⟩))
    clear hs3 hno hs hbl
    go_enter Tryz.func65, Tryz.ntmps65
    go_wp2_with fail
    refine hrd.out.mono ?_
    rintro e w1 ⟨hk1, rfl⟩
    go_wp2_with fail
    refine (hm.out _).mono ?_
    rintro e w2 ⟨rfl, h9⟩
    subst h9
    exact ⟨rfl, .inr ⟨HNO.out, rfl, (hk1.block _ (lt_of_block H3.out) (nn _)).trans H3.out⟩, hk1.to (by simp)⟩
  · simp only [hs3, if_false] at hrd
    have hf := html_facts base s (by omega)
    obtain ⟨f1, f2, f3, f4, f5, f6, f7, f8, f9, f10⟩ := hf
    have fB := bulkNs_fits (buildL (readL s)) (by omega)
    have fV := bulk_val (buildL (readL s)) (by omega)
    have fS := bulkNs_size (buildL (readL s))
    have ftx := bulkL_text (readL s)
    have hbf := bulk_fits (l := readL s) (by omega)
    have hbd := hide (fun (w1 : World) (hk1 : Keeps [] w w1) (v : Value) (hv : Toks w1 v (readL s)) => build_any w1 v (readL s) hv (fun t ht => (hbf t ht).1) (Nat.lt_of_lt_of_le HM.out.pos hk1.size) (fun t ht => (hbf t ht).2) (by omega))
    have htr := hide (fun (w2 : World) (hk2 : Keeps [] w w2) (P : Nat → Prop) (v : Value) (hv : Ns w2 P v (buildL (readL s))) => cleanTree_any base w2 P v _ hv (HM.out.keeps hk2 (nn _)) (by omega) fB.1 fV.1 (by omega) hbl)
    have hfl := hide (fun (w3 : World) (P : Nat → Prop) (v : Value) (hv : Ns w3 P v (htmlT base s)) => treeFlat_any w3 P v _ hv (by omega) f9 f8)
    have hpr := hide (fun (w4 : World) (v : Value) (hv : Toks w4 v (flatL (htmlT base s))) => print_all w4 v _ hv f7 f6)
    rw [f1] at hbd
    simp only [if_true] at hbd
    rw [f5] at hfl
    simp only [if_true] at hfl
    have hE : treeE base (buildL (readL s)) = if 3000 < base.length then 2 else 0 := by unfold treeE; rw [f3]; simp
    rw [hE] at htr
    unfold htmlL htmlT
    unfold htmlT at hfl hpr
    clear f1 f2 f3 f4 f5 f6 f7 f8 f9 f10 fB fV fS ftx hbf hE
    obtain ⟨FL, hFL⟩ : ∃ FL, flatL (cleanL base (buildL (readL s))) = FL := ⟨_, rfl⟩
    obtain ⟨CL, hCL⟩ : ∃ CL, cleanL base (buildL (readL s)) = CL := ⟨_, rfl⟩
    obtain ⟨BL, hBL⟩ : ∃ BL, buildL (readL s) = BL := ⟨_, rfl⟩
    rw [hFL] at hpr hfl ⊢
    rw [hCL] at hfl htr
    rw [hBL] at hbd htr
    clear hFL hCL hBL
    generalize readL s = RL at *
    obtain ⟨PL, hPL⟩ : ∃ PL, toksP FL = PL := ⟨_, rfl⟩
    rw [hPL] at hpr ⊢
    clear hPL
    have m66 := hide (fun o n c w => (must66 o n c 0 w).mono (R' := fun e w' => e = .returned (.slice o n c) ∧ w' = w) (fun e w' h => ⟨h.1.elim (fun h => h.2) (fun h => absurd rfl h.1), h.2⟩))
    have m67 := hide (fun o n c w => (must67 o n c 0 w).mono (R' := fun e w' => e = .returned (.slice o n c) ∧ w' = w) (fun e w' h => ⟨h.1.elim (fun h => h.2) (fun h => absurd rfl h.1), h.2⟩))
    have n66 := hide (fun o n c w => (must66 o n c 2 w).mono (R' := fun e w' => e = .panicked (stopped 2) ∧ w' = w) (fun e w' h => ⟨h.1.elim (fun h => absurd h.1 (by decide)) (fun h => h.2), h.2⟩))
    by_cases hb3 : 3000 < base.length
    · rw [if_pos hb3] at htr
      simp only [show ¬ ((2 : Int) = 0) from by decide, if_false] at htr
      have HNO := hide (show ¬ (s.length ≤ 3000 ∧ base.length ≤ 3000) from fun h => by omega)
      clear hs3 hb3 hs hbl
      go_enter Tryz.func65, Tryz.ntmps65
      go_wp2_with fail
      refine hrd.out.mono ?_
      rintro e w1 ⟨hk1, v1, rfl, ht1⟩
      obtain ⟨o1, n1, c1', hv1⟩ : ∃ o n c, v1 = .slice o n c := by
        obtain ⟨l, _, hl, _⟩ := ht1.toks
        obtain ⟨o, c, h, _⟩ := hl.form
        exact ⟨o, _, c, h⟩
      subst hv1
      have hb1 := hide (hbd.out w1 hk1 _ ht1.toks)
      go_wp2_with fail
      refine (m67.out _ _ _ _).mono ?_
      rintro e w2 ⟨rfl, h9⟩
      subst h9
      go_wp2_with fail
      refine hb1.out.mono ?_
      rintro e w2 ⟨v2, rfl, hN2, hk2⟩
      obtain ⟨o2, c2, hv2⟩ := hN2.form
      subst hv2
      have ht2 := hide (htr.out w2 (hk1.trans hk2) _ _ hN2)
      have e2 : w2.cell? ⟨bb, 0, none⟩ = some (.string ⟨base.toArray⟩) := cell_blk (((hk1.trans hk2).block _ (lt_of_block H2.out) (nn _)).trans H2.out) 0
      clear c1
      go_wp2_with fail
      refine (m66.out _ _ _ _).mono ?_
      rintro e w3 ⟨rfl, h9⟩
      subst h9
      go_wp2_with fail
      refine ht2.out.mono ?_
      rintro e w3 ⟨o3, n3, c3, rfl, hN3, hk3⟩
      go_wp2_with fail
      refine (n66.out _ _ _ _).mono ?_
      rintro e w4 ⟨rfl, h9⟩
      subst h9
      have hk := (hk1.trans hk2).trans hk3
      exact ⟨rfl, .inr ⟨HNO.out, rfl, (hk.block _ (lt_of_block H3.out) (nn _)).trans H3.out⟩, hk.to (by simp)⟩
    · rw [if_neg hb3] at htr
      simp only [if_true] at htr
      have HYE := hide (show s.length ≤ 3000 ∧ base.length ≤ 3000 from ⟨by omega, by omega⟩)
      clear hs3 hb3 hs hbl
      go_enter Tryz.func65, Tryz.ntmps65
      go_wp2_with fail
      refine hrd.out.mono ?_
      rintro e w1 ⟨hk1, v1, rfl, ht1⟩
      obtain ⟨o1, n1, c1', hv1⟩ : ∃ o n c, v1 = .slice o n c := by
        obtain ⟨l, _, hl, _⟩ := ht1.toks
        obtain ⟨o, c, h, _⟩ := hl.form
        exact ⟨o, _, c, h⟩
      subst hv1
      have hb1 := hide (hbd.out w1 hk1 _ ht1.toks)
      go_wp2_with fail
      refine (m67.out _ _ _ _).mono ?_
      rintro e w2 ⟨rfl, h9⟩
      subst h9
      go_wp2_with fail
      refine hb1.out.mono ?_
      rintro e w2 ⟨v2, rfl, hN2, hk2⟩
      obtain ⟨o2, c2, hv2⟩ := hN2.form
      subst hv2
      have ht2 := hide (htr.out w2 (hk1.trans hk2) _ _ hN2)
      have e2 : w2.cell? ⟨bb, 0, none⟩ = some (.string ⟨base.toArray⟩) := cell_blk (((hk1.trans hk2).block _ (lt_of_block H2.out) (nn _)).trans H2.out) 0
      clear c1
      go_wp2_with fail
      refine (m66.out _ _ _ _).mono ?_
      rintro e w3 ⟨rfl, h9⟩
      subst h9
      go_wp2_with fail
      refine ht2.out.mono ?_
      rintro e w3 ⟨o3, n3, c3, rfl, hN3, hk3⟩
      have hf3 := hide (hfl.out w3 _ _ hN3)
      clear e2
      go_wp2_with fail
      refine (m66.out _ _ _ _).mono ?_
      rintro e w4 ⟨rfl, h9⟩
      subst h9
      go_wp2_with fail
      refine hf3.out.mono ?_
      rintro e w4 ⟨v4, rfl, ⟨n4, c4, a4, rfl, h8⟩, ht4, hk4⟩
      subst h8
      have hp4 := hide (hpr.out w4 _ ht4)
      go_wp2_with fail
      refine (m67.out _ _ _ _).mono ?_
      rintro e w5 ⟨rfl, h9⟩
      subst h9
      go_wp2_with fail
      refine hp4.out.mono ?_
      rintro e w5 ⟨rfl, hk5⟩
      have hk := (((hk1.trans hk2).trans hk3).trans hk4).trans hk5
      have e5 := (hk.block _ (lt_of_block H3.out) (nn _)).trans H3.out
      have x5 : w5.cell? ⟨ob, 0, none⟩ = some (.string ⟨#[]⟩) := cell_blk e5 0
      have y5 : w5.frozen? ⟨ob, 0, none⟩ = false := free_blk e5 0
      go_wp2_with fail
      refine (must68 _ _).mono ?_
      rintro e w6 ⟨rfl, h9⟩
      subst h9
      go_wp2_with fail
      go_end0
      refine ⟨.inl ⟨HYE.out, rfl, ?_⟩, (hk.to (by simp)).setCell (.inl (by simp)) _⟩
      simp [World.setCell, Array.getElem?_modify, e5]
end Go.Proofs.YtlcljanibjdejaaGreat

namespace Go.Proofs.YtlcljanibjdejaaGreat
open Go.RowKit Go.Maps

theorem enters65 : Enters 65 := enters_of Tryz.func65 (by kernel_rfl) (by kernel_rfl)

set_option maxHeartbeats 2000000 in
theorem html_any (base s : List UInt8) (w : World) (hM : HasMax w) (hs : s.length ≤ maxLen) (hbl : base.length ≤ maxLen) :
    Calls Tryz.prog 15 #[.string ⟨base.toArray⟩, .string ⟨s.toArray⟩] w fun e w' =>
      ((s.length ≤ 3000 ∧ base.length ≤ 3000) ∧ e = .returned (.tuple #[.string ⟨(htmlL base s).toArray⟩, .int .i64 0]) ∨ ¬ (s.length ≤ 3000 ∧ base.length ≤ 3000) ∧ e = .returned (.tuple #[.string ⟨#[]⟩, .int .i64 2])) ∧ Keeps [] w w' := by
  obtain ⟨W, hW⟩ : ∃ W, ((w.alloc (.cells #[.string ⟨base.toArray⟩] 9)).alloc (.cells #[.string ⟨s.toArray⟩] 9)).alloc (.cells #[.string ⟨#[]⟩] 9) = W := ⟨_, rfl⟩
  have hkW : Keeps [] w W := by rw [← hW]; exact (((Keeps.refl [] w).alloc _).alloc _).alloc _
  have s1 : ∀ o, (w.alloc o).heap.size = w.heap.size + 1 := fun o => by simp
  have s2 : ∀ o o', ((w.alloc o).alloc o').heap.size = w.heap.size + 1 + 1 := fun o o' => by simp
  have hb0 : W.heap[w.heap.size]? = some (.cells #[.string ⟨base.toArray⟩] 9 (0, 0)) := by
    rw [← hW, Below.heap_alloc _ _ _ (by rw [s2]; omega), Below.heap_alloc _ _ _ (by rw [s1]; omega)]
    exact heap_alloc_new w _
  have hb1 : W.heap[w.heap.size + 1]? = some (.cells #[.string ⟨s.toArray⟩] 9 (0, 0)) := by
    rw [← hW, Below.heap_alloc _ _ _ (by rw [s2]; omega), ← s1]
    exact heap_alloc_new _ _
  have hb2 : W.heap[w.heap.size + 1 + 1]? = some (.cells #[.string ⟨#[]⟩] 9 (0, 0)) := by
    rw [← hW, ← s2]
    exact heap_alloc_new _ _
  have hsz : W.heap.size = w.heap.size + 1 + 1 + 1 := by rw [← hW]; simp
  have nn : ∀ g, g ∉ ([] : List Nat) := fun _ => List.not_mem_nil
  have hc := hide (caught_any 65 #[.pointer (some ⟨w.heap.size + 1, 0, none⟩), .pointer (some ⟨w.heap.size, 0, none⟩), .pointer (some ⟨w.heap.size + 1 + 1, 0, none⟩)]
    (fun w2 => (s.length ≤ 3000 ∧ base.length ≤ 3000) ∧ w2.heap[w.heap.size + 1 + 1]? = some (.cells #[.string ⟨(htmlL base s).toArray⟩] 9 (0, 0)))
    (fun x w2 => ¬ (s.length ≤ 3000 ∧ base.length ≤ 3000) ∧ x = 2 ∧ w2.heap[w.heap.size + 1 + 1]? = some (.cells #[.string ⟨#[]⟩] 9 (0, 0))) [w.heap.size + 1 + 1] W enters65
    (fun i hi => by simp at hi; omega)
    (fun w2 w3 _ h hk => ⟨h.1, (hk.block _ (lt_of_block h.2) (by simp; omega)).trans h.2⟩)
    (fun x w2 w3 _ h hk => ⟨h.1, h.2.1, (hk.block _ (lt_of_block h.2.2) (by simp; omega)).trans h.2.2⟩)
    (fun w1 hk1 _ => (html1_any base s (w.heap.size + 1) w.heap.size (w.heap.size + 1 + 1) w1 (hM.keeps (hkW.trans hk1) (nn _)) hs hbl ((hk1.block _ (lt_of_block hb1) (nn _)).trans hb1) ((hk1.block _ (lt_of_block hb0) (nn _)).trans hb0) ((hk1.block _ (lt_of_block hb2) (nn _)).trans hb2)).mono
      (fun e w2 h => ⟨h.1.elim (fun h => .inl ⟨h.2.1, h.1, h.2.2⟩) (fun h => .inr ⟨2, h.2.1, h.1, rfl, h.2.2⟩), h.2⟩)))
  have hmf : ∀ (fn : Fn) (first cap : Array Value) (w : World), (Instr.makeFunc fn first cap).run Tryz.prog w = .ok (.func fn first cap) w := fun _ _ _ _ => rfl
  have Hsz := hide hsz
  clear hb0 hb1 hb2 s1 s2 hsz hM hs hbl
  have HW := hide hW
  clear hW
  go_enter Tryz.func15, Tryz.ntmps15
  go_upto_region 2 with fail
  rw [HW.out]
  go_wp2_with fail
  refine hc.out.mono ?_
  rintro e w1 ⟨⟨rfl, hok, hb⟩ | ⟨x, rfl, hno, rfl, hb⟩, hk1⟩
  · have c0 : w1.cell? ⟨w.heap.size + 1 + 1, 0, none⟩ = some (.string ⟨(htmlL base s).toArray⟩) := cell_blk hb 0
    have HOK := hide hok
    clear hok
    go_wp2_with fail
    go_ret2
    exact ⟨.inl ⟨HOK.out, rfl⟩, keeps_on hkW hk1 (fun g hg hlt => by simp at hg; omega)⟩
  · have c0 : w1.cell? ⟨w.heap.size + 1 + 1, 0, none⟩ = some (.string ⟨#[]⟩) := cell_blk hb 0
    have HNO := hide hno
    clear hno
    go_wp2_with fail
    go_ret2
    exact ⟨.inr ⟨HNO.out, rfl⟩, keeps_on hkW hk1 (fun g hg hlt => by simp at hg; omega)⟩

/-! ### what cleanBegun looks at -/
def begB : List UInt8 := [104, 116, 116, 112, 58, 47, 47, 97, 47, 98]
def begT : List UInt8 := ([60, 115, 101, 99, 116, 105, 111, 110, 62, 60, 112, 32, 111, 110, 99, 108, 105, 99, 107, 61, 120, 62, 97, 60, 115, 99, 114, 105, 112, 116, 62, 98, 60, 47, 115, 99, 114, 105, 112, 116, 62, 60, 97, 32].append [104, 114, 101, 102, 61, 99, 62, 100, 60, 47, 97, 62, 60, 97, 32, 104, 114, 101, 102, 61, 39, 106, 97, 118, 97, 115, 99, 114, 105, 112, 116, 58, 101, 39, 62, 102, 60, 47, 97, 62, 60, 105, 109, 103, 62, 103])
def begK : List Tok := [⟨2, [115, 101, 99, 116, 105, 111, 110], [], []⟩, ⟨2, [112], [([111, 110, 99, 108, 105, 99, 107], [120])], []⟩, ⟨1, [], [], [97]⟩, ⟨2, [115, 99, 114, 105, 112, 116], [], []⟩, ⟨1, [], [], [98]⟩, ⟨3, [115, 99, 114, 105, 112, 116], [], []⟩, ⟨2, [97], [([104, 114, 101, 102], [99])], []⟩, ⟨1, [], [], [100]⟩, ⟨3, [97], [], []⟩, ⟨2, [97], [([104, 114, 101, 102], [106, 97, 118, 97, 115, 99, 114, 105, 112, 116, 58, 101])], []⟩, ⟨1, [], [], [102]⟩, ⟨3, [97], [], []⟩, ⟨2, [105, 109, 103], [], []⟩, ⟨1, [], [], [103]⟩]
def begN : List Nd := [.mk [115, 101, 99, 116, 105, 111, 110] [] [] [.mk [112] [([111, 110, 99, 108, 105, 99, 107], [120])] [] [.mk [] [] [97] [], .mk [115, 99, 114, 105, 112, 116] [] [] [.mk [] [] [98] []], .mk [97] [([104, 114, 101, 102], [99])] [] [.mk [] [] [100] []], .mk [97] [([104, 114, 101, 102], [106, 97, 118, 97, 115, 99, 114, 105, 112, 116, 58, 101])] [] [.mk [] [] [102] []], .mk [105, 109, 103] [] [] [], .mk [] [] [103] []]]]
def begC : List Nd := [.mk [112] [] [] [.mk [] [] [97] [], .mk [97] [([104, 114, 101, 102], [104, 116, 116, 112, 58, 47, 47, 97, 47, 99])] [] [.mk [] [] [100] []], .mk [97] [] [] [.mk [] [] [102] []], .mk [] [] [103] []]]
def begO : List UInt8 := [60, 112, 62, 97, 60, 97, 32, 104, 114, 101, 102, 61, 34, 104, 116, 116, 112, 58, 47, 47, 97, 47, 99, 34, 62, 100, 60, 47, 97, 62, 60, 97, 62, 102, 60, 47, 97, 62, 103, 60, 47, 112, 62]
theorem beg_read : readL begT = begK := by kernel_rfl
theorem beg_build : buildL begK = begN := by kernel_rfl
theorem beg_k1 : keptA begB [112] [([111, 110, 99, 108, 105, 99, 107], [120])] = [] := by kernel_rfl
theorem beg_k2 : keptA begB [97] [([104, 114, 101, 102], [99])] = [([104, 114, 101, 102], [104, 116, 116, 112, 58, 47, 47, 97, 47, 99])] := by kernel_rfl
theorem beg_k3 : keptA begB [97] [([104, 114, 101, 102], [106, 97, 118, 97, 115, 99, 114, 105, 112, 116, 58, 101])] = [] := by kernel_rfl
theorem beg_k4 : keptA begB [105, 109, 103] [] = [] := by kernel_rfl
theorem beg_s1 : standE [112] [] = 0 := by kernel_rfl
theorem beg_s2 : standE [97] [([104, 114, 101, 102], [104, 116, 116, 112, 58, 47, 47, 97, 47, 99])] = 0 := by kernel_rfl
theorem beg_s3 : standE [97] [] = 0 := by kernel_rfl
theorem beg_s4 : standE [105, 109, 103] [] = 5 := by kernel_rfl
theorem beg_clean : cleanL begB begN = begC := by
  unfold cleanL begN begC
  simp [cleanIn, beg_k1, beg_k2, beg_k3, beg_k4, beg_s1, beg_s2, beg_s3, beg_s4, goneN, allowedN, Lst.put, Lst.done, Nd.name, Nd.text, textN]
theorem beg_print : toksP (flatL begC) = begO := by
  simp only [begC, flatL]
  kernel_rfl
theorem beg_html : htmlL begB begT = begO := by
  unfold htmlL htmlT
  rw [beg_read, beg_build, beg_clean, beg_print]
end Go.Proofs.YtlcljanibjdejaaGreat

namespace Go.Proofs.YtlcljanibjdejaaGreat
open Go.RowKit Go.Maps

theorem page_val : ValNs pageL := by simp [pageL, ValNs]
theorem page_sz : szNs pageL ≤ 3000000 := by simp [pageL, szNs]
theorem page_st : AllSt pageL := by simp [pageL, AllSt, standE, attrsE, allowedN, hasSrc]
theorem page_told : AllTold [] pageL := by simp [pageL, AllTold]
theorem page_clean : cleanL [] pageL = pageL := cleanL_same [] pageL ((chkTree_ok _).1 page_tree).2 page_st page_told
theorem page_treeE : treeE [] pageL = 0 := by unfold treeE; rw [page_tree]; simp
theorem page_isE : isE pageL = 0 := (isE_stands pageL).2 page_st

def scrL : List Nd := [.mk [115, 99, 114, 105, 112, 116] [] [] []]
theorem scr_tree : chkTree scrL = 0 := by
  rw [chkTree_ok]
  refine ⟨by simp [scrL, sizeNs], ?_⟩
  simp [scrL, Rt, isNameL, chkA, emptyN, closedL, blockN, wallN, listN]
  decide
theorem scr_isE : isE scrL = 7 := by simp [scrL, isE, standE, allowedN]
theorem scr_fits : FitsNs scrL := by simp [scrL, FitsNs, Fits, maxLen]
theorem scr_val : ValNs scrL := by simp [scrL, ValNs]

set_option maxRecDepth 8000 in
set_option maxHeartbeats 8000000 in
theorem cleanBegun_any (w : World) (hM : HasMax w) : Calls Tryz.prog 16 #[] w fun e w' => e = .returned (.bool true) ∧ Keeps [] w w' := by
  have nn : ∀ g, g ∉ ([] : List Nat) := fun _ => List.not_mem_nil
  have r1 := hide ((html_any begB begT w hM (by unfold begT maxLen; decide) (by unfold begB maxLen; decide)).mono (R' := fun e w' => e = .returned (.tuple #[.string ⟨begO.toArray⟩, .int .i64 0]) ∧ Keeps [] w w') (fun e w' h => ⟨h.1.elim (fun h => by rw [h.2, beg_html]) (fun h => absurd ⟨by unfold begT; decide, by unfold begB; decide⟩ h.1), h.2⟩))
  have tr := hide (fun (w : World) (P : Nat → Prop) (v : Value) (hM : HasMax w) (hN : Ns w P v pageL) => cleanTree_any [] w P v pageL hN hM (by rw [page_size]; decide) page_fits page_val page_sz (by simp [maxLen]))
  rw [page_treeE, if_pos rfl, page_clean] at tr
  have is1 := hide (fun (w : World) (P : Nat → Prop) (v : Value) (hM : HasMax w) (hN : Ns w P v pageL) => cleanIs_any w P v pageL hN hM (by rw [page_size]; decide) page_fits page_val)
  rw [page_tree, page_isE] at is1
  have is2 := hide (fun (w : World) (P : Nat → Prop) (v : Value) (hM : HasMax w) (hN : Ns w P v scrL) => cleanIs_any w P v scrL hN hM (by simp [scrL, sizeNs]) scr_fits scr_val)
  rw [scr_tree, scr_isE] at is2
  simp only [decide_true, Bool.and_true, show decide ((7 : Int) = 0) = false from rfl, Bool.and_false] at is1 is2
  have HM := hide hM
  clear hM
  go_enter Tryz.func16, Tryz.ntmps16
  go_wp2_with fail
  refine r1.out.mono ?_
  rintro e w1 ⟨rfl, hk1⟩
  go_wp2_with fail
  refine (page_any _).mono ?_
  rintro e w2 ⟨v2, rfl, hN2, hk2⟩
  obtain ⟨o2, c2, hv2⟩ := hN2.form
  subst hv2
  have t2 := hide (tr.out w2 _ _ (HM.out.keeps (hk1.trans hk2) (nn _)) hN2)
  go_wp2_with fail
  refine t2.out.mono ?_
  rintro e w3 ⟨o3, n3, c3, rfl, hN3, hk3⟩
  go_wp2_with fail
  refine (page_any _).mono ?_
  rintro e w4 ⟨v4, rfl, hN4, hk4⟩
  obtain ⟨o4, c4, hv4⟩ := hN4.form
  subst hv4
  have hk14 := (((hk1.trans hk2).trans hk3).trans hk4)
  have i4 := hide (is1.out w4 _ _ (HM.out.keeps hk14 (nn _)) hN4)
  go_wp2_with fail
  refine i4.out.mono ?_
  rintro e w5 ⟨rfl, hk5⟩
  have n5 := ns_new w5 [⟨.mk [115, 99, 114, 105, 112, 116] [] [] [], .slice none 0 0, .slice none 0 0⟩] #[.string ⟨#[115, 99, 114, 105, 112, 116]⟩, .slice none 0 0, .string ⟨#[]⟩, .slice none 0 0] rfl (by decide) (by intro p hp; simp at hp; subst hp; exact ⟨rfl, rfl⟩) (by intro p hp; simp at hp; subst hp; exact nil_ns _)
  have hka : Keeps [] w5 (w5.alloc (.cells #[.string ⟨#[115, 99, 114, 105, 112, 116]⟩, .slice none 0 0, .string ⟨#[]⟩, .slice none 0 0] 45)) := (Keeps.refl [] w5).alloc _
  have i5 := hide (is2.out _ _ _ (HM.out.keeps ((hk14.trans hk5).trans hka) (nn _)) n5)
  go_wp2_with fail
  refine i5.out.mono ?_
  rintro e w6 ⟨rfl, hk6⟩
  go_wp2_with fail
  refine (page_any _).mono ?_
  rintro e w7 ⟨v7, rfl, hN7, hk7⟩
  obtain ⟨o7, c7, hv7⟩ := hN7.form
  subst hv7
  have hk37 : Keeps [] w3 w7 := (((hk4.trans hk5).trans hka).trans hk6).trans hk7
  have sn := hide (sameNodes_eq _ _ w3 _ pageL hN3 _ w7 hk37 hN7)
  go_wp2_with fail
  refine sn.out.mono ?_
  rintro e w8 ⟨rfl, n8, rfl⟩
  go_wp2_with fail
  go_ret
  exact ⟨rfl, (((hk1.trans hk2).trans hk3).trans hk37).drewN _⟩
end Go.Proofs.YtlcljanibjdejaaGreat

namespace Go.Proofs.YtlcljanibjdejaaGreat
open Go.RowKit Go.Maps

set_option maxRecDepth 8000 in
set_option maxHeartbeats 4000000 in
theorem textIn_all (P : Nat → Prop) (gone : Bool) (w0 : World) (v : Value) (ns : List Nd) (h : Ns w0 P v ns) : bytesNs ns ≤ 4000000 → ∀ w, Keeps [] w0 w →
    Calls Tryz.prog 27 #[v, .bool gone] w fun e w' => e = .returned (.string ⟨(textNs gone ns).toArray⟩) ∧ ∃ n, w' = w.drewN n := by
  induction h with
  | mk v l ns hns hl ha hk ih =>
    intro hb w hkw
    subst hns
    obtain ⟨R, hR⟩ : ∃ R, textNs gone (l.map Pn.nd) = R := ⟨_, rfl⟩
    rw [hR]
    have hRl : R.length ≤ 4000000 := by rw [← hR]; exact Nat.le_trans (text_bytes _ _) hb
    have hlw := hl.keeps hkw (fun _ _ => List.not_mem_nil)
    obtain ⟨o, c, rfl, h1, h2⟩ := hlw.lies.form
    unfold maxLen at h2
    have HR := hide hR
    have HL := hide hlw
    have HI := hide ih
    have HK := hide hkw
    have HB := hide hb
    clear hR hlw hl ha hk ih hkw hb
    go_enter Tryz.func27, Tryz.ntmps27
    go_wp2_with fail
    go_loopw [5, 6] (fun sv i wr => ∃ (k m : Nat) (D : List UInt8), k ≤ l.length ∧ i = .int .i64 k ∧ sv = .string ⟨D.toArray⟩ ∧ Hid (wr = w.drewN m) ∧ D.length ≤ 4000000 ∧ Hid (D ++ textNs gone ((l.drop k).map Pn.nd) = R)) (fun _ i _ => l.length - (intOf i).toNat)
    case atStart => exact ⟨0, 0, [], Nat.zero_le _, rfl, rfl, rfl, by simp, HR⟩
    case round =>
      obtain ⟨k, m, D, hk, rfl, rfl, hWm, hD, hH⟩ := hrel
      clear HR
      have hkr : Keeps [] w wr := by rw [hWm.out]; exact (Keeps.refl _ _).drewN _
      by_cases hlt : k < l.length
      · obtain ⟨g, x, hoo, hcl⟩ := (HL.out.lies.keeps hkr).addr (by omega)
        subst hoo
        obtain ⟨a0, a1, a2, a3⟩ := lies_pn hcl k hlt
        have hH1 := hH.out
        rw [textNs_drop gone l k hlt] at hH1
        have hbl : bytesNs l[k].nd.kids ≤ 4000000 := by
          have h9 := HB.out
          have h8 : bytesNs (l.map Pn.nd) = bytesNs ((l.drop 0).map Pn.nd) := rfl
          have h7 : ∀ j, j ≤ k → bytesNs ((l.drop k).map Pn.nd) ≤ bytesNs ((l.drop (k - j)).map Pn.nd) := by
            intro j hj
            induction j with
            | zero => exact Nat.le_refl _
            | succ j ihj =>
              have := bytesNs_drop l (k - (j + 1)) (by omega)
              rw [show k - (j + 1) + 1 = k - j from by omega] at this
              have := ihj (by omega)
              omega
          have h6 := h7 k (Nat.le_refl _)
          rw [Nat.sub_self] at h6
          have := bytesNs_drop l k hlt
          omega
        have hcall := hide (fun n => HI.out l[k] (List.getElem_mem hlt) hbl (wr.drewN n) ((HK.out.trans hkr).drewN n))
        clear hcl hH HL hbl
        generalize l[k] = p at *
        obtain ⟨⟨nm, at', tx, ks⟩, av, kv⟩ := p
        simp only [Nd.name, Nd.text, Nd.kids] at a0 a1 a2 a3 hH1 hcall
        generalize textNs gone ks = X at *
        obtain ⟨Y, hY⟩ : ∃ Y, textNs gone ((l.drop (k + 1)).map Pn.nd) = Y := ⟨_, rfl⟩
        rw [hY] at hH1
        have HY := hide hY
        clear hY
        clear a1
        have p1 := nameEq nm [115, 99, 114, 105, 112, 116]
        have p2 := nameEq nm [115, 116, 121, 108, 101]
        have p3 := nameEq nm [116, 101, 109, 112, 108, 97, 116, 101]
        cases hg : (gone && goneN nm)
        · simp only [hg, Bool.false_eq_true, if_false] at hH1
          have hln := congrArg List.length hH1
          simp only [List.length_append] at hln
          have HH : Hid ((D ++ (tx ++ X)) ++ Y = R) := by rw [Hid, ← hH1]; simp
          have z1 : ¬ 9223372036854775807 < tx.length + X.length := by omega
          have z2 : ¬ 9223372036854775807 < D.length + (tx.length + X.length) := by omega
          have hD2 : (D ++ (tx ++ X)).length ≤ 4000000 := by simp; omega
          have e1 := str_append tx X
          have e2 := str_append D (tx ++ X)
          clear hH1 hln
          cases gone
          · clear p1 p2 p3
            go_upto_region 6 with fail
            go_quiet ((go_at_call 27; exact Calls.quiet_of (hcall.out _)))
            go_wp2_with fail
            go_roundw
            case rel => exact ⟨k + 1, m + nq, D ++ (tx ++ X), by omega, by go_num, by first | rfl | simp [str_append], (by rw [Hid, hWm.out]; simp), hD2, by rw [Hid, HY.out]; exact HH.out⟩
            case measure => simp [intOf]; omega
          · unfold goneN at hg
            simp only [Bool.true_and, Bool.or_eq_false_iff] at hg
            obtain ⟨⟨g1, g2⟩, g3⟩ := hg
            rw [g1] at p1
            rw [g2] at p2
            rw [g3] at p3
            go_upto_region 6 with fail
            go_quiet ((go_at_call 27; exact Calls.quiet_of (hcall.out _)))
            go_wp2_with fail
            go_roundw
            case rel => exact ⟨k + 1, m + nq, D ++ (tx ++ X), by omega, by go_num, by first | rfl | simp [str_append], (by rw [Hid, hWm.out]; simp), hD2, by rw [Hid, HY.out]; exact HH.out⟩
            case measure => simp [intOf]; omega
        · simp only [hg, if_true, List.nil_append] at hH1
          have HH := hide hH1
          clear hH1 hcall HI
          simp only [Bool.and_eq_true] at hg
          obtain ⟨rfl, hg⟩ := hg
          unfold goneN at hg
          cases g1 : (nm == [115, 99, 114, 105, 112, 116])
          · rw [g1] at p1 hg
            cases g2 : (nm == [115, 116, 121, 108, 101])
            · rw [g2] at p2 hg
              simp only [Bool.false_or] at hg
              rw [hg] at p3
              go_wp2_with fail
              go_roundw
              case rel => exact ⟨k + 1, m, D, by omega, by go_num, rfl, hWm, hD, by rw [Hid, HY.out]; exact HH.out⟩
              case measure => simp [intOf]; omega
            · rw [g2] at p2
              clear p3 hg
              go_wp2_with fail
              go_roundw
              case rel => exact ⟨k + 1, m, D, by omega, by go_num, rfl, hWm, hD, by rw [Hid, HY.out]; exact HH.out⟩
              case measure => simp [intOf]; omega
          · rw [g1] at p1
            clear p2 p3 hg
            go_wp2_with fail
            go_roundw
            case rel => exact ⟨k + 1, m, D, by omega, by go_num, rfl, hWm, hD, by rw [Hid, HY.out]; exact HH.out⟩
            case measure => simp [intOf]; omega
      · have hRe : D = R := by
          have := hH.out
          rw [List.drop_eq_nil_of_le (by omega)] at this
          simpa [textNs] using this
        subst hRe
        go_wp2_with fail
        go_ret
        exact ⟨rfl, m, hWm.out⟩
end Go.Proofs.YtlcljanibjdejaaGreat
