/- taken: what Take and Strict answer of a text. -/
import Derived.Test.YtngojdajamgababGreatTakeSign
import Derived.Test.YtngojdajamgababGreatTakeL
import Derived.Laws.IdiomStrings
namespace Go.Proofs.YtngojdajamgababGreat
open Go.RowKit

/-- How many bytes that are no & come from a place on. -/
def restLen (s : ByteArray) (k : Nat) : Nat := passLen noAnd (s.data.toList.drop k)

theorem pass54 (b : Nat) (s : ByteArray) (k : Nat) (w : World) (hs : s.size ≤ 3000) (hT : IsText w b s k) (hk : k ≤ s.size) :
    Calls Tryz.prog 73 #[.pointer (some ⟨b, 0, none⟩), .func (.func 114) #[] #[]] w fun e w' =>
      e = .returned (.string (s.extract k (k + restLen s k))) ∧ IsText w' b s (k + restLen s k) ∧ Keeps [b] w w' :=
  pass_any 114 #[] noAnd b s k w hs hT hk enters114 fun c w1 _ => (noAnd_any c w1).mono fun _ _ ⟨he, hw⟩ => ⟨he, 0, hw⟩

theorem restLen_le (s : ByteArray) (k : Nat) (hk : k ≤ s.size) : k + restLen s k ≤ s.size := by
  have h1 : (s.data.toList.drop k).length = s.size - k := by rw [List.length_drop]; rfl
  have h2 : restLen s k ≤ (s.data.toList.drop k).length := (List.takeWhile_sublist _).length_le
  omega

/-- What is taken up to a place, and what is to come. -/
def Done (s : ByteArray) (k : Nat) (o : List UInt8) (r : Bool) : Prop :=
  takeL s.data.toList = (o ++ (takeL (s.data.toList.drop k)).1, r && (takeL (s.data.toList.drop k)).2) ∧ o.length ≤ 4 * k

theorem done_start (s : ByteArray) : Done s 0 [] true := by simp [Done]

theorem done_end {s : ByteArray} {k : Nat} {o : List UInt8} {r : Bool} (h : Done s k o r) (hk : s.size ≤ k) : takeL s.data.toList = (o, r) := by
  have e := h.1
  rw [List.drop_eq_nil_of_le (by exact hk), takeL_nil] at e
  simpa using e

theorem drop_byteAt (s : ByteArray) (k : Nat) (hk : k < s.size) : s.data.toList.drop k = byteAt s k :: s.data.toList.drop (k + 1) := by
  have hl : k < s.data.toList.length := by simpa using hk
  rw [List.drop_eq_getElem_cons hl]
  simp [byteAt, List.getElem?_eq_getElem hl]

theorem done_sign {s : ByteArray} {k : Nat} {o : List UInt8} {r : Bool} (h : Done s k o r) (hk : k < s.size) (hc : byteAt s k = 38) :
    Done s (k + (takeOne (s.data.toList.drop k)).2.1) (o ++ (takeOne (s.data.toList.drop k)).1) (r && (takeOne (s.data.toList.drop k)).2.2) ∧
      1 ≤ (takeOne (s.data.toList.drop k)).2.1 ∧ k + (takeOne (s.data.toList.drop k)).2.1 ≤ s.size := by
  have hl : (s.data.toList.drop k).length = s.size - k := by rw [List.length_drop]; rfl
  have hle := takeOne_le (s.data.toList.drop k) (by omega)
  have e := takeL_and (byteAt s k) (s.data.toList.drop (k + 1)) hc
  rw [← drop_byteAt s k hk, List.drop_drop] at e
  refine ⟨⟨?_, ?_⟩, hle.1, by omega⟩
  · rw [h.1, e]
    simp [Bool.and_assoc]
  · have := h.2
    simp only [List.length_append]
    omega

theorem done_pass {s : ByteArray} {k : Nat} {o : List UInt8} {r : Bool} (h : Done s k o r) :
    Done s (k + restLen s k) (o ++ (s.extract k (k + restLen s k)).data.toList) r := by
  have e := takeL_pass (s.data.toList.drop k)
  rw [List.drop_drop] at e
  have ex : (s.extract k (k + restLen s k)).data.toList = (s.data.toList.drop k).takeWhile noAnd := by
    rw [Lib.extract_data, Nat.add_sub_cancel_left]
    exact (List.prefix_iff_eq_take.1 (List.takeWhile_prefix _)).symm
  rw [ex]
  refine ⟨?_, ?_⟩
  · rw [h.1, e]
    simp only [List.append_assoc]
    rfl
  · have := h.2
    simp only [List.length_append]
    have : ((s.data.toList.drop k).takeWhile noAnd).length = restLen s k := rfl
    omega

theorem restLen_pos (s : ByteArray) (k : Nat) (hk : k < s.size) (hc : byteAt s k ≠ 38) : 1 ≤ restLen s k := by
  unfold restLen passLen
  rw [drop_byteAt s k hk]
  have : noAnd (byteAt s k) = true := by simp [noAnd, hc]
  simp [this]

theorem keeps_new {w w' : World} (h : Keeps [w.heap.size] w w') : Keeps [] w w' := h.mono fun k hk hlt => by simp at hk; omega
theorem keeps_own {w w' : World} {row : Option Nat} (h : Keeps (w.heap.size :: row.toList) w w') (hr : ∀ g, row = some g → w.heap.size + 1 ≤ g) : Keeps [] w w' := h.mono fun k hk hlt => by
  simp at hk
  rcases hk with hk | hk
  · omega
  · have := hr k hk; omega
theorem Keeps.up {S : List Nat} {w w' : World} (h : Keeps [] w w') : Keeps S w w' := h.mono fun k hk => by simp at hk
theorem keeps_of_drewN {S : List Nat} {w w' : World} {n : Nat} (h : Keeps S (w.drewN n) w') : Keeps S w w' := ⟨h.os, h.tape, h.output, h.size, h.block⟩

theorem keeps_row {w w' : World} {row : Option Nat} (h : w.grownBy w' row) : Keeps row.toList w w' := (Keeps.refl _ w).grown h fun k e => .inl (by simp [e])

/-- A row of bytes as a string. -/
theorem own_string {w : World} {B : Nat} {v : Value} {l : List UInt8} (h : w.ownsRow B 5 1 v l.length (Lib.byteCells l)) (n : Nat) : (convert 43 9 v).run Tryz.prog (w.drewN n) = .ok (.string ⟨l.toArray⟩) (w.drewN n) := by
  rcases h.2 with ⟨rfl, h0⟩ | ⟨g, cap, cur, rfl, hb, hg, h1, h2, h3, h4⟩
  · have : l = [] := List.eq_nil_of_length_eq_zero h0
    subst this
    rw [run_convert_bytes_string (w.drewN n) 43 9 5 none 0 0 Tryz.underlying43 Tryz.underlying5 Tryz.underlying9]
    simp [Conv.bytesToString]
    rfl
  · refine run_convert_bytes_back (w.drewN n) 43 9 5 ⟨g, 0, none⟩ cap l Tryz.underlying43 Tryz.underlying5 Tryz.underlying9 ?_
    intro j hj
    have := h.cells (g := g) rfl j (.int .u8 (l[j].toNat : Int)) (by simp [Lib.byteCells, hj])
    exact this

theorem own_str {w : World} {B : Nat} {v : Value} {l : List UInt8} {t : ByteArray} (h : w.ownsRow B 5 1 v (l.length + t.size) (Lib.byteCells l ++ Lib.strCells t)) : w.ownsRow B 5 1 v (l ++ t.data.toList).length (Lib.byteCells (l ++ t.data.toList)) := by
  have e1 : (l ++ t.data.toList).length = l.length + t.size := by rw [List.length_append]; rfl
  have e2 : Lib.byteCells (l ++ t.data.toList) = Lib.byteCells l ++ Lib.strCells t := by simp [Lib.byteCells, Lib.strCells]
  rw [e1, e2]; exact h

theorem own_bytes {w : World} {B : Nat} {v : Value} {l t : List UInt8} (h : w.ownsRow B 5 1 v (l.length + t.length) (Lib.byteCells l ++ Lib.byteCells t)) : w.ownsRow B 5 1 v (l ++ t).length (Lib.byteCells (l ++ t)) := by
  have e2 : Lib.byteCells (l ++ t) = Lib.byteCells l ++ Lib.byteCells t := by simp [Lib.byteCells]
  rw [List.length_append, e2]; exact h

set_option maxHeartbeats 2000000 in
theorem taken_any (s : ByteArray) (w : World) (hs : s.size ≤ 3000) :
    Calls Tryz.prog 106 #[.string s] w fun e w' => e = .returned (.tuple #[.string ⟨(takeL s.data.toList).1.toArray⟩, .bool (takeL s.data.toList).2]) ∧ Keeps [] w w' := by
  obtain ⟨T, hTk⟩ : ∃ T, takeL s.data.toList = T := ⟨_, rfl⟩
  rw [hTk]
  have HT := hide hTk
  clear hTk
  obtain ⟨i0, hi, hz0, hz1, hz2⟩ := info_parts Tryz.info5
  go_enter Tryz.func106, Tryz.ntmps106
  go_wp2_with fail
  refine (new_any s _).mono ?_
  rintro e w1 ⟨rfl, hw1⟩
  have hT1 : IsText w1 w.heap.size s 0 := by rw [hw1]; exact heap_alloc_new w _
  have hk1 : Keeps [] w w1 := by rw [hw1]; exact (Keeps.refl [] w).alloc _
  have hsz1 : w1.heap.size = w.heap.size + 1 := by rw [hw1]; simp
  have HZ := hide hsz1
  clear hw1 hsz1
  go_wp2_with (at_make; refine wpList_make_own _ rfl _ _ 43 rfl (w.heap.size + 1) 5 i0 (.int .u8 0) 1 Tryz.underlying43 hi hz0 hz1 .i64 .i64 _ s.size rfl rfl rfl (by rw [hz2]; omega) (by unfold maxLen; omega) (Nat.le_of_eq HZ.out.symm) ?_; intro w2 ho2 hg2)
  have hT2 : IsText w2 w.heap.size s 0 := by rw [IsText, hg2.block _ (by have := HZ.out; omega) (by simp)]; exact hT1
  have hk2 : Keeps [] w w2 := hk1.grown hg2 (by simp)
  clear hT1 hk1 hg2
  go_loopw [3, 5] (fun r v wr => ∃ (k : Nat) (o : List UInt8) (rt : Bool), k ≤ s.size ∧ r = .bool rt ∧ wr.ownsRow (w.heap.size + 1) 5 1 v o.length (Lib.byteCells o) ∧ IsText wr w.heap.size s k ∧ Keeps [] w wr ∧ Hid (Done s k o rt))
    (fun _ _ wr => s.size - (intOf ((wr.cell? ⟨w.heap.size, 1, none⟩).getD undef)).toNat)
  case atStart => exact ⟨0, [], true, Nat.zero_le _, rfl, ho2, hT2, hk2, done_start s⟩
  case round =>
    obtain ⟨k, o, rt, hk, rfl, ho, hT, hkp, hD⟩ := hrel
    clear ho2 hT2 hk2 HZ
    by_cases hlt : k < s.size
    · have hd : decide (s.size ≤ k) = false := by simp; omega
      by_cases hc : byteAt s k = 38
      · have HS := done_sign hD.out hlt hc
        have HD := hide HS.1
        have hp1 := HS.2.1
        have hp2 := HS.2.2
        have hn : o.length ≤ 100000 := by have := hD.out.2; omega
        clear HS hD
        go_wp2_with fail
        refine (done_any _ _ _ _ hT).mono ?_
        rintro e w3 ⟨rfl, n, rfl⟩
        go_wp2_with fail
        refine (peek_yes _ s k _ (by exact hT) hlt).mono ?_
        rintro e w3 ⟨rfl, n, rfl⟩
        rw [hc]
        go_wp2_with fail
        refine (takeSign_any _ s k _ (w.heap.size + 1) _ _ _ hs (by exact hT) hlt (by exact ho) hn (by exact hT.lt)).mono ?_
        generalize takeOne (s.data.toList.drop k) = T1 at *
        rintro e w4 ⟨v4, rfl, ho4, hT4, hk4⟩
        have hk4' : Keeps [] w w4 := keeps_own (hkp.up.trans (keeps_of_drewN hk4)) (fun g hg => (ho.lt g hg).1)
        have HD2 := hide (done_pass HD.out)
        have ho4' := own_bytes ho4
        have hrl := restLen_le s _ hp2
        have hn4 : (o ++ T1.1).length ≤ 100000 := by have := HD.out.2; omega
        have hex : (s.extract (k + T1.2.1) (k + T1.2.1 + restLen s (k + T1.2.1))).size ≤ 3000 := by simp; omega
        clear ho4 hk4 HD
        cases rt
        all_goals
          go_wp2_with fail
          refine (pass54 _ s (k + T1.2.1) _ hs (by exact hT4) hp2).mono ?_
          rintro e w5 ⟨rfl, hT5, hk5⟩
          have hk5' : Keeps [] w w5 := keeps_new (hk4'.up.trans hk5)
          have ho5 := hk5.owns ho4' (fun g hg => by have := (ho4'.lt g hg).1; simp; omega)
          have hsz5 := hT5.lt
          generalize s.extract (k + T1.2.1) (k + T1.2.1 + restLen s (k + T1.2.1)) = t at *
          go_wp2_with (at_builtin; refine Lib.wpList_append_own_string _ rfl _ _ 43 9 rfl (w.heap.size + 1) 5 i0 Tryz.underlying43 Tryz.underlying9 hi hz0 hz1 hz2 _ _ _ rfl ho5 t rfl ?c1 ?c2 ?c3 ?_)
          case c1 => unfold maxLen; omega
          case c2 => omega
          case c3 => omega
          intro v6 w6 ho6 hg6 _
          have hT6 := hT5.keeps (keeps_row hg6) (fun h => by simp at h; have := (ho5.lt _ h).1; omega)
          have hk6 : Keeps [] w w6 := hk5'.grown hg6 (fun g hg => .inr (by have := (ho5.lt _ hg).1; omega))
          go_wp2_with fail
          go_roundw
          case rel => exact ⟨k + T1.2.1 + restLen s (k + T1.2.1), o ++ T1.1 ++ t.data.toList, _, by omega, rfl, own_str (by rw [List.length_append]; exact ho6), hT6, hk6, HD2⟩
          case measure =>
            rw [hT6.cell1, hT.cell1]
            simp only [intOf, Option.getD_some]
            omega
      · have hne : (((byteAt s k).toNat : Int) == 38) = false := by
          have := byte_beq (byteAt s k) 38
          rw [show ((38 : UInt8).toNat : Int) = 38 from rfl] at this
          rw [this]; simpa using hc
        have HD := hide (done_pass hD.out)
        have hp1 := restLen_pos s k hlt hc
        have hp2 := restLen_le s k hk
        have hn : o.length ≤ 100000 := by have := hD.out.2; omega
        have hex : (s.extract k (k + restLen s k)).size ≤ 3000 := by simp; omega
        clear hc hD
        go_wp2_with fail
        refine (done_any _ _ _ _ hT).mono ?_
        rintro e w3 ⟨rfl, n, rfl⟩
        go_wp2_with fail
        refine (peek_yes _ s k _ (by exact hT) hlt).mono ?_
        rintro e w3 ⟨rfl, n, rfl⟩
        go_wp2_with fail
        refine (pass54 _ s k _ hs (by exact hT) hk).mono ?_
        rintro e w4 ⟨rfl, hT4, hk4⟩
        have hk4' : Keeps [] w w4 := keeps_new (hkp.up.trans (keeps_of_drewN hk4))
        have ho4 := (keeps_of_drewN hk4).owns ho (fun g hg => by have := (ho.lt g hg).1; simp; omega)
        have hsz4 := hT4.lt
        generalize s.extract k (k + restLen s k) = t at *
        go_wp2_with (at_builtin; refine Lib.wpList_append_own_string _ rfl _ _ 43 9 rfl (w.heap.size + 1) 5 i0 Tryz.underlying43 Tryz.underlying9 hi hz0 hz1 hz2 _ _ _ rfl ho4 t rfl ?c1 ?c2 ?c3 ?_)
        case c1 => unfold maxLen; omega
        case c2 => omega
        case c3 => omega
        intro v5 w5 ho5 hg5 _
        have hT5 : IsText w5 w.heap.size s (k + restLen s k) := hT4.keeps (keeps_row hg5) (fun h => by simp at h; have := (ho.lt _ h).1; omega)
        have hk5 : Keeps [] w w5 := hk4'.grown hg5 (fun g hg => .inr (by have := (ho.lt _ hg).1; omega))
        go_wp2_with fail
        go_roundw
        case rel => exact ⟨k + restLen s k, o ++ t.data.toList, rt, by omega, rfl, own_str ho5, hT5, hk5, HD⟩
        case measure =>
          rw [hT5.cell1, hT.cell1]
          simp only [intOf, Option.getD_some]
          omega
    · have hd : decide (s.size ≤ k) = true := by simp; omega
      have hcv := own_string ho
      have HE := hide (HT.out.symm.trans (done_end hD.out (by omega)))
      go_wp2_with fail
      refine (done_any _ _ _ _ hT).mono ?_
      rintro e w3 ⟨rfl, n, rfl⟩
      go_wp2_with fail
      go_ret2
      rw [HE.out]
      exact ⟨rfl, hkp.drewN _⟩
end Go.Proofs.YtngojdajamgababGreat
