/- Take as a function on lists of bytes. taken: what Take and Strict answer of a text. Put, Take and Strict: what each answers, of whatever text, and that nothing that was there is changed. Bytes and names of markup, as functions. The calls of scan and token that look at one byte. Lower: a text in small letters; isName. The document's way to tell a sign, and the program's: they come to the same. The small calls of the document's answer: between, startsAt, digit, row, PutOf, tooLong. strings.Index, laid at this program. The other calls of package scan: Begins, Ahead, Rest, PassTo; and token.take. -/
import Derived.Test.YtlcljanibjdejaaGreatSo01
import Derived.Laws.IdiomStrings
import Derived.Shelf.Strings.Search3
import Derived.Shelf.LaysM
import Derived.Shelf.Strings.Shaped
namespace Go.Proofs.YtlcljanibjdejaaGreat
/-- Take, with as many steps as are allowed. -/
def takeF : Nat → List UInt8 → List UInt8 × Bool
  | 0, _ => ([], true)
  | _ + 1, [] => ([], true)
  | f + 1, c :: l =>
    if c = 38 then ((takeOne (c :: l)).1 ++ (takeF f ((c :: l).drop (takeOne (c :: l)).2.1)).1, (takeOne (c :: l)).2.2 && (takeF f ((c :: l).drop (takeOne (c :: l)).2.1)).2)
    else (c :: (takeF f l).1, (takeF f l).2)
/-- Take: the text, and whether Strict answers it. -/
def takeL (l : List UInt8) : List UInt8 × Bool := takeF l.length l
theorem takeF_more : ∀ (f g : Nat) (l : List UInt8), l.length ≤ f → l.length ≤ g → takeF f l = takeF g l
  | 0, g, l, h1, _ => by
    have : l = [] := List.eq_nil_of_length_eq_zero (by omega)
    subst this
    cases g <;> rfl
  | f + 1, 0, l, _, h2 => by
    have : l = [] := List.eq_nil_of_length_eq_zero (by omega)
    subst this
    rfl
  | f + 1, g + 1, [], _, _ => rfl
  | f + 1, g + 1, c :: l, h1, h2 => by
    simp only [List.length_cons] at h1 h2
    have hle := takeOne_le (c :: l) (by simp)
    simp only [List.length_cons] at hle
    have ha := takeF_more f g ((c :: l).drop (takeOne (c :: l)).2.1) (by simp only [List.length_drop, List.length_cons]; omega) (by simp only [List.length_drop, List.length_cons]; omega)
    have hb := takeF_more f g l (by omega) (by omega)
    simp only [takeF, ha, hb]
theorem takeL_nil : takeL [] = ([], true) := rfl
theorem takeL_and (c : UInt8) (l : List UInt8) (h : c = 38) :
    takeL (c :: l) = ((takeOne (c :: l)).1 ++ (takeL ((c :: l).drop (takeOne (c :: l)).2.1)).1, (takeOne (c :: l)).2.2 && (takeL ((c :: l).drop (takeOne (c :: l)).2.1)).2) := by
  have hle := takeOne_le (c :: l) (by simp)
  simp only [List.length_cons] at hle
  have e : takeL ((c :: l).drop (takeOne (c :: l)).2.1) = takeF l.length ((c :: l).drop (takeOne (c :: l)).2.1) :=
    takeF_more _ _ _ (Nat.le_refl _) (by simp only [List.length_drop, List.length_cons]; omega)
  rw [e]
  unfold takeL
  rw [List.length_cons, takeF, if_pos h]
theorem takeL_other (c : UInt8) (l : List UInt8) (h : c ≠ 38) : takeL (c :: l) = (c :: (takeL l).1, (takeL l).2) := by
  unfold takeL
  rw [List.length_cons, takeF, if_neg h]
theorem takeL_pass : ∀ l : List UInt8, takeL l = (l.takeWhile noAnd ++ (takeL (l.drop (l.takeWhile noAnd).length)).1, (takeL (l.drop (l.takeWhile noAnd).length)).2)
  | [] => by simp [takeL_nil]
  | c :: l => by
    by_cases h : c = 38
    · have : noAnd c = false := by simp [noAnd, h]
      simp [this]
    · have hn : noAnd c = true := by simp [noAnd, h]
      rw [takeL_other c l h]
      have ih := takeL_pass l
      rw [ih]
      simp [hn]
/-- What is put is taken as it was. -/
theorem take_amp (l : List UInt8) : takeOne (38 :: 97 :: 109 :: 112 :: 59 :: l) = ([38], 5, true) := by
  simp [takeOne, signL, inName, toldL, standsL, Lib.encodeRune, Lib.encodeRuneZ]
theorem take_lt (l : List UInt8) : takeOne (38 :: 108 :: 116 :: 59 :: l) = ([60], 4, true) := by
  simp [takeOne, signL, inName, toldL, standsL, Lib.encodeRune, Lib.encodeRuneZ]
theorem take_gt (l : List UInt8) : takeOne (38 :: 103 :: 116 :: 59 :: l) = ([62], 4, true) := by
  simp [takeOne, signL, inName, toldL, standsL, Lib.encodeRune, Lib.encodeRuneZ]
theorem take_quot (l : List UInt8) : takeOne (38 :: 113 :: 117 :: 111 :: 116 :: 59 :: l) = ([34], 6, true) := by
  simp [takeOne, signL, inName, toldL, standsL, Lib.encodeRune, Lib.encodeRuneZ]
theorem takeL_putB (c : UInt8) (l : List UInt8) : takeL (putB c ++ l) = (c :: (takeL l).1, (takeL l).2) := by
  unfold putB
  split
  · rename_i h; subst h
    simp only [List.cons_append, List.nil_append]
    rw [takeL_and _ _ rfl, take_amp]
    simp
  · split
    · rename_i h; subst h
      simp only [List.cons_append, List.nil_append]
      rw [takeL_and _ _ rfl, take_lt]
      simp
    · split
      · rename_i h; subst h
        simp only [List.cons_append, List.nil_append]
        rw [takeL_and _ _ rfl, take_gt]
        simp
      · split
        · rename_i h; subst h
          simp only [List.cons_append, List.nil_append]
          rw [takeL_and _ _ rfl, take_quot]
          simp
        · rename_i h _ _ _
          exact takeL_other c l h
theorem takeL_putL : ∀ l : List UInt8, takeL (putL l) = (l, true)
  | [] => rfl
  | c :: l => by
    have := takeL_putL l
    simp only [putL, List.flatMap_cons] at this ⊢
    rw [takeL_putB, this]
end Go.Proofs.YtlcljanibjdejaaGreat
namespace Go.Proofs.YtlcljanibjdejaaGreat
open Go.RowKit
/-- How many bytes that are no & come from a place on. -/
def restLen (s : ByteArray) (k : Nat) : Nat := passLen noAnd (s.data.toList.drop k)
theorem pass54 (b : Nat) (s : ByteArray) (k : Nat) (w : World) (hs : s.size ≤ 3000) (hT : IsText w b s k) (hk : k ≤ s.size) :
    Calls Tryz.prog 158 #[.pointer (some ⟨b, 0, none⟩), .func (.func 262) #[] #[]] w fun e w' =>
      e = .returned (.string (s.extract k (k + restLen s k))) ∧ IsText w' b s (k + restLen s k) ∧ Keeps [b] w w' :=
  pass_any 262 #[] noAnd b s k w hs hT hk enters262 fun c w1 _ => (noAnd_any c w1).mono fun _ _ ⟨he, hw⟩ => ⟨he, 0, hw⟩
theorem restLen_le (s : ByteArray) (k : Nat) (hk : k ≤ s.size) : k + restLen s k ≤ s.size := by
  have h1 : (s.data.toList.drop k).length = s.size - k := by rw [List.length_drop]; rfl
  have h2 : restLen s k ≤ (s.data.toList.drop k).length := (List.takeWhile_sublist _).length_le
  omega
/-- What is taken up to a place, and what is to come. -/
def Done (s : ByteArray) (k : Nat) (o : List UInt8) (r : Bool) : Prop :=
  takeL s.data.toList = (o ++ (takeL (s.data.toList.drop k)).1, r && (takeL (s.data.toList.drop k)).2) ∧ o.length ≤ 4 * k
theorem done_start (s : ByteArray) : Done s 0 [] true := by simp [Done]
theorem done_end {s : ByteArray} {k : Nat} {o : List UInt8} {r : Bool} (h : Done s k o r) (hk : s.size ≤ k) : takeL s.data.toList = (o, r) := by
  have e := h.1
  rw [List.drop_eq_nil_of_le (by exact hk), takeL_nil] at e
  simpa using e
theorem drop_byteAt (s : ByteArray) (k : Nat) (hk : k < s.size) : s.data.toList.drop k = byteAt s k :: s.data.toList.drop (k + 1) := by
  have hl : k < s.data.toList.length := by simpa using hk
  rw [List.drop_eq_getElem_cons hl]
  simp [byteAt, List.getElem?_eq_getElem hl]
theorem done_sign {s : ByteArray} {k : Nat} {o : List UInt8} {r : Bool} (h : Done s k o r) (hk : k < s.size) (hc : byteAt s k = 38) :
    Done s (k + (takeOne (s.data.toList.drop k)).2.1) (o ++ (takeOne (s.data.toList.drop k)).1) (r && (takeOne (s.data.toList.drop k)).2.2) ∧
      1 ≤ (takeOne (s.data.toList.drop k)).2.1 ∧ k + (takeOne (s.data.toList.drop k)).2.1 ≤ s.size := by
  have hl : (s.data.toList.drop k).length = s.size - k := by rw [List.length_drop]; rfl
  have hle := takeOne_le (s.data.toList.drop k) (by omega)
  have e := takeL_and (byteAt s k) (s.data.toList.drop (k + 1)) hc
  rw [← drop_byteAt s k hk, List.drop_drop] at e
  refine ⟨⟨?_, ?_⟩, hle.1, by omega⟩
  · rw [h.1, e]
    simp [Bool.and_assoc]
  · have := h.2
    simp only [List.length_append]
    omega
theorem done_pass {s : ByteArray} {k : Nat} {o : List UInt8} {r : Bool} (h : Done s k o r) :
    Done s (k + restLen s k) (o ++ (s.extract k (k + restLen s k)).data.toList) r := by
  have e := takeL_pass (s.data.toList.drop k)
  rw [List.drop_drop] at e
  have ex : (s.extract k (k + restLen s k)).data.toList = (s.data.toList.drop k).takeWhile noAnd := by
    rw [Lib.extract_data, Nat.add_sub_cancel_left]
    exact (List.prefix_iff_eq_take.1 (List.takeWhile_prefix _)).symm
  rw [ex]
  refine ⟨?_, ?_⟩
  · rw [h.1, e]
    simp only [List.append_assoc]
    rfl
  · have := h.2
    simp only [List.length_append]
    have : ((s.data.toList.drop k).takeWhile noAnd).length = restLen s k := rfl
    omega
theorem restLen_pos (s : ByteArray) (k : Nat) (hk : k < s.size) (hc : byteAt s k ≠ 38) : 1 ≤ restLen s k := by
  unfold restLen passLen
  rw [drop_byteAt s k hk]
  have : noAnd (byteAt s k) = true := by simp [noAnd, hc]
  simp [this]
theorem keeps_new {w w' : World} (h : Keeps [w.heap.size] w w') : Keeps [] w w' := h.mono fun k hk hlt => by simp at hk; omega
theorem keeps_own {w w' : World} {row : Option Nat} (h : Keeps (w.heap.size :: row.toList) w w') (hr : ∀ g, row = some g → w.heap.size + 1 ≤ g) : Keeps [] w w' := h.mono fun k hk hlt => by
  simp at hk
  rcases hk with hk | hk
  · omega
  · have := hr k hk; omega
theorem Keeps.up {S : List Nat} {w w' : World} (h : Keeps [] w w') : Keeps S w w' := h.mono fun k hk => by simp at hk
theorem keeps_of_drewN {S : List Nat} {w w' : World} {n : Nat} (h : Keeps S (w.drewN n) w') : Keeps S w w' := ⟨h.os, h.tape, h.output, h.size, h.block⟩
theorem keeps_row {w w' : World} {row : Option Nat} (h : w.grownBy w' row) : Keeps row.toList w w' := (Keeps.refl _ w).grown h fun k e => .inl (by simp [e])
/-- A row of bytes as a string. -/
theorem own_string {w : World} {B : Nat} {v : Value} {l : List UInt8} (h : w.ownsRow B 5 1 v l.length (Lib.byteCells l)) (n : Nat) : (convert 107 9 v).run Tryz.prog (w.drewN n) = .ok (.string ⟨l.toArray⟩) (w.drewN n) := by
  rcases h.2 with ⟨rfl, h0⟩ | ⟨g, cap, cur, rfl, hb, hg, h1, h2, h3, h4⟩
  · have : l = [] := List.eq_nil_of_length_eq_zero h0
    subst this
    rw [run_convert_bytes_string (w.drewN n) 107 9 5 none 0 0 Tryz.underlying107 Tryz.underlying5 Tryz.underlying9]
    simp [Conv.bytesToString]
    rfl
  · refine run_convert_bytes_back (w.drewN n) 107 9 5 ⟨g, 0, none⟩ cap l Tryz.underlying107 Tryz.underlying5 Tryz.underlying9 ?_
    intro j hj
    have := h.cells (g := g) rfl j (.int .u8 (l[j].toNat : Int)) (by simp [Lib.byteCells, hj])
    exact this
theorem own_str {w : World} {B : Nat} {v : Value} {l : List UInt8} {t : ByteArray} (h : w.ownsRow B 5 1 v (l.length + t.size) (Lib.byteCells l ++ Lib.strCells t)) : w.ownsRow B 5 1 v (l ++ t.data.toList).length (Lib.byteCells (l ++ t.data.toList)) := by
  have e1 : (l ++ t.data.toList).length = l.length + t.size := by rw [List.length_append]; rfl
  have e2 : Lib.byteCells (l ++ t.data.toList) = Lib.byteCells l ++ Lib.strCells t := by simp [Lib.byteCells, Lib.strCells]
  rw [e1, e2]; exact h
theorem own_bytes {w : World} {B : Nat} {v : Value} {l t : List UInt8} (h : w.ownsRow B 5 1 v (l.length + t.length) (Lib.byteCells l ++ Lib.byteCells t)) : w.ownsRow B 5 1 v (l ++ t).length (Lib.byteCells (l ++ t)) := by
  have e2 : Lib.byteCells (l ++ t) = Lib.byteCells l ++ Lib.byteCells t := by simp [Lib.byteCells]
  rw [List.length_append, e2]; exact h
set_option maxHeartbeats 2000000 in
theorem taken_any (s : ByteArray) (w : World) (hs : s.size ≤ 3000) :
    Calls Tryz.prog 188 #[.string s] w fun e w' => e = .returned (.tuple #[.string ⟨(takeL s.data.toList).1.toArray⟩, .bool (takeL s.data.toList).2]) ∧ Keeps [] w w' := by
  obtain ⟨T, hTk⟩ : ∃ T, takeL s.data.toList = T := ⟨_, rfl⟩
  rw [hTk]
  have HT := hide hTk
  clear hTk
  obtain ⟨i0, hi, hz0, hz1, hz2⟩ := info_parts Tryz.info5
  go_enter Tryz.func188, Tryz.ntmps188
  go_wp2_with fail
  refine (new_any s _).mono ?_
  rintro e w1 ⟨rfl, hw1⟩
  have hT1 : IsText w1 w.heap.size s 0 := by rw [hw1]; exact heap_alloc_new w _
  have hk1 : Keeps [] w w1 := by rw [hw1]; exact (Keeps.refl [] w).alloc _
  have hsz1 : w1.heap.size = w.heap.size + 1 := by rw [hw1]; simp
  have HZ := hide hsz1
  clear hw1 hsz1
  go_wp2_with (at_make; refine wpList_make_own _ rfl _ _ 107 rfl (w.heap.size + 1) 5 i0 (.int .u8 0) 1 Tryz.underlying107 hi hz0 hz1 .i64 .i64 _ s.size rfl rfl rfl (by rw [hz2]; omega) (by unfold maxLen; omega) (Nat.le_of_eq HZ.out.symm) ?_; intro w2 ho2 hg2)
  have hT2 : IsText w2 w.heap.size s 0 := by rw [IsText, hg2.block _ (by have := HZ.out; omega) (by simp)]; exact hT1
  have hk2 : Keeps [] w w2 := hk1.grown hg2 (by simp)
  clear hT1 hk1 hg2
  go_loopw [3, 5] (fun r v wr => ∃ (k : Nat) (o : List UInt8) (rt : Bool), k ≤ s.size ∧ r = .bool rt ∧ wr.ownsRow (w.heap.size + 1) 5 1 v o.length (Lib.byteCells o) ∧ IsText wr w.heap.size s k ∧ Keeps [] w wr ∧ Hid (Done s k o rt))
    (fun _ _ wr => s.size - (intOf ((wr.cell? ⟨w.heap.size, 1, none⟩).getD undef)).toNat)
  case atStart => exact ⟨0, [], true, Nat.zero_le _, rfl, ho2, hT2, hk2, done_start s⟩
  case round =>
    obtain ⟨k, o, rt, hk, rfl, ho, hT, hkp, hD⟩ := hrel
    clear ho2 hT2 hk2 HZ
    by_cases hlt : k < s.size
    · have hd : decide (s.size ≤ k) = false := by simp; omega
      by_cases hc : byteAt s k = 38
      · have HS := done_sign hD.out hlt hc
        have HD := hide HS.1
        have hp1 := HS.2.1
        have hp2 := HS.2.2
        have hn : o.length ≤ 100000 := by have := hD.out.2; omega
        clear HS hD
        go_wp2_with fail
        refine (done_any _ _ _ _ hT).mono ?_
        rintro e w3 ⟨rfl, n, rfl⟩
        go_wp2_with fail
        refine (peek_yes _ s k _ (by exact hT) hlt).mono ?_
        rintro e w3 ⟨rfl, n, rfl⟩
        rw [hc]
        go_wp2_with fail
        refine (takeSign_any _ s k _ (w.heap.size + 1) _ _ _ hs (by exact hT) hlt (by exact ho) hn (by exact hT.lt)).mono ?_
        generalize takeOne (s.data.toList.drop k) = T1 at *
        rintro e w4 ⟨v4, rfl, ho4, hT4, hk4⟩
        have hk4' : Keeps [] w w4 := keeps_own (hkp.up.trans (keeps_of_drewN hk4)) (fun g hg => (ho.lt g hg).1)
        have HD2 := hide (done_pass HD.out)
        have ho4' := own_bytes ho4
        have hrl := restLen_le s _ hp2
        have hn4 : (o ++ T1.1).length ≤ 100000 := by have := HD.out.2; omega
        have hex : (s.extract (k + T1.2.1) (k + T1.2.1 + restLen s (k + T1.2.1))).size ≤ 3000 := by simp; omega
        clear ho4 hk4 HD
        cases rt
        all_goals
          go_wp2_with fail
          refine (pass54 _ s (k + T1.2.1) _ hs (by exact hT4) hp2).mono ?_
          rintro e w5 ⟨rfl, hT5, hk5⟩
          have hk5' : Keeps [] w w5 := keeps_new (hk4'.up.trans hk5)
          have ho5 := hk5.owns ho4' (fun g hg => by have := (ho4'.lt g hg).1; simp; omega)
          have hsz5 := hT5.lt
          generalize s.extract (k + T1.2.1) (k + T1.2.1 + restLen s (k + T1.2.1)) = t at *
          go_wp2_with (at_builtin; refine Lib.wpList_append_own_string _ rfl _ _ 107 9 rfl (w.heap.size + 1) 5 i0 Tryz.underlying107 Tryz.underlying9 hi hz0 hz1 hz2 _ _ _ rfl ho5 t rfl ?c1 ?c2 ?c3 ?_)
          case c1 => unfold maxLen; omega
          case c2 => omega
          case c3 => omega
          intro v6 w6 ho6 hg6 _
          have hT6 := hT5.keeps (keeps_row hg6) (fun h => by simp at h; have := (ho5.lt _ h).1; omega)
          have hk6 : Keeps [] w w6 := hk5'.grown hg6 (fun g hg => .inr (by have := (ho5.lt _ hg).1; omega))
          go_wp2_with fail
          go_roundw
          case rel => exact ⟨k + T1.2.1 + restLen s (k + T1.2.1), o ++ T1.1 ++ t.data.toList, _, by omega, rfl, own_str (by rw [List.length_append]; exact ho6), hT6, hk6, HD2⟩
          case measure =>
            rw [hT6.cell1, hT.cell1]
            simp only [intOf, Option.getD_some]
            omega
      · have hne : (((byteAt s k).toNat : Int) == 38) = false := by
          have := byte_beq (byteAt s k) 38
          rw [show ((38 : UInt8).toNat : Int) = 38 from rfl] at this
          rw [this]; simpa using hc
        have HD := hide (done_pass hD.out)
        have hp1 := restLen_pos s k hlt hc
        have hp2 := restLen_le s k hk
        have hn : o.length ≤ 100000 := by have := hD.out.2; omega
        have hex : (s.extract k (k + restLen s k)).size ≤ 3000 := by simp; omega
        clear hc hD
        go_wp2_with fail
        refine (done_any _ _ _ _ hT).mono ?_
        rintro e w3 ⟨rfl, n, rfl⟩
        go_wp2_with fail
        refine (peek_yes _ s k _ (by exact hT) hlt).mono ?_
        rintro e w3 ⟨rfl, n, rfl⟩
        go_wp2_with fail
        refine (pass54 _ s k _ hs (by exact hT) hk).mono ?_
        rintro e w4 ⟨rfl, hT4, hk4⟩
        have hk4' : Keeps [] w w4 := keeps_new (hkp.up.trans (keeps_of_drewN hk4))
        have ho4 := (keeps_of_drewN hk4).owns ho (fun g hg => by have := (ho.lt g hg).1; simp; omega)
        have hsz4 := hT4.lt
        generalize s.extract k (k + restLen s k) = t at *
        go_wp2_with (at_builtin; refine Lib.wpList_append_own_string _ rfl _ _ 107 9 rfl (w.heap.size + 1) 5 i0 Tryz.underlying107 Tryz.underlying9 hi hz0 hz1 hz2 _ _ _ rfl ho4 t rfl ?c1 ?c2 ?c3 ?_)
        case c1 => unfold maxLen; omega
        case c2 => omega
        case c3 => omega
        intro v5 w5 ho5 hg5 _
        have hT5 : IsText w5 w.heap.size s (k + restLen s k) := hT4.keeps (keeps_row hg5) (fun h => by simp at h; have := (ho.lt _ h).1; omega)
        have hk5 : Keeps [] w w5 := hk4'.grown hg5 (fun g hg => .inr (by have := (ho.lt _ hg).1; omega))
        go_wp2_with fail
        go_roundw
        case rel => exact ⟨k + restLen s k, o ++ t.data.toList, rt, by omega, rfl, own_str ho5, hT5, hk5, HD⟩
        case measure =>
          rw [hT5.cell1, hT.cell1]
          simp only [intOf, Option.getD_some]
          omega
    · have hd : decide (s.size ≤ k) = true := by simp; omega
      have hcv := own_string ho
      have HE := hide (HT.out.symm.trans (done_end hD.out (by omega)))
      go_wp2_with fail
      refine (done_any _ _ _ _ hT).mono ?_
      rintro e w3 ⟨rfl, n, rfl⟩
      go_wp2_with fail
      go_ret2
      rw [HE.out]
      exact ⟨rfl, hkp.drewN _⟩
end Go.Proofs.YtlcljanibjdejaaGreat
namespace Go.Proofs.YtlcljanibjdejaaGreat
open Go.RowKit
/-- A text and an errno, as a call answers them. -/
def two (a : List UInt8 × Int) : Ending := .returned (.tuple #[.string ⟨a.1.toArray⟩, .int .i64 a.2])
def putAns (l : List UInt8) : List UInt8 × Int := if 3000 < l.length then ([], 2) else (putL l, 0)
def takeAns (l : List UInt8) : List UInt8 × Int := if 3000 < l.length then ([], 2) else ((takeL l).1, 0)
theorem len_size (s : ByteArray) : s.data.toList.length = s.size := Array.length_toList
set_option maxHeartbeats 400000 in
theorem take_any (s : ByteArray) (w : World) (hm : s.size ≤ maxLen) :
    Calls Tryz.prog 101 #[.string s] w fun e w' => e = two (takeAns s.data.toList) ∧ Keeps [] w w' := by
  unfold maxLen at hm
  unfold takeAns
  rw [len_size]
  by_cases h : 3000 < s.size
  · rw [if_pos h]
    go_enter Tryz.func101, Tryz.ntmps101
    go_wp2_with fail
    go_ret2
    exact ⟨rfl, Keeps.refl _ _⟩
  · rw [if_neg h]
    generalize hT : takeL s.data.toList = T
    have HT := hide hT
    clear hT
    go_enter Tryz.func101, Tryz.ntmps101
    go_wp2_with fail
    refine (taken_any s _ (by omega)).mono ?_
    rintro e w1 ⟨rfl, hk⟩
    rw [HT.out]
    go_wp2_with fail
    go_ret2
    exact ⟨rfl, hk⟩
theorem byte_no {c d : UInt8} {k : Int} (hd : (d.toNat : Int) = k) (h : c ≠ d) : ((c.toNat : Int) == k) = false := by
  rw [← hd, byte_beq]; simpa using h
theorem keeps_row_new {w w' : World} {row : Option Nat} (h : Keeps row.toList w w') (hr : ∀ g, row = some g → w.heap.size ≤ g) : Keeps [] w w' := h.mono fun k hk hlt => by
  simp at hk
  have := hr k hk
  omega
set_option maxHeartbeats 1000000 in
theorem putByte_any (c : UInt8) (w : World) (B : Nat) (v : Value) (o : List UInt8) (ho : w.ownsRow B 5 1 v o.length (Lib.byteCells o)) (hn : o.length ≤ 100000) (hB : B ≤ w.heap.size) :
    Calls Tryz.prog 103 #[v, .int .u8 c.toNat] w fun e w' => ∃ v', e = .returned v' ∧ w'.ownsRow B 5 1 v' (o ++ putB c).length (Lib.byteCells (o ++ putB c)) ∧ Keeps v.ownBlock.toList w w' := by
  obtain ⟨i0, hi, hz0, hz1, hz2⟩ := info_parts Tryz.info5
  by_cases h1 : c = 38
  · subst h1
    go_enter Tryz.func103, Tryz.ntmps103
    go_wp2_with (at_builtin; refine Lib.wpList_append_own_string _ rfl _ _ 107 9 rfl B 5 i0 Tryz.underlying107 Tryz.underlying9 hi hz0 hz1 hz2 _ _ _ rfl ho ⟨#[38, 97, 109, 112, 59]⟩ rfl ?c1 ?c2 ?c3 ?_)
    case c1 => show o.length + 5 ≤ maxLen; unfold maxLen; omega
    case c2 => show o.length + 5 ≤ 140737488355328; omega
    case c3 => omega
    intro v' w1 ho1 hg1 _
    go_wp2_with fail
    go_ret
    exact ⟨v', rfl, own_str (t := ⟨#[38, 97, 109, 112, 59]⟩) ho1, keeps_row hg1⟩
  by_cases h2 : c = 60
  · subst h2
    go_enter Tryz.func103, Tryz.ntmps103
    go_wp2_with (at_builtin; refine Lib.wpList_append_own_string _ rfl _ _ 107 9 rfl B 5 i0 Tryz.underlying107 Tryz.underlying9 hi hz0 hz1 hz2 _ _ _ rfl ho ⟨#[38, 108, 116, 59]⟩ rfl ?c1 ?c2 ?c3 ?_)
    case c1 => show o.length + 4 ≤ maxLen; unfold maxLen; omega
    case c2 => show o.length + 4 ≤ 140737488355328; omega
    case c3 => omega
    intro v' w1 ho1 hg1 _
    go_wp2_with fail
    go_ret
    exact ⟨v', rfl, own_str (t := ⟨#[38, 108, 116, 59]⟩) ho1, keeps_row hg1⟩
  by_cases h3 : c = 62
  · subst h3
    go_enter Tryz.func103, Tryz.ntmps103
    go_wp2_with (at_builtin; refine Lib.wpList_append_own_string _ rfl _ _ 107 9 rfl B 5 i0 Tryz.underlying107 Tryz.underlying9 hi hz0 hz1 hz2 _ _ _ rfl ho ⟨#[38, 103, 116, 59]⟩ rfl ?c1 ?c2 ?c3 ?_)
    case c1 => show o.length + 4 ≤ maxLen; unfold maxLen; omega
    case c2 => show o.length + 4 ≤ 140737488355328; omega
    case c3 => omega
    intro v' w1 ho1 hg1 _
    go_wp2_with fail
    go_ret
    exact ⟨v', rfl, own_str (t := ⟨#[38, 103, 116, 59]⟩) ho1, keeps_row hg1⟩
  by_cases h4 : c = 34
  · subst h4
    go_enter Tryz.func103, Tryz.ntmps103
    go_wp2_with (at_builtin; refine Lib.wpList_append_own_string _ rfl _ _ 107 9 rfl B 5 i0 Tryz.underlying107 Tryz.underlying9 hi hz0 hz1 hz2 _ _ _ rfl ho ⟨#[38, 113, 117, 111, 116, 59]⟩ rfl ?c1 ?c2 ?c3 ?_)
    case c1 => show o.length + 6 ≤ maxLen; unfold maxLen; omega
    case c2 => show o.length + 6 ≤ 140737488355328; omega
    case c3 => omega
    intro v' w1 ho1 hg1 _
    go_wp2_with fail
    go_ret
    exact ⟨v', rfl, own_str (t := ⟨#[38, 113, 117, 111, 116, 59]⟩) ho1, keeps_row hg1⟩
  have hp : putB c = [c] := by simp [putB, h1, h2, h3, h4]
  have e1 : ((c.toNat : Int) == 38) = false := byte_no (d := 38) rfl h1
  have e2 : ((c.toNat : Int) == 60) = false := byte_no (d := 60) rfl h2
  have e3 : ((c.toNat : Int) == 62) = false := byte_no (d := 62) rfl h3
  have e4 : ((c.toNat : Int) == 34) = false := byte_no (d := 34) rfl h4
  rw [hp]
  clear hp h1 h2 h3 h4
  go_enter Tryz.func103, Tryz.ntmps103
  go_wp2_with (at_builtin; refine wpList_append_own _ rfl _ _ 107 rfl B 5 i0 (.int .u8 0) 1 1 Tryz.underlying107 hi hz0 hz1 hz2 rfl (by decide) _ _ _ rfl (ho.alloc _) ⟨w.heap.size, 0, none⟩ 1 1 [.int .u8 c.toNat] rfl rfl ?c1 ?c2 ?c3 ?c4 ?c5 ?_)
  case c1 =>
    intro j u hj
    match j, hj with
    | 0, hj => simp at hj; subst hj; simp [Addr.add]
  case c2 => intro u hu; simp at hu; subst hu; rfl
  case c3 => unfold maxLen; omega
  case c4 => omega
  case c5 => simp; omega
  intro v' w1 ho1 hg1 _
  go_wp2_with fail
  go_ret
  exact ⟨v', rfl, own_bytes (t := [c]) ho1, ((Keeps.refl _ w).alloc _).grown hg1 fun k e => .inl (by simp [e])⟩
/-- What is put of a text's first bytes. -/
def putTo (s : ByteArray) (k : Nat) : List UInt8 := putL (s.data.toList.take k)
theorem putTo_zero (s : ByteArray) : putTo s 0 = [] := by simp [putTo, putL]
theorem putTo_succ (s : ByteArray) (k : Nat) (hk : k < s.size) : putTo s (k + 1) = putTo s k ++ putB s[k] := by
  have hl : k < s.data.toList.length := by simpa using hk
  unfold putTo
  rw [List.take_succ_eq_append_getElem hl, putL_append]
  simp [putL]
  rfl
theorem putTo_len (s : ByteArray) (k : Nat) : (putTo s k).length ≤ 6 * k := by
  have h1 := putL_le (s.data.toList.take k)
  have h2 := List.length_take_le k s.data.toList
  unfold putTo
  omega
theorem putTo_all (s : ByteArray) : putTo s s.size = putL s.data.toList := by
  unfold putTo
  rw [List.take_of_length_le (by exact Nat.le_of_eq Array.length_toList)]
set_option maxRecDepth 100000 in
set_option maxHeartbeats 1000000 in
theorem put_any (s : ByteArray) (w : World) (hm : s.size ≤ maxLen) :
    Calls Tryz.prog 32 #[.string s] w fun e w' => e = two (putAns s.data.toList) ∧ Keeps [] w w' := by
  unfold maxLen at hm
  unfold putAns
  rw [len_size]
  by_cases h : 3000 < s.size
  · rw [if_pos h]
    go_enter Tryz.func32, Tryz.ntmps32
    go_wp2_with fail
    go_ret2
    exact ⟨rfl, Keeps.refl _ _⟩
  · rw [if_neg h, ← putTo_all]
    obtain ⟨i0, hi, hz0, hz1, hz2⟩ := info_parts Tryz.info5
    go_enter Tryz.func32, Tryz.ntmps32
    go_wp2_with (at_make; refine wpList_make_own _ rfl _ _ 107 rfl w.heap.size 5 i0 (.int .u8 0) 1 Tryz.underlying107 hi hz0 hz1 .i64 .i64 _ s.size rfl rfl rfl (by rw [hz2]; omega) (by unfold maxLen; omega) (Nat.le_refl _) ?_; intro w2 ho2 hg2)
    have hk2 : Keeps [] w w2 := (Keeps.refl [] w).grown hg2 (by simp)
    go_loopw [4, 5] (fun v i wr => ∃ k : Nat, k ≤ s.size ∧ i = .int .i64 k ∧ wr.ownsRow w.heap.size 5 1 v (putTo s k).length (Lib.byteCells (putTo s k)) ∧ Keeps [] w wr) (fun _ i _ => s.size - (intOf i).toNat)
    case atStart => exact ⟨0, Nat.zero_le _, rfl, by rw [putTo_zero]; exact ho2, hk2⟩
    case round =>
      obtain ⟨k, hk, rfl, ho, hkp⟩ := hrel
      clear ho2 hk2 hg2
      have hlen := putTo_len s k
      by_cases hlt : k < s.size
      · have HS := hide (putTo_succ s k hlt)
        go_wp2_with fail
        refine (putByte_any s[k] _ w.heap.size _ _ (by exact ho) (by omega) (by exact hkp.size)).mono ?_
        rintro e w3 ⟨v3, rfl, ho3, hk3⟩
        rw [← HS.out] at ho3
        have hk3' : Keeps [] w w3 := keeps_row_new (hkp.up.trans hk3) fun g hg => (ho.lt g hg).1
        go_wp2_with fail
        go_roundw
        case rel => exact ⟨k + 1, by omega, by go_num, ho3, hk3'⟩
        case measure => simp [intOf]; omega
      · have hcv := own_string ho 0
        rw [show wr.drewN 0 = wr from rfl] at hcv
        have he : k = s.size := by omega
        subst he
        go_wp2_with fail
        go_ret2
        exact ⟨rfl, hkp⟩
end Go.Proofs.YtlcljanibjdejaaGreat
namespace Go.Proofs.YtlcljanibjdejaaGreat
def smallB (c : UInt8) : Bool := decide (97 ≤ c.toNat) && decide (c.toNat ≤ 122)
def bigB (c : UInt8) : Bool := decide (65 ≤ c.toNat) && decide (c.toNat ≤ 90)
def letterB (c : UInt8) : Bool := smallB c || bigB c
def digB (c : UInt8) : Bool := decide (48 ≤ c.toNat) && decide (c.toNat ≤ 57)
def whiteB (c : UInt8) : Bool := c == 9 || c == 10 || c == 12 || c == 13 || c == 32
def lowB (c : UInt8) : UInt8 := if bigB c then c + 32 else c
def lowerL (l : List UInt8) : List UInt8 := l.map lowB
def nameB (c : UInt8) : Bool := smallB c || digB c || c == 45
def isNameL (l : List UInt8) : Bool := decide (1 ≤ l.length) && decide (l.length ≤ 20) && smallB (l.getD 0 0) && l.all nameB
def tagN (c : UInt8) : Bool := !whiteB c && c != 47 && c != 62
def attrN (c : UInt8) : Bool := !whiteB c && c != 47 && c != 62 && c != 61
def valN (c : UInt8) : Bool := !whiteB c && c != 62
def skipB (c : UInt8) : Bool := whiteB c || c == 47
def noLt (c : UInt8) : Bool := c != 60
end Go.Proofs.YtlcljanibjdejaaGreat
namespace Go.Proofs.YtlcljanibjdejaaGreat
open Go.RowKit
theorem bne_at {c d : UInt8} {k : Int} (hd : (d.toNat : Int) = k) : (c != d) = ((c.toNat : Int) != k) := by rw [← hd, byte_bne]
theorem beq_at {c d : UInt8} {k : Int} (hd : (d.toNat : Int) = k) : (c == d) = ((c.toNat : Int) == k) := by rw [← hd, byte_beq]
set_option maxHeartbeats 400000 in
theorem small_any (c : UInt8) (w : World) : Calls Tryz.prog 225 #[.int .u8 c.toNat] w fun e w' => e = .returned (.bool (smallB c)) ∧ w' = w := by
  unfold smallB
  have hc : c.toNat < 256 := UInt8.toNat_lt c
  generalize c.toNat = n at *
  rcases (show n < 97 ∨ (97 ≤ n ∧ n ≤ 122) ∨ 122 < n from by omega) with h | h | h
  all_goals
    go_enter Tryz.func225, Tryz.ntmps225
    go_wp2
    go_ret
    refine ⟨ret_bool ?_, rfl⟩
    first
      | (simp; omega)
      | (rw [Bool.eq_iff_iff]; simp; omega)
set_option maxHeartbeats 400000 in
theorem dig_any (c : UInt8) (w : World) : Calls Tryz.prog 285 #[.int .u8 c.toNat] w fun e w' => e = .returned (.bool (digB c)) ∧ w' = w := by
  unfold digB
  have hc : c.toNat < 256 := UInt8.toNat_lt c
  generalize c.toNat = n at *
  rcases (show n < 48 ∨ (48 ≤ n ∧ n ≤ 57) ∨ 57 < n from by omega) with h | h | h
  all_goals
    go_enter Tryz.func285, Tryz.ntmps285
    go_wp2
    go_ret
    refine ⟨ret_bool ?_, rfl⟩
    first
      | (simp; omega)
      | (rw [Bool.eq_iff_iff]; simp; omega)
set_option maxHeartbeats 400000 in
theorem letter_any (c : UInt8) (w : World) : Calls Tryz.prog 224 #[.int .u8 c.toNat] w fun e w' => e = .returned (.bool (letterB c)) ∧ w' = w := by
  have hc : c.toNat < 256 := UInt8.toNat_lt c
  cases hs : smallB c
  · have hl : letterB c = (decide ((65 : Int) ≤ (c.toNat : Int)) && decide ((c.toNat : Int) ≤ 90)) := by
      unfold letterB bigB; rw [hs, Bool.eq_iff_iff]; simp; omega
    rw [hl]
    have hsm := hide (fun w => hs ▸ small_any c w)
    clear hs hl
    generalize c.toNat = n at *
    by_cases h : 65 ≤ n
    · go_enter Tryz.func224, Tryz.ntmps224
      go_wp2_with (go_at_call 225; refine (hsm.out _).mono ?_; rintro e w' ⟨rfl, rfl⟩)
      go_ret
      refine ⟨ret_bool ?_, rfl⟩
      rw [Bool.eq_iff_iff]; simp; omega
    · go_enter Tryz.func224, Tryz.ntmps224
      go_wp2_with (go_at_call 225; refine (hsm.out _).mono ?_; rintro e w' ⟨rfl, rfl⟩)
      go_ret
      refine ⟨ret_bool ?_, rfl⟩
      rw [Bool.eq_iff_iff]; simp; omega
  · have hl : letterB c = true := by unfold letterB; rw [hs]; rfl
    rw [hl]
    have hsm := hide (fun w => hs ▸ small_any c w)
    clear hs hl
    go_enter Tryz.func224, Tryz.ntmps224
    go_wp2_with (go_at_call 225; refine (hsm.out _).mono ?_; rintro e w' ⟨rfl, rfl⟩)
    go_ret
    exact ⟨rfl, rfl⟩
theorem white_eq (c : UInt8) : whiteB c = ((c.toNat : Int) == 9 || (c.toNat : Int) == 10 || (c.toNat : Int) == 12 || (c.toNat : Int) == 13 || (c.toNat : Int) == 32) := by
  unfold whiteB
  rw [beq_at (d := 9) rfl, beq_at (d := 10) rfl, beq_at (d := 12) rfl, beq_at (d := 13) rfl, beq_at (d := 32) rfl]
  rfl
set_option maxHeartbeats 400000 in
theorem white_any (c : UInt8) (w : World) : Calls Tryz.prog 292 #[.int .u8 c.toNat] w fun e w' => e = .returned (.bool (whiteB c)) ∧ w' = w := by
  rw [white_eq]
  go_enter Tryz.func292, Tryz.ntmps292
  go_wp2
  all_goals go_ret
  all_goals exact ⟨ret_bool (by simp [*]), rfl⟩
set_option maxHeartbeats 400000 in
theorem noLt_any (c : UInt8) (w : World) : Calls Tryz.prog 159 #[.int .u8 c.toNat] w fun e w' => e = .returned (.bool (noLt c)) ∧ w' = w := by
  go_enter Tryz.func159, Tryz.ntmps159
  go_wp2
  go_ret
  exact ⟨ret_bool (byte_bne c 60), rfl⟩
set_option maxHeartbeats 400000 in
theorem tagN_any (c : UInt8) (w : World) : Calls Tryz.prog 291 #[.int .u8 c.toNat] w fun e w' => e = .returned (.bool (tagN c)) ∧ w' = w := by
  unfold tagN
  rw [bne_at (c := c) (d := 47) rfl, bne_at (c := c) (d := 62) rfl]
  have hw := hide (fun w => white_any c w)
  generalize whiteB c = b at *
  cases b
  all_goals
    go_enter Tryz.func291, Tryz.ntmps291
    go_wp2_with (go_at_call 292; refine (hw.out _).mono ?_; rintro e w' ⟨rfl, rfl⟩)
    all_goals go_ret
    all_goals exact ⟨ret_bool (by simp [*]), rfl⟩
set_option maxHeartbeats 400000 in
theorem attrN_any (c : UInt8) (w : World) : Calls Tryz.prog 318 #[.int .u8 c.toNat] w fun e w' => e = .returned (.bool (attrN c)) ∧ w' = w := by
  unfold attrN
  rw [bne_at (c := c) (d := 47) rfl, bne_at (c := c) (d := 62) rfl, bne_at (c := c) (d := 61) rfl]
  have hw := hide (fun w => white_any c w)
  generalize whiteB c = b at *
  cases b
  all_goals
    go_enter Tryz.func318, Tryz.ntmps318
    go_wp2_with (go_at_call 292; refine (hw.out _).mono ?_; rintro e w' ⟨rfl, rfl⟩)
    all_goals go_ret
    all_goals exact ⟨ret_bool (by simp [*]), rfl⟩
set_option maxHeartbeats 400000 in
theorem valN_any (c : UInt8) (w : World) : Calls Tryz.prog 335 #[.int .u8 c.toNat] w fun e w' => e = .returned (.bool (valN c)) ∧ w' = w := by
  unfold valN
  rw [bne_at (c := c) (d := 62) rfl]
  have hw := hide (fun w => white_any c w)
  generalize whiteB c = b at *
  cases b
  all_goals
    go_enter Tryz.func335, Tryz.ntmps335
    go_wp2_with (go_at_call 292; refine (hw.out _).mono ?_; rintro e w' ⟨rfl, rfl⟩)
    all_goals go_ret
    all_goals exact ⟨ret_bool (by simp [*]), rfl⟩
set_option maxHeartbeats 400000 in
theorem skip_any (c : UInt8) (w : World) : Calls Tryz.prog 293 #[.int .u8 c.toNat] w fun e w' => e = .returned (.bool (skipB c)) ∧ w' = w := by
  unfold skipB
  rw [beq_at (c := c) (d := 47) rfl]
  have hw := hide (fun w => white_any c w)
  generalize whiteB c = b at *
  cases b
  all_goals
    go_enter Tryz.func293, Tryz.ntmps293
    go_wp2_with (go_at_call 292; refine (hw.out _).mono ?_; rintro e w' ⟨rfl, rfl⟩)
    all_goals go_ret
    all_goals exact ⟨ret_bool (by simp [*]), rfl⟩
set_option maxHeartbeats 400000 in
theorem quote_any (c q : UInt8) (p : Addr) (w : World) (hq : w.cell? p = some (.int .u8 q.toNat)) : Calls Tryz.prog 336 #[.int .u8 c.toNat, .pointer (some p)] w fun e w' => e = .returned (.bool (c != q)) ∧ w' = w := by
  go_enter Tryz.func336, Tryz.ntmps336
  go_wp2
  go_ret
  exact ⟨ret_bool (byte_bne c q), rfl⟩
end Go.Proofs.YtlcljanibjdejaaGreat
namespace Go.Proofs.YtlcljanibjdejaaGreat
open Go.RowKit
/-- A block's first cells are these bytes, and may be written. -/
def RowAt (w : World) (b : Nat) (l : List UInt8) : Prop := ∀ j (_ : j < l.length), w.cell? ⟨b, j, none⟩ = some (.int .u8 (l[j].toNat : Int)) ∧ w.frozen? ⟨b, j, none⟩ = false
theorem bytes_new (s : ByteArray) (w : World) : ∃ W cap, (convert 9 107 (.string s)).run Tryz.prog w = .ok (.slice (some ⟨w.heap.size, 0, none⟩) s.size cap) W ∧ RowAt W w.heap.size s.data.toList ∧ Keeps [] w W := by
  refine ⟨_, _, run_bytes_of_string w 9 107 5 s Tryz.underlying9 Tryz.underlying107 Tryz.underlying5, ?_, ?_⟩
  · intro j hj
    have hj' : j < s.size := by simpa using hj
    have hh := heap_alloc_new w.drew (.cells (bytesRow s (grownCap w s.size 0 5)) 5 ((bytesRow s (grownCap w s.size 0 5)).size, (bytesRow s (grownCap w s.size 0 5)).size + 1))
    rw [show w.drew.heap.size = w.heap.size from rfl] at hh
    have hz : j < (bytesRow s (grownCap w s.size 0 5)).size := by
      simp only [bytesRow, Array.size_append, Array.size_map]
      exact Nat.lt_of_lt_of_le hj' (Nat.le_add_right _ _)
    constructor
    · unfold World.cell?
      rw [hh]
      have hd : j < s.data.size := hj'
      simp only [bytesRow, Option.isSome_none, Bool.false_eq_true, if_false]
      rw [Array.getElem?_append_left (by simpa using hd), Array.getElem?_map, Array.getElem?_eq_getElem hd]
      rfl
    · unfold World.frozen?
      rw [hh]
      simp
      omega
  · exact ((Keeps.refl [] w).drew).alloc _
theorem RowAt.set {w : World} {b : Nat} {l : List UInt8} (h : RowAt w b l) {i : Nat} (hi : i < l.length) (c : UInt8) : RowAt (w.setCell ⟨b, i, none⟩ (.int .u8 (c.toNat : Int))) b (l.set i c) := by
  intro j hj
  rw [List.length_set] at hj
  constructor
  · by_cases hij : i = j
    · subst hij
      rw [World.cell?_setCell_same _ _ _ (h i hi).1]
      simp
    · rw [World.cell?_setCell_other]
      · rw [(h j hj).1]
        simp [hij]
      · simp
  · rw [World.frozen?_setCell]
    exact (h j hj).2
/-- The first k bytes in small letters, the others as they are. -/
def lowTo (l : List UInt8) (k : Nat) : List UInt8 := lowerL (l.take k) ++ l.drop k
theorem lowTo_len (l : List UInt8) (k : Nat) : (lowTo l k).length = l.length := by simp [lowTo, lowerL]; omega
theorem lowTo_get (l : List UInt8) (k : Nat) (hk : k < l.length) : (lowTo l k)[k]'(by rw [lowTo_len]; exact hk) = l[k] := by
  simp only [lowTo, lowerL]
  rw [List.getElem_append_right (by simp; omega)]
  simp [Nat.min_eq_left (Nat.le_of_lt hk)]
theorem lowTo_succ (l : List UInt8) (k : Nat) (hk : k < l.length) : lowTo l (k + 1) = (lowTo l k).set k (lowB l[k]) := by
  unfold lowTo lowerL
  rw [List.take_succ_eq_append_getElem hk, List.map_append, List.set_append_right _ _ (by simp; omega)]
  simp [Nat.min_eq_left (Nat.le_of_lt hk)]
  rw [List.drop_eq_getElem_cons hk]
  rfl
theorem lowTo_all (l : List UInt8) : lowTo l l.length = lowerL l := by simp [lowTo]
theorem lowTo_zero (l : List UInt8) : lowTo l 0 = l := by simp [lowTo, lowerL]
theorem low_val (c : UInt8) (h : bigB c = true) : ((lowB c).toNat : Int) = (c.toNat : Int) - 65 + 97 := by
  have hb : 65 ≤ c.toNat ∧ c.toNat ≤ 90 := by simpa [bigB] using h
  unfold lowB
  rw [if_pos h, UInt8.toNat_add]
  have : (32 : UInt8).toNat = 32 := rfl
  rw [this]
  omega
theorem add_zero (b j : Nat) : (⟨b, 0, none⟩ : Addr).add j = ⟨b, j, none⟩ := by
  by_cases h : j = 0 <;> simp [Addr.add, h]
set_option maxHeartbeats 1000000 in
theorem lower_any (s : ByteArray) (w : World) (hs : s.size ≤ 3000) :
    Calls Tryz.prog 149 #[.string s] w fun e w' => e = .returned (.string ⟨(lowerL s.data.toList).toArray⟩) ∧ Keeps [] w w' := by
  obtain ⟨W, cap, hcv, hrow, hkW⟩ := bytes_new s w
  have hl := len_size s
  go_enter Tryz.func149, Tryz.ntmps149
  go_wp2_with fail
  go_loopw [10] (fun i wr => ∃ k : Nat, k ≤ s.size ∧ i = .int .i64 k ∧ RowAt wr w.heap.size (lowTo s.data.toList k) ∧ Keeps [] w wr) (fun i _ => s.size - (intOf i).toNat)
  case atStart => exact ⟨0, Nat.zero_le _, rfl, by rw [lowTo_zero]; exact hrow, hkW⟩
  case round =>
    obtain ⟨k, hk, rfl, hr, hkp⟩ := hrel
    clear hcv hrow hkW
    by_cases hlt : k < s.size
    · have hk' : k < s.data.toList.length := by omega
      have hc1 := (hr k (by rw [lowTo_len]; exact hk')).1
      have hf1 := (hr k (by rw [lowTo_len]; exact hk')).2
      rw [lowTo_get _ _ hk'] at hc1
      have hsucc := lowTo_succ s.data.toList k hk'
      have hset : (lowTo s.data.toList k).set k s.data.toList[k] = lowTo s.data.toList k := by
        have := @List.set_getElem_self _ (lowTo s.data.toList k) k (by rw [lowTo_len]; exact hk')
        rwa [lowTo_get _ _ hk'] at this
      generalize s.data.toList[k] = c at *
      cases hb : bigB c
      · have e1 : lowTo s.data.toList (k + 1) = lowTo s.data.toList k := by
          rw [hsucc]
          have : lowB c = c := by simp [lowB, hb]
          rw [this]
          exact hset
        have HR : Hid (RowAt wr w.heap.size (lowTo s.data.toList (k + 1))) := by rw [e1]; exact hr
        clear hsucc e1 hset
        cases hsm : smallB c
        · have hl0 : letterB c = false := by simp [letterB, hb, hsm]
          have hLt := hide (fun w => hl0 ▸ letter_any c w)
          clear hb hsm hl0
          go_wp2_with (go_at_call 224; refine (hLt.out _).mono ?_; rintro e w' ⟨rfl, rfl⟩)
          go_roundw
          case rel => exact ⟨k + 1, by omega, by go_num, HR.out, hkp⟩
          case measure => simp [intOf]; omega
        · have hl0 : letterB c = true := by simp [letterB, hsm]
          have hLt := hide (fun w => hl0 ▸ letter_any c w)
          have hSm := hide (fun w => hsm ▸ small_any c w)
          clear hb hsm hl0
          go_wp2_with (first | (go_at_call 224; refine (hLt.out _).mono ?_; rintro e w' ⟨rfl, rfl⟩) | (go_at_call 225; refine (hSm.out _).mono ?_; rintro e w' ⟨rfl, rfl⟩))
          go_roundw
          case rel => exact ⟨k + 1, by omega, by go_num, HR.out, hkp⟩
          case measure => simp [intOf]; omega
      · have hv := low_val c hb
        have hb' : 65 ≤ c.toNat ∧ c.toNat ≤ 90 := by simpa [bigB] using hb
        have hLt := hide (fun w => (show letterB c = true from by simp [letterB, hb]) ▸ letter_any c w)
        have hs0 : smallB c = false := by simp [smallB]; omega
        have hSm := hide (fun w => hs0 ▸ small_any c w)
        clear hs0
        have HR := hide (hr.set (by rw [lowTo_len]; exact hk') (lowB c))
        rw [← hsucc, hv] at HR
        clear hsucc hb hv
        go_wp2_with (first | (go_at_call 224; refine (hLt.out _).mono ?_; rintro e w' ⟨rfl, rfl⟩) | (go_at_call 225; refine (hSm.out _).mono ?_; rintro e w' ⟨rfl, rfl⟩))
        go_roundw
        case rel => exact ⟨k + 1, by omega, by go_num, HR.out, hkp.setCell (by simp) _⟩
        case measure => simp [intOf]; omega
    · have he : lowTo s.data.toList k = lowerL s.data.toList := by rw [show k = s.data.toList.length from by omega]; exact lowTo_all _
      rw [he] at hr
      have hlen : (lowerL s.data.toList).length = s.size := by simp [lowerL]
      have hcv2 := run_convert_bytes_back (P := Tryz.prog) wr 107 9 5 ⟨w.heap.size, 0, none⟩ cap (lowerL s.data.toList) Tryz.underlying107 Tryz.underlying5 Tryz.underlying9 (fun j hj => by
        rw [add_zero]; exact (hr j hj).1)
      rw [hlen] at hcv2
      clear he hr
      go_wp2_with fail
      go_ret
      exact ⟨rfl, hkp⟩
/-- Of the first k bytes each may stand in a name. -/
theorem name_all (s : ByteArray) (h : ∀ i (hi : i < s.size), nameB s[i] = true) : s.data.toList.all nameB = true := by
  rw [List.all_eq_true]
  intro c hc
  obtain ⟨i, hi, rfl⟩ := List.getElem_of_mem hc
  exact h i (by simpa using hi)
theorem name_not (s : ByteArray) (i : Nat) (hi : i < s.size) (h : nameB s[i] = false) : s.data.toList.all nameB = false := by
  rw [Bool.eq_false_iff]
  intro ha
  have := List.all_eq_true.1 ha s[i] (by
    have hl : i < s.data.toList.length := by simpa using hi
    exact List.getElem_mem hl)
  rw [h] at this
  simp at this
set_option maxHeartbeats 1000000 in
theorem isName_loop (s : ByteArray) (w : World) (h1 : 1 ≤ s.size) (h2 : s.size ≤ 20) (h3 : smallB s[0] = true) :
    Calls Tryz.prog 231 #[.string s] w fun e w' => e = .returned (.bool (s.data.toList.all nameB)) ∧ w' = w := by
  obtain ⟨r, hr⟩ : ∃ r, s.data.toList.all nameB = r := ⟨_, rfl⟩
  rw [hr]
  have HR := hide hr
  clear hr
  have hne : s.toList.isEmpty = false := by
    rw [ByteArray.toList_eq]
    have := len_size s
    cases hq : s.data.toList with
    | nil => rw [hq] at this; simp at this; omega
    | cons a b => rfl
  have hs0 := hide (fun w => h3 ▸ small_any s[0] w)
  have hb20 : decide ((20 : Int) < (s.size : Int)) = false := by simp; omega
  clear h3
  go_enter Tryz.func231, Tryz.ntmps231
  go_wp2_with (go_at_call 225; refine (hs0.out _).mono ?_; rintro e w' ⟨rfl, rfl⟩)
  go_loop [3] (fun i => ∃ k : Nat, k ≤ s.size ∧ i = .int .i64 k ∧ Hid (∀ i (hi : i < s.size), i < k → nameB s[i] = true)) (fun i => s.size - (intOf i).toNat)
  case atStart => exact ⟨0, Nat.zero_le _, rfl, fun i hi h => by omega⟩
  case round =>
    obtain ⟨k, hk, rfl, hall⟩ := hrel
    by_cases hlt : k < s.size
    · cases hn : nameB s[k]
      · have hr : Hid (r = false) := HR.out.symm.trans (name_not s k hlt hn)
        have hs1 : smallB s[k] = false := by revert hn; unfold nameB; cases smallB s[k] <;> simp
        have hd1 : digB s[k] = false := by revert hn; unfold nameB; cases digB s[k] <;> simp
        have h45 : ((s[k].toNat : Int) != 45) = true := by
          rw [← bne_at (d := 45) (k := 45) rfl]
          revert hn; unfold nameB; cases hq : s[k] == 45
          · intro _; simpa using hq
          · simp
        have hS := hide (fun w => hs1 ▸ small_any s[k] w)
        have hD := hide (fun w => hd1 ▸ dig_any s[k] w)
        clear hn hs1 hd1 hall
        go_wp2_with (first | (go_at_call 225; refine (hS.out _).mono ?_; rintro e w' ⟨rfl, rfl⟩) | (go_at_call 285; refine (hD.out _).mono ?_; rintro e w' ⟨rfl, rfl⟩))
        go_ret
        rw [hr.out]
        exact ⟨rfl, rfl⟩
      · have hall' : Hid (∀ i (hi : i < s.size), i < k + 1 → nameB s[i] = true) := by
          intro i hi h
          by_cases hik : i = k
          · subst hik; exact hn
          · exact hall.out i hi (by omega)
        clear hall
        cases hs1 : smallB s[k]
        · have hS := hide (fun w => hs1 ▸ small_any s[k] w)
          cases hd1 : digB s[k]
          · have hD := hide (fun w => hd1 ▸ dig_any s[k] w)
            have h45 : ((s[k].toNat : Int) != 45) = false := by
              rw [← bne_at (d := 45) (k := 45) rfl]
              revert hn; unfold nameB; rw [hs1, hd1]; simp
            clear hn hs1 hd1
            go_wp2_with (first | (go_at_call 225; refine (hS.out _).mono ?_; rintro e w' ⟨rfl, rfl⟩) | (go_at_call 285; refine (hD.out _).mono ?_; rintro e w' ⟨rfl, rfl⟩))
            go_round
            case rel => exact ⟨k + 1, by omega, by go_num, hall'⟩
            case measure => simp [intOf]; omega
          · have hD := hide (fun w => hd1 ▸ dig_any s[k] w)
            clear hn hs1 hd1
            go_wp2_with (first | (go_at_call 225; refine (hS.out _).mono ?_; rintro e w' ⟨rfl, rfl⟩) | (go_at_call 285; refine (hD.out _).mono ?_; rintro e w' ⟨rfl, rfl⟩))
            go_round
            case rel => exact ⟨k + 1, by omega, by go_num, hall'⟩
            case measure => simp [intOf]; omega
        · have hS := hide (fun w => hs1 ▸ small_any s[k] w)
          clear hn hs1
          go_wp2_with (go_at_call 225; refine (hS.out _).mono ?_; rintro e w' ⟨rfl, rfl⟩)
          go_round
          case rel => exact ⟨k + 1, by omega, by go_num, hall'⟩
          case measure => simp [intOf]; omega
    · have hr : Hid (r = true) := HR.out.symm.trans (name_all s fun i hi => hall.out i hi (by omega))
      clear hall
      go_wp2
      go_ret
      rw [hr.out]
      exact ⟨rfl, rfl⟩
theorem isName_any (s : ByteArray) (w : World) (hs : s.size ≤ 3000) :
    Calls Tryz.prog 231 #[.string s] w fun e w' => e = .returned (.bool (isNameL s.data.toList)) ∧ w' = w := by
  unfold isNameL
  rw [len_size]
  by_cases h1 : 1 ≤ s.size
  · have e0 : s.data.toList.getD 0 0 = s[0] := byteAt_eq s 0 (by omega)
    have hne : s.toList.isEmpty = false := by
      rw [ByteArray.toList_eq]
      have := len_size s
      cases hq : s.data.toList with
      | nil => rw [hq] at this; simp at this; omega
      | cons a b => rfl
    rw [e0]
    by_cases h2 : s.size ≤ 20
    · cases h3 : smallB s[0]
      · have hs0 := hide (fun w => h3 ▸ small_any s[0] w)
        simp only [Bool.and_false, Bool.false_and]
        clear h3 e0
        go_enter Tryz.func231, Tryz.ntmps231
        go_wp2_with (go_at_call 225; refine (hs0.out _).mono ?_; rintro e w' ⟨rfl, rfl⟩)
        go_ret
        exact ⟨rfl, rfl⟩
      · refine (isName_loop s w h1 h2 h3).mono fun e w' ⟨he, hw⟩ => ⟨he.trans (ret_bool ?_), hw⟩
        simp [h1, h2]
    · rw [decide_eq_false h2]
      simp only [Bool.and_false, Bool.false_and]
      clear e0
      go_enter Tryz.func231, Tryz.ntmps231
      go_wp2
      go_ret
      exact ⟨rfl, rfl⟩
  · rw [decide_eq_false h1]
    simp only [Bool.false_and]
    have hne : s.toList.isEmpty = true := by
      rw [ByteArray.toList_eq]
      have := len_size s
      cases hq : s.data.toList with
      | nil => rfl
      | cons a b => rw [hq] at this; simp at this; omega
    go_enter Tryz.func231, Tryz.ntmps231
    go_wp2
    go_ret
    exact ⟨rfl, rfl⟩
end Go.Proofs.YtlcljanibjdejaaGreat
namespace Go.Proofs.YtlcljanibjdejaaGreat
/-- The name that stands at the head. -/
def nm (l : List UInt8) : List UInt8 := l.takeWhile inName
end Go.Proofs.YtlcljanibjdejaaGreat
namespace Go.Proofs.YtlcljanibjdejaaGreat
open Go.RowKit
/-- Does p stand at a place of s? -/
def stAt (s : ByteArray) (k : Nat) (p : List UInt8) : Bool := p.isPrefixOf (s.data.toList.drop k)
end Go.Proofs.YtlcljanibjdejaaGreat
namespace Go.Proofs
open Go.Shelf
def Tryz.lays143_ren : Go.Shelf.Ren := ⟨fun | 143 => 233 | 219 => 295 | 217 => 315 | 225 => 320 | 224 => 321 | 267 => 322 | 266 => 334 | 314 => 337 | n => n, fun | 9 => 9 | 3 => 3 | 4 => 4 | 5 => 5 | 46 => 245 | 146 => 274 | 51 => 270 | n => n, fun | 1 => 0 | n => n⟩
theorem Tryz.lays143 : Go.Proofs.Lays.n143 Tryz.prog Tryz.lays143_ren := {
  mixed := by kernel_rfl
  f143 := Tryz.func233.trans (congrArg some (by kernel_rfl))
  f217 := Tryz.func315.trans (congrArg some (by kernel_rfl))
  f219 := Tryz.func295.trans (congrArg some (by kernel_rfl))
  f224 := Tryz.func321.trans (congrArg some (by kernel_rfl))
  f225 := Tryz.func320.trans (congrArg some (by kernel_rfl))
  f266 := Tryz.func334.trans (congrArg some (by kernel_rfl))
  f267 := Tryz.func322.trans (congrArg some (by kernel_rfl))
  f314 := Tryz.func337.trans (congrArg some (by kernel_rfl))
  t3 := Tryz.underlying3
  a3 := Tryz.isAgg3
  z3 := Tryz.sizeOf3
  v3 := Tryz.zeroValue3
  t4 := Tryz.underlying4
  a4 := Tryz.isAgg4
  z4 := Tryz.sizeOf4
  v4 := Tryz.zeroValue4
  t5 := Tryz.underlying5
  a5 := Tryz.isAgg5
  z5 := Tryz.sizeOf5
  v5 := Tryz.zeroValue5
  t9 := Tryz.underlying9
  a9 := Tryz.isAgg9
  z9 := Tryz.sizeOf9
  v9 := Tryz.zeroValue9
  t46 := Tryz.underlying245
  a46 := Tryz.isAgg245
  z46 := Tryz.sizeOf245
  v46 := Tryz.zeroValue245
  t51 := Tryz.underlying270
  a51 := Tryz.isAgg270
  z51 := Tryz.sizeOf270
  v51 := Tryz.zeroValue270
  t146 := Tryz.underlying274
  a146 := Tryz.isAgg274
  z146 := Tryz.sizeOf274
  v146 := Tryz.zeroValue274
  g1 := by kernel_rfl }
open Go.RowKit Go.Lib in
theorem Tryz.strings_Index (s sub : ByteArray) (m : Int) (w : World) (hs : s.size < 4294967281) (hm : w.cell? ⟨0, 0, none⟩ = some (.int .i64 m)) :
    Calls Tryz.prog 233 #[.string s, .string sub] w fun e w' => e = .returned (.int .i64 (Lib.index s.data.toList sub.data.toList)) ∧ w' = w := Any.strings_Index Tryz.lays143 s sub m w hs hm
def Tryz.laysM143_ren : Go.Shelf.Ren := ⟨fun | 143 => 233 | 219 => 295 | 217 => 315 | 225 => 320 | 224 => 321 | 267 => 322 | 266 => 334 | 314 => 337 | n => n, fun | 9 => 9 | 3 => 3 | 4 => 4 | 5 => 5 | 46 => 245 | 146 => 274 | 51 => 270 | n => n, fun | 1 => 0 | n => n⟩
theorem Tryz.laysM143 : Go.Proofs.LaysM.n143 Tryz.prog Tryz.laysM143_ren := {
  mixed := by kernel_rfl
  f143 := Tryz.func233.trans (congrArg some (by kernel_rfl))
  f217 := Tryz.func315.trans (congrArg some (by kernel_rfl))
  f219 := Tryz.func295.trans (congrArg some (by kernel_rfl))
  f224 := Tryz.func321.trans (congrArg some (by kernel_rfl))
  f225 := Tryz.func320.trans (congrArg some (by kernel_rfl))
  f266 := Tryz.func334.trans (congrArg some (by kernel_rfl))
  f267 := Tryz.func322.trans (congrArg some (by kernel_rfl))
  f314 := Tryz.func337.trans (congrArg some (by kernel_rfl))
  t3 := Tryz.underlying3
  a3 := Tryz.isAgg3
  z3 := Tryz.sizeOf3
  v3 := Tryz.zeroValue3
  t4 := Tryz.underlying4
  a4 := Tryz.isAgg4
  z4 := Tryz.sizeOf4
  v4 := Tryz.zeroValue4
  t5 := Tryz.underlying5
  a5 := Tryz.isAgg5
  z5 := Tryz.sizeOf5
  v5 := Tryz.zeroValue5
  t9 := Tryz.underlying9
  a9 := Tryz.isAgg9
  z9 := Tryz.sizeOf9
  v9 := Tryz.zeroValue9
  t46 := Tryz.underlying245
  a46 := Tryz.isAgg245
  z46 := Tryz.sizeOf245
  v46 := Tryz.zeroValue245
  t51 := Tryz.underlying270
  a51 := Tryz.isAgg270
  z51 := Tryz.sizeOf270
  v51 := Tryz.zeroValue270
  t146 := Tryz.underlying274
  a146 := Tryz.isAgg274
  z146 := Tryz.sizeOf274
  v146 := Tryz.zeroValue274
  g1 := by kernel_rfl
  i3 := by kernel_rfl
  i4 := by kernel_rfl
  i5 := by kernel_rfl
  i9 := by kernel_rfl
  i46 := by kernel_rfl
  i51 := by kernel_rfl
  i146 := by kernel_rfl
  m1 := by kernel_rfl
  s1_3 := fun w h => Go.Proofs.cell_of_shapedOpen_int (zero := #[.int .i64 0]) (t := 3) h (of_decide_eq_true (by kernel_rfl)) (by kernel_rfl) rfl (by kernel_rfl) (by kernel_rfl) Tryz.underlying3 }
end Go.Proofs
namespace Go.Proofs.YtlcljanibjdejaaGreat
open Go.RowKit
set_option maxHeartbeats 400000 in
theorem begins_any (b : Nat) (s : ByteArray) (k : Nat) (p : ByteArray) (w : World) (hT : IsText w b s k) (hk : k ≤ s.size) :
    Calls Tryz.prog 155 #[.pointer (some ⟨b, 0, none⟩), .string p] w fun e w' => e = .returned (.bool (stAt s k p.data.toList)) ∧ ∃ n, w' = w.drewN n := by
  have c0 := hT.cell0
  have c1 := hT.cell1
  have e1 : Lib.hasPrefix (s.extract k s.size).data.toList p.data.toList = stAt s k p.data.toList := by rw [Lib.extract_to_end]; rfl
  have hp := hide (fun w => e1 ▸ Tryz.strings_HasPrefix (s.extract k s.size) p w)
  generalize stAt s k p.data.toList = r at *
  clear e1
  go_enter Tryz.func155, Tryz.ntmps155
  go_wp2_with fail
  go_quiet ((go_at_call 220; exact Calls.quiet_of_same (hp.out _)))
  go_wp2
  go_ret
  exact ⟨rfl, _, rfl⟩
set_option maxHeartbeats 400000 in
theorem ahead_any (b : Nat) (s : ByteArray) (k n : Nat) (w : World) (hs : s.size ≤ 3000) (hT : IsText w b s k) (hk : k ≤ s.size) (hn : n ≤ 3000) :
    Calls Tryz.prog 228 #[.pointer (some ⟨b, 0, none⟩), .int .i64 n, .func (.func 224) #[] #[]] w fun e w' => e = .returned (.bool (decide (k + n < s.size) && letterB (byteAt s (k + n)))) ∧ ∃ n, w' = w.drewN n := by
  have c0 := hT.cell0
  have c1 := hT.cell1
  by_cases h : k + n < s.size
  · have hd : decide ((n : Int) < (s.size : Int) - (k : Int)) = true := by simp; omega
    have hlt : (n : Int) < (s.size : Int) - (k : Int) := by omega
    have hlt2 : (k : Int) + (n : Int) < (s.size : Int) := by omega
    have hlt3 : (0 : Int) ≤ (k : Int) + (n : Int) := by omega
    rw [decide_eq_true h, byteAt_eq s _ h]
    have hl := hide (fun w => letter_any s[k + n] w)
    generalize letterB s[k + n] = r at *
    go_enter Tryz.func228, Tryz.ntmps228
    go_wp2_with fail
    go_quiet ((go_at_call 224; exact Calls.quiet_of_same (hl.out _)))
    go_wp2
    go_ret
    exact ⟨by simp, _, rfl⟩
  · have hd : decide ((n : Int) < (s.size : Int) - (k : Int)) = false := by simp; omega
    rw [decide_eq_false h]
    go_enter Tryz.func228, Tryz.ntmps228
    go_wp2_with fail
    go_quiet (fail)
    go_wp2
    go_ret
    exact ⟨rfl, _, rfl⟩
set_option maxHeartbeats 400000 in
theorem rest_any (b : Nat) (s : ByteArray) (k : Nat) (w : World) (hT : IsText w b s k) (hk : k ≤ s.size) :
    Calls Tryz.prog 80 #[.pointer (some ⟨b, 0, none⟩)] w fun e w' => e = .returned (.string (s.extract k s.size)) ∧ IsText w' b s s.size ∧ Keeps [b] w w' := by
  have c0 := hT.cell0
  have c1 := hT.cell1
  have f1 := hT.free1
  go_enter Tryz.func80, Tryz.ntmps80
  go_wp2_with fail
  go_quiet (fail)
  go_wp2
  go_ret
  exact ⟨rfl, hT.set s.size, ((Keeps.refl _ _).setCell (by simp) _).drewN _⟩
/-- The package's own variable holds some number. -/
def HasMax (w : World) : Prop := ∃ m, w.cell? ⟨0, 0, none⟩ = some (.int .i64 m)
theorem HasMax.lt {w : World} (h : HasMax w) : 0 < w.heap.size := by
  obtain ⟨m, hm⟩ := h
  rcases Nat.lt_or_ge 0 w.heap.size with h' | h'
  · exact h'
  · unfold World.cell? at hm
    rw [Array.getElem?_eq_none h'] at hm
    simp at hm
theorem HasMax.keeps {S : List Nat} {w w' : World} (h : HasMax w) (hk : Keeps S w w') (h0 : 0 ∉ S) : HasMax w' := by
  obtain ⟨m, hm⟩ := id h
  exact ⟨m, (World.cell?_of_block (a := ⟨0, 0, none⟩) (hk.block 0 h.lt h0)).trans hm⟩
theorem index_le : ∀ (l p : List UInt8), Lib.index l p ≤ l.length
  | [], p => by unfold Lib.index; split <;> simp
  | c :: l, p => by
    have := index_le l p
    unfold Lib.index
    split
    · simp; omega
    · split
      · simp; omega
      · simp; omega
/-- Where a mark ends, from a place on. -/
def endOf (mark l : List UInt8) : Option Nat := if Lib.index l mark < 0 then none else some ((Lib.index l mark).toNat + mark.length)
set_option maxHeartbeats 400000 in
theorem passTo_any (b : Nat) (s : ByteArray) (k : Nat) (p : ByteArray) (w : World) (hs : s.size ≤ 3000) (hp : p.size ≤ 3000) (hT : IsText w b s k) (hk : k ≤ s.size) (hM : HasMax w) :
    Calls Tryz.prog 156 #[.pointer (some ⟨b, 0, none⟩), .string p] w fun e w' =>
      ((∃ m, endOf p.data.toList (s.data.toList.drop k) = some m ∧ e = .returned (.string (s.extract k (k + m - p.size))) ∧ IsText w' b s (k + m)) ∨ (endOf p.data.toList (s.data.toList.drop k) = none ∧ e = .panicked gave ∧ IsText w' b s k)) ∧ Keeps [b] w w' := by
  have c0 := hT.cell0
  have c1 := hT.cell1
  have f1 := hT.free1
  obtain ⟨m, hm⟩ := hM
  obtain ⟨i, hi⟩ : ∃ i, Lib.index (s.data.toList.drop k) p.data.toList = i := ⟨_, rfl⟩
  have e1 : Lib.index (s.extract k s.size).data.toList p.data.toList = i := by rw [Lib.extract_to_end]; exact hi
  have hx := hide (fun n => e1 ▸ Tryz.strings_Index (s.extract k s.size) p m (w.drewN n) (by simp; omega) hm)
  have hge := Lib.index_ge (s.data.toList.drop k) p.data.toList
  have hle := index_le (s.data.toList.drop k) p.data.toList
  rw [List.length_drop, len_size, hi] at hle
  rw [hi] at hge
  have he := hide (show endOf p.data.toList (s.data.toList.drop k) = if i < 0 then none else some (i.toNat + p.size) from by unfold endOf; rw [hi, len_size])
  clear hm hi e1
  generalize endOf p.data.toList (s.data.toList.drop k) = E at *
  by_cases hneg : i < 0
  · go_enter Tryz.func156, Tryz.ntmps156
    go_wp2_with fail
    go_quiet ((go_at_call 233; exact Calls.quiet_of_same (hx.out _)))
    go_wp2_with fail
    refine (giveUp_any _).mono ?_
    rintro e w1 ⟨rfl, rfl⟩
    go_wp2_with fail
    exact ⟨rfl, .inr ⟨he.out.trans (if_pos hneg), rfl, hT⟩, (Keeps.refl _ _).drewN _⟩
  · obtain ⟨j, rfl⟩ : ∃ j : Nat, i = j := ⟨i.toNat, by omega⟩
    go_enter Tryz.func156, Tryz.ntmps156
    go_wp2_with fail
    go_quiet ((go_at_call 233; exact Calls.quiet_of_same (hx.out _)))
    go_wp2_with fail
    go_quiet (fail)
    go_wp2_with fail
    go_ret
    refine ⟨.inl ⟨j + p.size, he.out.trans (if_neg (by omega)), ?_, ?_⟩, ((Keeps.refl _ _).setCell (by simp) _).drewN _⟩
    · rw [show k + (j + p.size) - p.size = k + j from by omega]
      rfl
    · exact hT.set (k + (j + p.size))
set_option maxHeartbeats 400000 in
theorem tak_any (s : ByteArray) (w : World) (hs : s.size ≤ 3000) :
    Calls Tryz.prog 160 #[.string s] w fun e w' => e = .returned (.string ⟨(takeL s.data.toList).1.toArray⟩) ∧ Keeps [] w w' := by
  have ht : ∀ w, Calls Tryz.prog 101 #[.string s] w fun e w' => e = .returned (.tuple #[.string ⟨(takeL s.data.toList).1.toArray⟩, .int .i64 0]) ∧ Keeps [] w w' := fun w =>
    (take_any s w (by unfold maxLen; omega)).mono fun _ _ ⟨he, hk⟩ => ⟨he.trans (by unfold takeAns; rw [len_size, if_neg (by omega)]; rfl), hk⟩
  have HT := hide ht
  clear ht
  generalize (takeL s.data.toList).1 = r at *
  go_enter Tryz.func160, Tryz.ntmps160
  go_wp2_with fail
  refine (HT.out _).mono ?_
  rintro e w1 ⟨rfl, hk1⟩
  go_wp2_with fail
  go_ret
  exact ⟨rfl, hk1⟩
end Go.Proofs.YtlcljanibjdejaaGreat
