/- CleanGood holds: for every input the law returns true, and each argument reads behind the call as it read before; no condition. A part of its proof. -/
import Derived.Test.YtlcljanibjdejaaGreatCg12
import Derived.Lib.IndexLaws
namespace Go.Proofs.YtlcljanibjdejaaGreat
open Go.RowKit
def LastAt (l : List UInt8) (i : Int) : Prop := (i = -1 ∧ ∀ d ∈ l, d ≠ 47) ∨ ∃ k : Nat, i = k ∧ ∃ h : k < l.length, l[k] = 47 ∧ ∀ j (hj : j < l.length), k < j → l[j] ≠ 47
theorem LastAt.split {l : List UInt8} {k : Nat} (h : k < l.length) (h1 : l[k] = 47) (h2 : ∀ j (hj : j < l.length), k < j → l[j] ≠ 47) : l = l.take k ++ 47 :: l.drop (k + 1) ∧ ∀ d ∈ l.drop (k + 1), d ≠ 47 := by
  refine ⟨?_, ?_⟩
  · rw [← h1, List.getElem_cons_drop, List.take_append_drop]
  · intro d hd
    obtain ⟨j, hj, rfl⟩ := List.getElem_of_mem hd
    rw [List.getElem_drop]
    exact h2 _ _ (by omega)
theorem LastAt.cut {l : List UInt8} {i : Int} (h : LastAt l i) : cutLast l = l.take (max i 0).toNat ∧ (max i 0).toNat ≤ l.length := by
  rcases h with ⟨rfl, hn⟩ | ⟨k, rfl, hk, h1, h2⟩
  · rw [cutLast_none l hn]
    exact ⟨rfl, Nat.zero_le _⟩
  · obtain ⟨e, hn⟩ := LastAt.split hk h1 h2
    have : cutLast l = l.take k := by
      conv => lhs; rw [e]
      exact cutLast_at _ _ hn
    rw [this]
    have e2 : (max (k : Int) 0).toNat = k := by omega
    rw [e2]
    exact ⟨rfl, by omega⟩
theorem LastAt.up {l : List UInt8} {i : Int} (h : LastAt l i) : upSl l = l.take (i + 1).toNat ∧ -1 ≤ i ∧ i < l.length := by
  rcases h with ⟨rfl, hn⟩ | ⟨k, rfl, hk, h1, h2⟩
  · rw [upSl_none l hn]; simp; omega
  · obtain ⟨e, hn⟩ := LastAt.split hk h1 h2
    have : upSl l = l.take (k + 1) := by
      conv => lhs; rw [e]
      rw [upSl_at _ _ hn, List.take_succ_eq_append_getElem hk, h1]
    rw [this]
    have e2 : ((k : Int) + 1).toNat = k + 1 := by omega
    rw [e2]
    exact ⟨rfl, by omega, by omega⟩
theorem index_tw : ∀ l : List UInt8, (Lib.indexByte l 47 = -1 ∧ l.takeWhile noSl = l) ∨ (Lib.indexByte l 47 = (l.takeWhile noSl).length ∧ (l.takeWhile noSl).length < l.length)
  | [] => .inl ⟨rfl, rfl⟩
  | c :: l => by
    unfold Lib.indexByte
    by_cases h : c = 47
    · subst h
      right
      simp [noSl]
    · have hb : (c == 47) = false := by simpa using h
      have hn : noSl c = true := by simpa [noSl] using h
      rw [hb]
      rcases index_tw l with ⟨e1, e2⟩ | ⟨e1, e2⟩
      · left
        rw [e1]
        simp [hn, e2]
      · right
        rw [e1]
        have : (((l.takeWhile noSl).length : Int) == -1) = false := by simp
        rw [this]
        simp [hn]
        try omega
theorem first_index (l : List UInt8) (h : l ≠ []) : (Lib.indexByte (l.drop 1) 47 < 0 ∧ firstL l = l.length) ∨ (∃ k : Nat, Lib.indexByte (l.drop 1) 47 = k ∧ firstL l = k + 1) := by
  have hp := List.length_pos_iff.2 h
  unfold firstL
  rcases index_tw (l.drop 1) with ⟨e1, e2⟩ | ⟨e1, e2⟩
  · left
    rw [e1, e2, List.length_drop]
    exact ⟨by omega, by omega⟩
  · right
    exact ⟨_, e1, by omega⟩
set_option maxHeartbeats 1000000 in
theorem firstPart_any (X : ByteArray) (w : World) (h0 : 0 < X.size) (hX : X.size ≤ 100000) :
    Calls Tryz.prog 222 #[.string X] w fun e w' => e = .returned (.int .i64 (firstL X.data.toList)) ∧ w' = w := by
  have hi := hide (fun w => Tryz.strings_IndexByte (X.extract 1 X.size) 47 w)
  have e47 : (47 : Int).toNat.toUInt8 = 47 := by decide
  rw [Lib.extract_to_end, e47] at hi
  have hne : X.data.toList ≠ [] := by
    intro h
    have := len_size X
    rw [h] at this
    simp at this
    omega
  have hl := len_size X
  rcases first_index X.data.toList hne with ⟨h1, h2⟩ | ⟨k, h1, h2⟩
  · rw [h2, hl]
    generalize Lib.indexByte (X.data.toList.drop 1) 47 = i at *
    have hd : decide (i < 0) = true := by simpa using h1
    clear h2 hne hl
    go_enter Tryz.func222, Tryz.ntmps222
    go_wp2_with (go_at_call 287; refine (hi.out _).mono ?_; rintro e w' ⟨rfl, rfl⟩)
    go_ret
    exact ⟨by simp, rfl⟩
  · have hk := firstL_le _ hne
    rw [h2, hl] at hk
    rw [h2]
    rw [h1] at hi
    clear h2 hne h1 hl
    go_enter Tryz.func222, Tryz.ntmps222
    go_wp2_with (go_at_call 287; refine (hi.out _).mono ?_; rintro e w' ⟨rfl, rfl⟩)
    go_ret
    exact ⟨by simp, rfl⟩
set_option maxHeartbeats 2000000 in
theorem lastIndex_any (v : Value) (B : Nat) (l : List UInt8) (w : World) (h : w.ownsRow B 5 1 v l.length (Lib.byteCells l)) (hl : l.length ≤ 100000) :
    Calls Tryz.prog 316 #[v, .int .u8 47] w fun e w' => (∃ i, e = .returned (.int .i64 i) ∧ LastAt l i) ∧ w' = w := by
  obtain ⟨o, c, hv⟩ := row_form h
  subst hv
  go_enter Tryz.func316, Tryz.ntmps316
  go_wp2_with fail
  go_loopw [5] (fun i wr => ∃ k : Nat, k ≤ l.length ∧ i = .int .i64 ((k : Int) - 1) ∧ wr = w ∧ Hid (∀ j (hj : j < l.length), k ≤ j → l[j] ≠ 47)) (fun i _ => ((intOf i) + 1).toNat)
  case atStart => exact ⟨l.length, Nat.le_refl _, rfl, rfl, fun j hj h => by omega⟩
  case round =>
    obtain ⟨k, hk, rfl, rfl, hH⟩ := hrel
    by_cases h0 : k = 0
    · subst h0
      go_wp2_with fail
      go_ret
      exact ⟨⟨_, rfl, .inl ⟨rfl, fun d hd => by
        obtain ⟨j, hj, rfl⟩ := List.getElem_of_mem hd
        exact hH.out j hj (Nat.zero_le _)⟩⟩, rfl⟩
    · obtain ⟨m, rfl⟩ : ∃ m, k = m + 1 := ⟨k - 1, by omega⟩
      have e1 : (((m + 1 : Nat) : Int) - 1) = (m : Int) := by omega
      rw [e1]
      have hm : m < l.length := by omega
      rcases h.2 with ⟨he, h0'⟩ | ⟨g, cap, cur, he, _⟩
      · omega
      simp only [Value.slice.injEq] at he
      obtain ⟨rfl, _, rfl⟩ := he
      have hc := h.cells (g := g) rfl m (.int .u8 (l[m].toNat : Int)) (by simp [Lib.byteCells, hm])
      rw [add_zero] at hc
      have HH := hide h
      cases hb : ((l[m].toNat : Int) == 47)
      · have hne : l[m] ≠ 47 := by
          rw [← (beq_at rfl : (l[m] == 47) = ((l[m].toNat : Int) == 47))] at hb
          simpa using hb
        have HN : Hid (∀ j (hj : j < l.length), m ≤ j → l[j] ≠ 47) := fun j hj hmj => by
          rcases Nat.lt_or_ge m j with h' | h'
          · exact hH.out j hj (by omega)
          · have : j = m := by omega
            subst this
            exact hne
        clear hne hH h e1
        generalize l[m] = d at *
        go_wp2_with fail
        go_roundw
        case rel => exact ⟨m, by omega, by go_num, by first | rfl | trivial, HN⟩
        case measure => simp [intOf] <;> omega
      · have heq : l[m] = 47 := by
          rw [← (beq_at rfl : (l[m] == 47) = ((l[m].toNat : Int) == 47))] at hb
          simpa using hb
        have HQ := hide heq
        clear heq h e1
        go_wp2_with fail
        go_ret
        exact ⟨⟨_, rfl, .inr ⟨m, rfl, hm, HQ.out, fun j hj h' => hH.out j hj h'⟩⟩, rfl⟩
theorem bytesLast_any (v : Value) (B : Nat) (l : List UInt8) (w : World) (h : w.ownsRow B 5 1 v l.length (Lib.byteCells l)) (hl : l.length ≤ 100000) :
    Calls Tryz.prog 289 #[v, .int .u8 47] w fun e w' => (∃ i, e = .returned (.int .i64 i) ∧ LastAt l i) ∧ w' = w := by
  have hh := hide (lastIndex_any v B l w h hl)
  clear h
  go_enter Tryz.func289, Tryz.ntmps289
  go_wp2_with fail
  refine hh.out.mono ?_
  rintro e w1 ⟨⟨i, rfl, hi⟩, rfl⟩
  go_wp2_with fail
  go_ret
  exact ⟨⟨i, by simp, hi⟩, rfl⟩
theorem row_take {w : World} {B : Nat} {g cap : Nat} {l : List UInt8} (h : w.ownsRow B 5 1 (.slice (some ⟨g, 0, none⟩) l.length cap) l.length (Lib.byteCells l)) (m : Nat) (hm : m ≤ l.length) :
    w.ownsRow B 5 1 (.slice (some ⟨g, 0, none⟩) m cap) (l.take m).length (Lib.byteCells (l.take m)) := by
  rcases h.2 with ⟨h1, _⟩ | ⟨g', cap', cur, he, h2, h3, h4, h5, h6, h7⟩
  · simp at h1
  · simp at he
    obtain ⟨rfl, rfl⟩ := he
    have e1 : (l.take m).length = m := by simp; omega
    refine ⟨by rw [Lib.byteCells_length]; omega, .inr ⟨g, cap, cur, by rw [e1], h2, h3, by rw [e1]; omega, h5, h6, ?_⟩⟩
    rw [e1]
    simp only [Nat.mul_one] at h7 ⊢
    have : cur.toList.take m = (cur.toList.take l.length).take m := by rw [List.take_take, Nat.min_eq_left hm]
    rw [this, h7]
    simp [Lib.byteCells]
set_option maxHeartbeats 1000000 in
theorem withoutLast_any (v : Value) (B : Nat) (l : List UInt8) (w : World) (h : w.ownsRow B 5 1 v l.length (Lib.byteCells l)) (hl : l.length ≤ 100000) :
    Calls Tryz.prog 221 #[v] w fun e w' => (∃ v', e = .returned v' ∧ w.ownsRow B 5 1 v' (cutLast l).length (Lib.byteCells (cutLast l)) ∧ v'.ownBlock = v.ownBlock) ∧ w' = w := by
  have hb := hide (fun w h => bytesLast_any v B l w h hl)
  rcases h.2 with ⟨hv, h0⟩ | ⟨g, cap, cur, hv, _, _, hc1, hc2, _⟩
  · have hl0 : l = [] := List.eq_nil_of_length_eq_zero h0
    subst hl0
    subst hv
    have HH := hide h
    go_enter Tryz.func221, Tryz.ntmps221
    go_wp2_with fail
    refine (hb.out _ HH.out).mono ?_
    rintro e w1 ⟨⟨i, rfl, hi⟩, rfl⟩
    have hi' : i = -1 := by
      rcases hi with ⟨h1, _⟩ | ⟨k, _, hk, _⟩
      · exact h1
      · simp at hk
    subst hi'
    go_wp2_with fail
    go_ret
    exact ⟨⟨_, rfl, by simpa [cutLast, show (max (-1 : Int) 0).toNat = 0 from by decide] using HH.out, rfl⟩, rfl⟩
  · subst hv
    unfold maxLen at hc2
    have HH := hide h
    clear h
    go_enter Tryz.func221, Tryz.ntmps221
    go_wp2_with fail
    refine (hb.out _ HH.out).mono ?_
    rintro e w1 ⟨⟨i, rfl, hi⟩, rfl⟩
    obtain ⟨e1, e2⟩ := hi.cut
    obtain ⟨m, hm⟩ : ∃ m : Nat, max i 0 = m := ⟨(max i 0).toNat, by omega⟩
    rw [hm] at e1 e2
    simp only [Int.toNat_natCast] at e1 e2
    have E1 := hide e1
    clear e1
    go_wp2_with fail
    go_ret
    refine ⟨⟨_, rfl, ?_, rfl⟩, rfl⟩
    rw [E1.out]
    simpa [hm] using row_take HH.out m e2
theorem enters219 : Enters 219 := enters_of Tryz.func219 (by kernel_rfl) (by kernel_rfl)
theorem IsStr.free {w : World} {p : Nat} {x : ByteArray} (h : IsStr w p x) : w.frozen? ⟨p, 0, none⟩ = false := by
  simp [World.frozen?, IsStr] at h ⊢; simp [h]
theorem IsStr.set {w : World} {p : Nat} {x : ByteArray} (h : IsStr w p x) (y : ByteArray) : IsStr (w.setCell ⟨p, 0, none⟩ (.string y)) p y := by
  simp [World.setCell, IsStr, Array.getElem?_modify] at h ⊢; simp [h]
theorem set_rowU {w : World} {B : Nat} {e : TypeId} {z : Nat} {v : Value} {n : Nat} {xs : List Value} (h : w.ownsRow B e z v n xs) {a : Addr} (ha : v.ownBlock ≠ some a.block) (u : Value) : (w.setCell a u).ownsRow B e z v n xs :=
  ((Keeps.refl [a.block] w).setCell (.inl (by simp)) u).owns h fun k hk hm => ha (by simp at hm; rw [hk, hm])
set_option maxHeartbeats 400000 in
theorem begins31 (p : Nat) (X mark : ByteArray) (w : World) (h : IsStr w p X) (r : Bool) (hr : mark.data.toList.isPrefixOf X.data.toList = r) :
    Calls Tryz.prog 219 #[.string mark, .pointer (some ⟨p, 0, none⟩)] w fun e w' => e = .returned (.bool r) ∧ w' = w := by
  have c0 := h.cell
  have hp := hide (fun w => Tryz.strings_HasPrefix X mark w)
  have e : Lib.hasPrefix X.data.toList mark.data.toList = r := hr
  rw [e] at hp
  clear e hr
  go_enter Tryz.func219, Tryz.ntmps219
  go_wp2_with (go_at_call 220; refine (hp.out _).mono ?_; rintro e w' ⟨rfl, rfl⟩)
  go_ret
  exact ⟨by simp, rfl⟩
def strLen : Value → Nat
  | .string s => s.size
  | _ => 0
theorem eq_list (X : ByteArray) (l : List UInt8) : (X.toList == l) = decide (X.data.toList = l) := by
  rw [ByteArray.toList_eq, Bool.eq_iff_iff]; simp
theorem empty_iff (X : ByteArray) : X.toList.isEmpty = decide (X.data.toList = []) := by
  rw [ByteArray.toList_eq]; cases X.data.toList <;> simp
theorem own_stringU {w : World} {B : Nat} {v : Value} {l : List UInt8} (h : w.ownsRow B 5 1 v l.length (Lib.byteCells l)) : (convert 107 9 v).run Tryz.prog w = .ok (.string ⟨l.toArray⟩) w := by
  rcases h.2 with ⟨rfl, h0⟩ | ⟨g, cap, cur, rfl, hb, hg, h1, h2, h3, h4⟩
  · have : l = [] := List.eq_nil_of_length_eq_zero h0
    subst this
    rw [run_convert_bytes_string w 107 9 5 none 0 0 Tryz.underlying107 Tryz.underlying5 Tryz.underlying9]
    simp [Conv.bytesToString]
    rfl
  · refine run_convert_bytes_back w 107 9 5 ⟨g, 0, none⟩ cap l Tryz.underlying107 Tryz.underlying5 Tryz.underlying9 ?_
    intro j hj
    have := h.cells (g := g) rfl j (.int .u8 (l[j].toNat : Int)) (by simp [Lib.byteCells, hj])
    exact this
structure Do (w : World) (N : Nat) (R : List UInt8) (v : Value) (W : World) (X : ByteArray) (o : List UInt8) : Prop where
  str : IsStr W w.heap.size X
  row : W.ownsRow (w.heap.size + 1) 5 1 v o.length (Lib.byteCells o)
  left : dotsR X.data.toList o = R
  len : X.size + o.length ≤ N
  keeps : Keeps [] w W
theorem Do.ne {w : World} {N : Nat} {R : List UInt8} {v : Value} {W : World} {X : ByteArray} {o : List UInt8} (h : Do w N R v W X o) : v.ownBlock ≠ some w.heap.size := by
  intro e
  have := (h.row.lt _ e).1
  omega
theorem Do.next {w : World} {N : Nat} {R : List UInt8} {v : Value} {W : World} {X : ByteArray} {o : List UInt8} (h : Do w N R v W X o) (hne : X.data.toList ≠ []) (Y : ByteArray) (o' : List UInt8) (v' : Value) (W' : World)
    (hs : dotStep X.data.toList o = (Y.data.toList, o')) (hS : IsStr W' w.heap.size Y) (hr : W'.ownsRow (w.heap.size + 1) 5 1 v' o'.length (Lib.byteCells o')) (hk : Keeps [] w W') : Do w N R v' W' Y o' := by
  have h1 := dotsR_step X.data.toList o hne
  have h2 := dotStep_less X.data.toList o hne
  have h3 := h.len
  have h4 := len_size X
  have h5 := len_size Y
  rw [hs] at h1 h2
  simp only at h1 h2
  exact ⟨hS, hr, h1.symm.trans h.left, by omega, hk⟩
theorem step_less {X : ByteArray} {o : List UInt8} (hne : X.data.toList ≠ []) (Y : ByteArray) (o' : List UInt8)
    (hs : dotStep X.data.toList o = (Y.data.toList, o')) : Y.size < X.size := by
  have h2 := dotStep_less X.data.toList o hne
  have h4 := len_size X
  have h5 := len_size Y
  rw [hs] at h2
  simp only at h2
  omega
theorem mea (W : World) (p : Nat) (X : ByteArray) (h : IsStr W p X) : strLen ((W.cell? ⟨p, 0, none⟩).getD undef) = X.size := by rw [h.cell]; rfl
set_option maxRecDepth 4000 in
set_option maxHeartbeats 8000000 in
theorem withoutDots_any (s : ByteArray) (w : World) (hs : s.size ≤ 20000) :
    Calls Tryz.prog 147 #[.string s] w fun e w' => e = .returned (.string ⟨(dotsL s.data.toList).toArray⟩) ∧ Keeps [] w w' := by
  have hmf : ∀ (fn : Fn) (first cap : Array Value) (w : World), (Instr.makeFunc fn first cap).run Tryz.prog w = .ok (.func fn first cap) w := fun _ _ _ _ => rfl
  have hE := enters219
  unfold Enters at hE
  obtain ⟨i0, hi, hz0, hz1, hz2⟩ := info_parts Tryz.info5
  obtain ⟨R, hR⟩ : ∃ R, dotsL s.data.toList = R := ⟨_, rfl⟩
  rw [hR]
  have d0 : Do w 20000 R (.slice none 0 0) (w.alloc (.cells #[.string s] 9)) s [] :=
    ⟨heap_alloc_new _ _, ⟨rfl, .inl ⟨rfl, rfl⟩⟩, hR, by simpa using hs, (Keeps.refl [] w).alloc _⟩
  have D0 := hide d0
  clear hR d0
  go_enter Tryz.func147, Tryz.ntmps147
  go_wp2_with fail
  go_loopw [4] (fun v wr => ∃ (X : ByteArray) (o : List UInt8), Do w 20000 R v wr X o) (fun _ wr => strLen ((wr.cell? ⟨w.heap.size, 0, none⟩).getD undef))
  case atStart => exact ⟨s, [], D0.out⟩
  case round =>
    obtain ⟨X, o, D⟩ := hrel
    clear D0
    have c0 := D.str.cell
    have f0 := D.str.free
    have hln := D.len
    have hmea := hide (mea wr w.heap.size X D.str)
    by_cases he : X.data.toList = []
    · have hem : X.toList.isEmpty = true := by rw [empty_iff]; simpa using he
      have hl := D.left
      rw [he, dotsR_nil] at hl
      have hcv := own_stringU D.row
      have HL := hide hl
      have HK := hide D.keeps
      clear D hl he hE hmf
      go_wp2_with fail
      go_ret
      exact ⟨by rw [← HL.out]; simp, HK.out⟩
    · have HE := hide he
      have hem : X.toList.isEmpty = false := by rw [empty_iff]; simpa using HE.out
      clear he
      cases q1 : [46, 46, 47].isPrefixOf X.data.toList
      · have Q1 := hide q1
        clear q1
        cases q2 : [46, 47].isPrefixOf X.data.toList
        · have Q2 := hide q2
          clear q2
          cases q3 : [47, 46, 47].isPrefixOf X.data.toList
          · have Q3 := hide q3
            clear q3
            cases q4 : [47, 46, 46, 47].isPrefixOf X.data.toList
            · have Q4 := hide q4
              clear q4
              by_cases q5 : X.data.toList = [47, 46]
              · have Q5 := hide q5
                clear q5
                have hq : (X.toList == [47, 46]) = true := by rw [eq_list]; simpa using Q5.out
                have ST : Hid (dotStep X.data.toList o = ((⟨#[47]⟩ : ByteArray).data.toList, o)) := by
                  unfold dotStep
                  rw [if_neg (by rw [Q1.out]; simp), if_neg (by rw [Q2.out]; simp), if_neg (by rw [Q3.out]; simp), if_neg (by rw [Q4.out]; simp), if_pos Q5.out]
                  exact rfl
                go_wp2_with fail
                refine (begins31 _ X ⟨#[46, 46, 47]⟩ _ D.str false Q1.out).mono ?_
                rintro e w_1 ⟨rfl, rfl⟩
                go_wp2_with fail
                refine (begins31 _ X ⟨#[46, 47]⟩ _ D.str false Q2.out).mono ?_
                rintro e w_2 ⟨rfl, rfl⟩
                go_wp2_with fail
                refine (begins31 _ X ⟨#[47, 46, 47]⟩ _ D.str false Q3.out).mono ?_
                rintro e w_3 ⟨rfl, rfl⟩
                go_wp2_with fail
                refine (begins31 _ X ⟨#[47, 46, 46, 47]⟩ _ D.str false Q4.out).mono ?_
                rintro e w_4 ⟨rfl, rfl⟩
                go_wp2_with fail
                go_roundw
                case rel => exact ⟨⟨#[47]⟩, o, D.next HE.out ⟨#[47]⟩ o _ _ ST.out (D.str.set ⟨#[47]⟩) (set_rowU D.row (a := ⟨w.heap.size, 0, none⟩) D.ne _) (D.keeps.setCell (.inr (Nat.le_refl _)) _)⟩
                case measure =>
                  have h1 := mea _ _ _ ((D.str.set ⟨#[47]⟩) : IsStr _ w.heap.size ⟨#[47]⟩)
                  have h2 := step_less HE.out ⟨#[47]⟩ o ST.out
                  rw [h1, hmea.out]
                  exact h2
              · have Q5 := hide q5
                clear q5
                by_cases q6 : X.data.toList = [47, 46, 46]
                · have Q6 := hide q6
                  clear q6
                  have hq : (X.toList == [47, 46, 46]) = true := by rw [eq_list]; simpa using Q6.out
                  have ST : Hid (dotStep X.data.toList o = ((⟨#[47]⟩ : ByteArray).data.toList, (cutLast o))) := by
                    unfold dotStep
                    rw [if_neg (by rw [Q1.out]; simp), if_neg (by rw [Q2.out]; simp), if_neg (by rw [Q3.out]; simp), if_neg (by rw [Q4.out]; simp), if_neg Q5.out, if_pos Q6.out]
                    exact rfl
                  have hn5 : (X.toList == [47, 46]) = false := by rw [eq_list]; simpa using Q5.out
                  go_wp2_with fail
                  refine (begins31 _ X ⟨#[46, 46, 47]⟩ _ D.str false Q1.out).mono ?_
                  rintro e w_1 ⟨rfl, rfl⟩
                  go_wp2_with fail
                  refine (begins31 _ X ⟨#[46, 47]⟩ _ D.str false Q2.out).mono ?_
                  rintro e w_2 ⟨rfl, rfl⟩
                  go_wp2_with fail
                  refine (begins31 _ X ⟨#[47, 46, 47]⟩ _ D.str false Q3.out).mono ?_
                  rintro e w_3 ⟨rfl, rfl⟩
                  go_wp2_with fail
                  refine (begins31 _ X ⟨#[47, 46, 46, 47]⟩ _ D.str false Q4.out).mono ?_
                  rintro e w_4 ⟨rfl, rfl⟩
                  go_wp2_with fail
                  refine (withoutLast_any _ (w.heap.size + 1) o _ (set_rowU D.row (a := ⟨w.heap.size, 0, none⟩) D.ne (.string ⟨#[47]⟩)) (by omega)).mono ?_
                  rintro e w_9 ⟨⟨v9, rfl, hr9, hb9⟩, rfl⟩
                  obtain ⟨o9, c9, rfl⟩ := row_form hr9
                  go_wp2_with fail
                  go_roundw
                  case rel => exact ⟨⟨#[47]⟩, (cutLast o), D.next HE.out ⟨#[47]⟩ (cutLast o) _ _ ST.out (D.str.set ⟨#[47]⟩) hr9 (D.keeps.setCell (.inr (Nat.le_refl _)) _)⟩
                  case measure =>
                    have h1 := mea _ _ _ ((D.str.set ⟨#[47]⟩) : IsStr _ w.heap.size ⟨#[47]⟩)
                    have h2 := step_less HE.out ⟨#[47]⟩ (cutLast o) ST.out
                    rw [h1, hmea.out]
                    exact h2
                · have Q6 := hide q6
                  clear q6
                  by_cases q7 : X.data.toList = [46]
                  · have Q7 := hide q7
                    clear q7
                    have hq : (X.toList == [46]) = true := by rw [eq_list]; simpa using Q7.out
                    have ST : Hid (dotStep X.data.toList o = ((⟨#[]⟩ : ByteArray).data.toList, o)) := by
                      unfold dotStep
                      rw [if_neg (by rw [Q1.out]; simp), if_neg (by rw [Q2.out]; simp), if_neg (by rw [Q3.out]; simp), if_neg (by rw [Q4.out]; simp), if_neg Q5.out, if_neg Q6.out, if_pos (.inl Q7.out)]
                      exact rfl
                    have hn5 : (X.toList == [47, 46]) = false := by rw [eq_list]; simpa using Q5.out
                    have hn6 : (X.toList == [47, 46, 46]) = false := by rw [eq_list]; simpa using Q6.out
                    go_wp2_with fail
                    refine (begins31 _ X ⟨#[46, 46, 47]⟩ _ D.str false Q1.out).mono ?_
                    rintro e w_1 ⟨rfl, rfl⟩
                    go_wp2_with fail
                    refine (begins31 _ X ⟨#[46, 47]⟩ _ D.str false Q2.out).mono ?_
                    rintro e w_2 ⟨rfl, rfl⟩
                    go_wp2_with fail
                    refine (begins31 _ X ⟨#[47, 46, 47]⟩ _ D.str false Q3.out).mono ?_
                    rintro e w_3 ⟨rfl, rfl⟩
                    go_wp2_with fail
                    refine (begins31 _ X ⟨#[47, 46, 46, 47]⟩ _ D.str false Q4.out).mono ?_
                    rintro e w_4 ⟨rfl, rfl⟩
                    go_wp2_with fail
                    go_roundw
                    case rel => exact ⟨⟨#[]⟩, o, D.next HE.out ⟨#[]⟩ o _ _ ST.out (D.str.set ⟨#[]⟩) (set_rowU D.row (a := ⟨w.heap.size, 0, none⟩) D.ne _) (D.keeps.setCell (.inr (Nat.le_refl _)) _)⟩
                    case measure =>
                      have h1 := mea _ _ _ ((D.str.set ⟨#[]⟩) : IsStr _ w.heap.size ⟨#[]⟩)
                      have h2 := step_less HE.out ⟨#[]⟩ o ST.out
                      rw [h1, hmea.out]
                      exact h2
                  · have Q7 := hide q7
                    clear q7
                    by_cases q8 : X.data.toList = [46, 46]
                    · have Q8 := hide q8
                      clear q8
                      have hq : (X.toList == [46, 46]) = true := by rw [eq_list]; simpa using Q8.out
                      have ST : Hid (dotStep X.data.toList o = ((⟨#[]⟩ : ByteArray).data.toList, o)) := by
                        unfold dotStep
                        rw [if_neg (by rw [Q1.out]; simp), if_neg (by rw [Q2.out]; simp), if_neg (by rw [Q3.out]; simp), if_neg (by rw [Q4.out]; simp), if_neg Q5.out, if_neg Q6.out, if_pos (.inr Q8.out)]
                        exact rfl
                      have hn5 : (X.toList == [47, 46]) = false := by rw [eq_list]; simpa using Q5.out
                      have hn6 : (X.toList == [47, 46, 46]) = false := by rw [eq_list]; simpa using Q6.out
                      have hn7 : (X.toList == [46]) = false := by rw [eq_list]; simpa using Q7.out
                      go_wp2_with fail
                      refine (begins31 _ X ⟨#[46, 46, 47]⟩ _ D.str false Q1.out).mono ?_
                      rintro e w_1 ⟨rfl, rfl⟩
                      go_wp2_with fail
                      refine (begins31 _ X ⟨#[46, 47]⟩ _ D.str false Q2.out).mono ?_
                      rintro e w_2 ⟨rfl, rfl⟩
                      go_wp2_with fail
                      refine (begins31 _ X ⟨#[47, 46, 47]⟩ _ D.str false Q3.out).mono ?_
                      rintro e w_3 ⟨rfl, rfl⟩
                      go_wp2_with fail
                      refine (begins31 _ X ⟨#[47, 46, 46, 47]⟩ _ D.str false Q4.out).mono ?_
                      rintro e w_4 ⟨rfl, rfl⟩
                      go_wp2_with fail
                      go_roundw
                      case rel => exact ⟨⟨#[]⟩, o, D.next HE.out ⟨#[]⟩ o _ _ ST.out (D.str.set ⟨#[]⟩) (set_rowU D.row (a := ⟨w.heap.size, 0, none⟩) D.ne _) (D.keeps.setCell (.inr (Nat.le_refl _)) _)⟩
                      case measure =>
                        have h1 := mea _ _ _ ((D.str.set ⟨#[]⟩) : IsStr _ w.heap.size ⟨#[]⟩)
                        have h2 := step_less HE.out ⟨#[]⟩ o ST.out
                        rw [h1, hmea.out]
                        exact h2
                    · have Q8 := hide q8
                      clear q8
                      have hp0 : 0 < X.size := by rw [← len_size]; exact List.length_pos_iff.2 HE.out
                      have hfl : firstL X.data.toList ≤ X.size := by rw [← len_size]; exact firstL_le _ HE.out
                      have ey : (X.extract (firstL X.data.toList) X.size).data.toList = X.data.toList.drop (firstL X.data.toList) := Lib.extract_to_end X _
                      have ez : (X.extract 0 (firstL X.data.toList)).data.toList = X.data.toList.take (firstL X.data.toList) := by rw [Lib.extract_data]; simp
                      have ST : Hid (dotStep X.data.toList o = ((X.extract (firstL X.data.toList) X.size).data.toList, o ++ (X.extract 0 (firstL X.data.toList)).data.toList)) := by
                        unfold dotStep
                        rw [if_neg (by rw [Q1.out]; simp), if_neg (by rw [Q2.out]; simp), if_neg (by rw [Q3.out]; simp), if_neg (by rw [Q4.out]; simp), if_neg Q5.out, if_neg Q6.out, if_neg (fun h => h.elim Q7.out Q8.out), ← ey, ← ez]
                        exact rfl
                      have hfp := hide (fun w => firstPart_any X w hp0 (by omega))
                      have hzs : (X.extract 0 (firstL X.data.toList)).size ≤ X.size := by simp; omega
                      clear ey ez
                      generalize firstL X.data.toList = n at *
                      have hn5 : (X.toList == [47, 46]) = false := by rw [eq_list]; simpa using Q5.out
                      have hn6 : (X.toList == [47, 46, 46]) = false := by rw [eq_list]; simpa using Q6.out
                      have hn7 : (X.toList == [46]) = false := by rw [eq_list]; simpa using Q7.out
                      have hn8 : (X.toList == [46, 46]) = false := by rw [eq_list]; simpa using Q8.out
                      obtain ⟨ov, cv, hov⟩ := row_form D.row
                      subst hov
                      go_wp2_with fail
                      refine (begins31 _ X ⟨#[46, 46, 47]⟩ _ D.str false Q1.out).mono ?_
                      rintro e w_1 ⟨rfl, rfl⟩
                      go_wp2_with fail
                      refine (begins31 _ X ⟨#[46, 47]⟩ _ D.str false Q2.out).mono ?_
                      rintro e w_2 ⟨rfl, rfl⟩
                      go_wp2_with fail
                      refine (begins31 _ X ⟨#[47, 46, 47]⟩ _ D.str false Q3.out).mono ?_
                      rintro e w_3 ⟨rfl, rfl⟩
                      go_wp2_with fail
                      refine (begins31 _ X ⟨#[47, 46, 46, 47]⟩ _ D.str false Q4.out).mono ?_
                      rintro e w_4 ⟨rfl, rfl⟩
                      go_wp2_with fail
                      refine (hfp.out _).mono ?_
                      rintro e w_9 ⟨rfl, rfl⟩
                      go_wp2_with (at_builtin; refine Lib.wpList_append_own_string _ rfl _ _ 107 9 rfl (w.heap.size + 1) 5 i0 Tryz.underlying107 Tryz.underlying9 hi hz0 hz1 hz2 _ _ _ rfl D.row _ rfl ?c3 ?c4 ?c5 ?_)
                      case c3 => unfold maxLen; omega
                      case c4 => omega
                      case c5 => have := D.str.lt; omega
                      intro v9 w9 hr9 hg9 _
                      have es : (X.extract 0 n).size = n := by simp; omega
                      have hr9 := own_str (t := X.extract 0 n) (by rw [es]; exact hr9)
                      have hk9 : Keeps [] w w9 := (D.keeps.grown hg9 (fun k hk => .inr (by have := (D.row.lt k hk).1; omega)))
                      have hS9 : IsStr w9 w.heap.size X := by rw [IsStr, hg9.block _ D.str.lt (fun e => D.ne e.symm)]; exact D.str
                      have c9 := hS9.cell
                      have f9 := hS9.free
                      obtain ⟨o9, cp9, rfl⟩ := row_form hr9
                      have ne9 : (Value.slice o9 (o ++ (X.extract 0 n).data.toList).length cp9).ownBlock ≠ some w.heap.size := fun e => by have := (hr9.lt _ e).1; omega
                      go_wp2_with fail
                      go_roundw
                      case rel => exact ⟨(X.extract n X.size), (o ++ (X.extract 0 n).data.toList), D.next HE.out (X.extract n X.size) (o ++ (X.extract 0 n).data.toList) _ _ ST.out (hS9.set (X.extract n X.size)) (set_rowU hr9 (a := ⟨w.heap.size, 0, none⟩) ne9 _) (hk9.setCell (.inr (Nat.le_refl _)) _)⟩
                      case measure =>
                        have h1 := mea _ _ _ ((hS9.set (X.extract n X.size)) : IsStr _ w.heap.size (X.extract n X.size))
                        have h2 := step_less HE.out (X.extract n X.size) (o ++ (X.extract 0 n).data.toList) ST.out
                        rw [h1, hmea.out]
                        exact h2
            · have Q4 := hide q4
              clear q4
              have hpl : 4 ≤ X.size := by have := pre_len Q4.out; rw [len_size] at this; exact this
              have ey : (X.extract 3 X.size).data.toList = X.data.toList.drop 3 := Lib.extract_to_end X 3
              have ST : Hid (dotStep X.data.toList o = ((X.extract 3 X.size).data.toList, (cutLast o))) := by
                unfold dotStep
                rw [if_neg (by rw [Q1.out]; simp), if_neg (by rw [Q2.out]; simp), if_neg (by rw [Q3.out]; simp), if_pos Q4.out, ← ey]
                exact rfl
              clear ey
              go_wp2_with fail
              refine (begins31 _ X ⟨#[46, 46, 47]⟩ _ D.str false Q1.out).mono ?_
              rintro e w_1 ⟨rfl, rfl⟩
              go_wp2_with fail
              refine (begins31 _ X ⟨#[46, 47]⟩ _ D.str false Q2.out).mono ?_
              rintro e w_2 ⟨rfl, rfl⟩
              go_wp2_with fail
              refine (begins31 _ X ⟨#[47, 46, 47]⟩ _ D.str false Q3.out).mono ?_
              rintro e w_3 ⟨rfl, rfl⟩
              go_wp2_with fail
              refine (begins31 _ X ⟨#[47, 46, 46, 47]⟩ _ D.str true Q4.out).mono ?_
              rintro e w_4 ⟨rfl, rfl⟩
              go_wp2_with fail
              refine (withoutLast_any _ (w.heap.size + 1) o _ (set_rowU D.row (a := ⟨w.heap.size, 0, none⟩) D.ne (.string (X.extract 3 X.size))) (by omega)).mono ?_
              rintro e w_9 ⟨⟨v9, rfl, hr9, hb9⟩, rfl⟩
              obtain ⟨o9, c9, rfl⟩ := row_form hr9
              go_wp2_with fail
              go_roundw
              case rel => exact ⟨(X.extract 3 X.size), (cutLast o), D.next HE.out (X.extract 3 X.size) (cutLast o) _ _ ST.out (D.str.set (X.extract 3 X.size)) hr9 (D.keeps.setCell (.inr (Nat.le_refl _)) _)⟩
              case measure =>
                have h1 := mea _ _ _ ((D.str.set (X.extract 3 X.size)) : IsStr _ w.heap.size (X.extract 3 X.size))
                have h2 := step_less HE.out (X.extract 3 X.size) (cutLast o) ST.out
                rw [h1, hmea.out]
                exact h2
          · have Q3 := hide q3
            clear q3
            have hpl : 3 ≤ X.size := by have := pre_len Q3.out; rw [len_size] at this; exact this
            have ey : (X.extract 2 X.size).data.toList = X.data.toList.drop 2 := Lib.extract_to_end X 2
            have ST : Hid (dotStep X.data.toList o = ((X.extract 2 X.size).data.toList, o)) := by
              unfold dotStep
              rw [if_neg (by rw [Q1.out]; simp), if_neg (by rw [Q2.out]; simp), if_pos Q3.out, ← ey]
              exact rfl
            clear ey
            go_wp2_with fail
            refine (begins31 _ X ⟨#[46, 46, 47]⟩ _ D.str false Q1.out).mono ?_
            rintro e w_1 ⟨rfl, rfl⟩
            go_wp2_with fail
            refine (begins31 _ X ⟨#[46, 47]⟩ _ D.str false Q2.out).mono ?_
            rintro e w_2 ⟨rfl, rfl⟩
            go_wp2_with fail
            refine (begins31 _ X ⟨#[47, 46, 47]⟩ _ D.str true Q3.out).mono ?_
            rintro e w_3 ⟨rfl, rfl⟩
            go_wp2_with fail
            go_roundw
            case rel => exact ⟨(X.extract 2 X.size), o, D.next HE.out (X.extract 2 X.size) o _ _ ST.out (D.str.set (X.extract 2 X.size)) (set_rowU D.row (a := ⟨w.heap.size, 0, none⟩) D.ne _) (D.keeps.setCell (.inr (Nat.le_refl _)) _)⟩
            case measure =>
              have h1 := mea _ _ _ ((D.str.set (X.extract 2 X.size)) : IsStr _ w.heap.size (X.extract 2 X.size))
              have h2 := step_less HE.out (X.extract 2 X.size) o ST.out
              rw [h1, hmea.out]
              exact h2
        · have Q2 := hide q2
          clear q2
          have hpl : 2 ≤ X.size := by have := pre_len Q2.out; rw [len_size] at this; exact this
          have ey : (X.extract 2 X.size).data.toList = X.data.toList.drop 2 := Lib.extract_to_end X 2
          have ST : Hid (dotStep X.data.toList o = ((X.extract 2 X.size).data.toList, o)) := by
            unfold dotStep
            rw [if_neg (by rw [Q1.out]; simp), if_pos Q2.out, ← ey]
            exact rfl
          clear ey
          go_wp2_with fail
          refine (begins31 _ X ⟨#[46, 46, 47]⟩ _ D.str false Q1.out).mono ?_
          rintro e w_1 ⟨rfl, rfl⟩
          go_wp2_with fail
          refine (begins31 _ X ⟨#[46, 47]⟩ _ D.str true Q2.out).mono ?_
          rintro e w_2 ⟨rfl, rfl⟩
          go_wp2_with fail
          go_roundw
          case rel => exact ⟨(X.extract 2 X.size), o, D.next HE.out (X.extract 2 X.size) o _ _ ST.out (D.str.set (X.extract 2 X.size)) (set_rowU D.row (a := ⟨w.heap.size, 0, none⟩) D.ne _) (D.keeps.setCell (.inr (Nat.le_refl _)) _)⟩
          case measure =>
            have h1 := mea _ _ _ ((D.str.set (X.extract 2 X.size)) : IsStr _ w.heap.size (X.extract 2 X.size))
            have h2 := step_less HE.out (X.extract 2 X.size) o ST.out
            rw [h1, hmea.out]
            exact h2
      · have Q1 := hide q1
        clear q1
        have hpl : 3 ≤ X.size := by have := pre_len Q1.out; rw [len_size] at this; exact this
        have ey : (X.extract 3 X.size).data.toList = X.data.toList.drop 3 := Lib.extract_to_end X 3
        have ST : Hid (dotStep X.data.toList o = ((X.extract 3 X.size).data.toList, o)) := by
          unfold dotStep
          rw [if_pos Q1.out, ← ey]
          exact rfl
        clear ey
        go_wp2_with fail
        refine (begins31 _ X ⟨#[46, 46, 47]⟩ _ D.str true Q1.out).mono ?_
        rintro e w_1 ⟨rfl, rfl⟩
        go_wp2_with fail
        go_roundw
        case rel => exact ⟨(X.extract 3 X.size), o, D.next HE.out (X.extract 3 X.size) o _ _ ST.out (D.str.set (X.extract 3 X.size)) (set_rowU D.row (a := ⟨w.heap.size, 0, none⟩) D.ne _) (D.keeps.setCell (.inr (Nat.le_refl _)) _)⟩
        case measure =>
          have h1 := mea _ _ _ ((D.str.set (X.extract 3 X.size)) : IsStr _ w.heap.size (X.extract 3 X.size))
          have h2 := step_less HE.out (X.extract 3 X.size) o ST.out
          rw [h1, hmea.out]
          exact h2
set_option maxHeartbeats 400000 in
theorem dots_any (s : ByteArray) (w : World) (hs : s.size ≤ 3000) :
    Calls Tryz.prog 73 #[.string s] w fun e w' => e = .returned (.tuple #[.string ⟨(dotsL s.data.toList).toArray⟩, .int .i64 0]) ∧ Keeps [] w w' := by
  have hgt : decide ((3000 : Int) < (s.size : Int)) = false := by simp; omega
  have hd := hide (withoutDots_any s w (by omega))
  generalize dotsL s.data.toList = R at *
  go_enter Tryz.func73, Tryz.ntmps73
  go_wp2_with fail
  refine hd.out.mono ?_
  rintro e w1 ⟨rfl, hk1⟩
  go_wp2_with fail
  go_ret2
  exact ⟨rfl, hk1⟩
theorem last_at (s : ByteArray) : LastAt s.data.toList (Lib.lastIndexByte s 47) := by
  have hget : ∀ j (hj : j < s.size), s.data[j]! = s.data.toList[j]'(by rw [len_size]; exact hj) := fun j hj => by
    rw [getElem!_pos s.data j (by simpa using hj)]; rfl
  have h47 : ∀ c : UInt8, ((c.toNat : Int) = 47) ↔ c = 47 := all_bytes (by decide +kernel)
  rcases Lib.lastIndexByte_spec s 47 with ⟨e, hn⟩ | ⟨i, hi, e, hc, hn⟩
  · refine .inl ⟨e, fun d hd => ?_⟩
    obtain ⟨j, hj, rfl⟩ := List.getElem_of_mem hd
    have hj' : j < s.size := by rw [← len_size]; exact hj
    have := hn j hj'
    rw [hget j hj'] at this
    exact fun h => this ((h47 _).2 h)
  · refine .inr ⟨i, e, by rw [len_size]; exact hi, ?_, fun j hj hij => ?_⟩
    · rw [hget i hi] at hc
      exact (h47 _).1 hc
    · have hj' : j < s.size := by rw [← len_size]; exact hj
      have := hn j hij hj'
      rw [hget j hj'] at this
      exact fun h => this ((h47 _).2 h)
set_option maxRecDepth 4000 in
set_option maxHeartbeats 2000000 in
theorem merged_any (b : UrlT) (X : ByteArray) (w : World) (hb : b.path.length ≤ 3000) (hX : X.size ≤ 3000) :
    Calls Tryz.prog 223 #[urlV b, .string X] w fun e w' => e = .returned (.string ⟨(mergedL b X.data.toList).toArray⟩) ∧ Keeps [] w w' := by
  have hka : Keeps [] w _ := (Keeps.refl [] w).alloc (.cells #[.string ⟨b.scheme.toArray⟩, .string ⟨b.authority.toArray⟩, .string ⟨b.path.toArray⟩, .string ⟨b.query.toArray⟩, .string ⟨b.fragment.toArray⟩, .bool b.hs, .bool b.ha, .bool b.hq, .bool b.hf] 99)
  have hXe : (⟨X.data.toList.toArray⟩ : ByteArray) = X := by apply WideShapes.bytes_inj; rfl
  unfold urlV urlCells mergedL
  by_cases h1 : X.data.toList = []
  · rw [if_pos h1]
    have hem : X.toList.isEmpty = true := by rw [empty_iff]; simpa using h1
    clear h1 hXe
    go_enter Tryz.func223, Tryz.ntmps223
    go_wp2_with fail
    go_ret
    exact ⟨by simp, hka⟩
  rw [if_neg h1]
  have hem : X.toList.isEmpty = false := by rw [empty_iff]; simpa using h1
  have hp0 : 0 < X.size := by rw [← len_size]; exact List.length_pos_iff.2 h1
  have hh : X.data.toList.head? = some X[0] := by
    rw [List.head?_eq_getElem?, List.getElem?_eq_getElem (by rw [len_size]; exact hp0)]
    rfl
  rw [hh]
  by_cases h2 : X[0] = 47
  · rw [if_pos (by rw [h2])]
    have hq : ((X[0].toNat : Int) == 47) = true := by rw [h2]; rfl
    rw [hXe]
    clear h1 h2 hh hXe
    go_enter Tryz.func223, Tryz.ntmps223
    go_wp2_with fail
    go_ret
    exact ⟨by simp, hka⟩
  rw [if_neg (by simpa using h2)]
  have hq : ((X[0].toNat : Int) == 47) = false := by
    rw [← (beq_at rfl : (X[0] == 47) = ((X[0].toNat : Int) == 47))]; simpa using h2
  by_cases h3 : b.ha = true ∧ b.path = []
  · rw [if_pos h3]
    obtain ⟨h3a, h3b⟩ := h3
    rw [h3a, h3b]
    clear h1 h2 hh h3a h3b
    have hcat : (⟨#[47]⟩ ++ X : ByteArray) = ⟨(47 :: X.data.toList).toArray⟩ := by apply WideShapes.bytes_inj; simp
    have HC := hide hcat
    clear hcat
    go_enter Tryz.func223, Tryz.ntmps223
    go_wp2_with fail
    go_ret
    exact ⟨by rw [← HC.out]; simp, (Keeps.refl [] w).alloc _⟩
  · rw [if_neg h3]
    obtain ⟨e1, e2, e3⟩ := (last_at ⟨b.path.toArray⟩).up
    rw [str_list] at e1 e3
    have hlb := hide (fun w => Tryz.strings_LastIndexByte ⟨b.path.toArray⟩ 47 (by rw [str_size]; omega) w)
    obtain ⟨m, hm⟩ : ∃ m : Nat, Lib.lastIndexByte ⟨b.path.toArray⟩ 47 + 1 = m := ⟨(Lib.lastIndexByte ⟨b.path.toArray⟩ 47 + 1).toNat, by omega⟩
    rw [hm] at e1
    simp only [Int.toNat_natCast] at e1
    generalize Lib.lastIndexByte ⟨b.path.toArray⟩ 47 = i at *
    have hml : m ≤ b.path.length := by omega
    have hcat : ((⟨b.path.toArray⟩ : ByteArray).extract 0 m ++ X : ByteArray) = ⟨(upSl b.path ++ X.data.toList).toArray⟩ := by
      apply WideShapes.bytes_inj
      show ((⟨b.path.toArray⟩ : ByteArray).extract 0 m ++ X).data.toList = _
      rw [e1, ByteArray.data_append, Array.toList_append, Lib.extract_data]
      simp
    have HC := hide hcat
    have hsz : ((⟨b.path.toArray⟩ : ByteArray)).size = b.path.length := rfl
    have ha3 : b.ha = false ∨ (b.ha = true ∧ (b.path.isEmpty = false)) := by
      cases hx : b.ha
      · exact .inl rfl
      · right
        refine ⟨rfl, ?_⟩
        simpa using fun hpp => h3 ⟨hx, hpp⟩
    clear hcat e1 h1 h2 h3 hh hXe
    rcases ha3 with ha3 | ⟨ha3, hpe⟩
    · rw [ha3]
      go_enter Tryz.func223, Tryz.ntmps223
      go_wp2_with fail
      go_quiet ((go_at_call 290; exact Calls.quiet_of_same (hlb.out _)))
      go_wp2_with fail
      go_ret
      exact ⟨by rw [← HC.out]; simp, ((Keeps.refl [] w).alloc _).drewN _⟩
    · rw [ha3]
      go_enter Tryz.func223, Tryz.ntmps223
      go_wp2_with fail
      go_quiet ((go_at_call 290; exact Calls.quiet_of_same (hlb.out _)))
      go_wp2_with fail
      go_ret
      exact ⟨by rw [← HC.out]; simp, ((Keeps.refl [] w).alloc _).drewN _⟩
structure Rs (w : World) (x y r : Nat) (b : UrlT) (W : World) (u : UrlT) : Prop where
  base : IsUrl W x b
  url : IsUrl W y u
  res : IsUrl W r noUrl
  keeps : Keeps [] w W
  xw : w.heap.size ≤ x
  yw : w.heap.size ≤ y
  rw : w.heap.size ≤ r
  ne1 : x ≠ y
  ne2 : y ≠ r
  ne3 : x ≠ r
theorem Rs.move {w : World} {x y r : Nat} {b : UrlT} {W W' : World} {u : UrlT} (h : Rs w x y r b W u) (hk : Keeps [] W W') : Rs w x y r b W' u :=
  ⟨h.base.keeps hk (by simp), h.url.keeps hk (by simp), h.res.keeps hk (by simp), h.keeps.trans hk, h.xw, h.yw, h.rw, h.ne1, h.ne2, h.ne3⟩
theorem Rs.put {w : World} {x y r : Nat} {b : UrlT} {W : World} {u u' : UrlT} (h : Rs w x y r b W u) {j : Nat} {v : Value} (hU : IsUrl (W.setCell ⟨y, j, none⟩ v) y u') : Rs w x y r b (W.setCell ⟨y, j, none⟩ v) u' := by
  have hk : Keeps [y] W (W.setCell ⟨y, j, none⟩ v) := (Keeps.refl [y] W).setCell (p := ⟨y, j, none⟩) (by simp) v
  exact ⟨h.base.keeps hk (by simpa using h.ne1), hU, h.res.keeps hk (by simpa using h.ne2.symm), h.keeps.setCell (.inr h.yw) v, h.xw, h.yw, h.rw, h.ne1, h.ne2, h.ne3⟩
theorem end15 {tmps : Array Value} {W w : World} {r : Nat} {u A : UrlT} (hp : tmps.getD 4 undef = .pointer (some ⟨r, 0, none⟩)) (hU : IsUrl W r u) (hA : A = u) (hk : Keeps [] w W) :
    bodyPost Tryz.prog Tryz.f148 (fun e w' => e = .returned (urlV A) ∧ Keeps [] w w') Exit.ret { tmps := tmps, defers := [] } W := by
  subst hA
  exact ⟨rfl, _, results_cell_row (P := Tryz.prog) rfl tmps W r 99 (urlCells A) (0, 0) _ hp hU Tryz.underlying99 rfl (info23.trans rfl), rfl, hk⟩
theorem Keeps.off {S : List Nat} {w w' : World} (h : Keeps S w.drew w') : Keeps S w w' := ⟨h.os, h.tape, h.output, h.size, h.block⟩
theorem Keeps.off2 {S : List Nat} {w w' : World} (h : Keeps S w.drew.drew w') : Keeps S w w' := ⟨h.os, h.tape, h.output, h.size, h.block⟩
theorem merged_len (b : UrlT) (p : List UInt8) : (mergedL b p).length ≤ b.path.length + p.length + 1 := by
  unfold mergedL
  split
  · omega
  split
  · omega
  split
  · simp
    try omega
  · have := upSl_le b.path
    rw [List.length_append]
    omega
theorem start3 (w : World) (b u : UrlT) : Rs w w.heap.size (w.heap.size + 1) (w.heap.size + 1 + 1) b (((w.alloc (.cells #[.string ⟨b.scheme.toArray⟩, .string ⟨b.authority.toArray⟩, .string ⟨b.path.toArray⟩, .string ⟨b.query.toArray⟩, .string ⟨b.fragment.toArray⟩, .bool b.hs, .bool b.ha, .bool b.hq, .bool b.hf] 99)).alloc (.cells #[.string ⟨u.scheme.toArray⟩, .string ⟨u.authority.toArray⟩, .string ⟨u.path.toArray⟩, .string ⟨u.query.toArray⟩, .string ⟨u.fragment.toArray⟩, .bool u.hs, .bool u.ha, .bool u.hq, .bool u.hf] 99)).alloc (.cells #[.string ⟨#[]⟩, .string ⟨#[]⟩, .string ⟨#[]⟩, .string ⟨#[]⟩, .string ⟨#[]⟩, .bool false, .bool false, .bool false, .bool false] 99)) u := by
  refine ⟨?_, ?_, ?_, (((Keeps.refl [] w).alloc _).alloc _).alloc _, by omega, by omega, by omega, by omega, by omega, by omega⟩
  · unfold IsUrl
    rw [Below.heap_alloc _ _ _ (by simp; omega), Below.heap_alloc _ _ _ (by simp)]
    exact heap_new_at _ _ rfl
  · unfold IsUrl
    rw [Below.heap_alloc _ _ _ (by simp)]
    exact heap_new_at _ _ (by simp)
  · exact heap_new_at _ _ (by simp)
set_option maxRecDepth 4000 in
set_option maxHeartbeats 40000000 in
theorem resolved_any (b u : UrlT) (w : World) (hb : b.path.length ≤ 3000) (hu : u.path.length ≤ 3000) :
    Calls Tryz.prog 148 #[urlV b, urlV u] w fun e w' => e = .returned (urlV (resL b u)) ∧ Keeps [] w w' := by
  obtain ⟨A, hA⟩ : ∃ A, resL b u = A := ⟨_, rfl⟩
  rw [hA]
  have HA := hide hA
  clear hA
  have ST := hide (fun u => start3 w b u)
  have MG := hide (fun (p : List UInt8) (w : World) (h : p.length ≤ 3000) => merged_any b ⟨p.toArray⟩ w hb h)
  obtain ⟨bs, ba, bp, bq, bf, bhs, bha, bhq, bhf⟩ := b
  obtain ⟨us, ua, up, uq, uf, uhs, uha, uhq, uhf⟩ := u
  simp only at hb hu
  unfold urlV urlCells
  cases uhs
  · cases uha
    · by_cases hp : up = []
      · have hpe : up.isEmpty = true := by simpa using hp
        cases uhq
        · have HX : Hid (A = ⟨bs, ba, dotsL (mergedL ⟨bs, ba, bp, bq, bf, bhs, bha, bhq, bhf⟩ up), bq, uf, true, bha, bhq, uhf⟩) := by rw [← HA.out, hp]; exact rfl
          clear hp HA
          obtain ⟨R, hR⟩ : ∃ R, dotsL (mergedL ⟨bs, ba, bp, bq, bf, bhs, bha, bhq, bhf⟩ up) = R := ⟨_, rfl⟩
          have HR := hide hR
          clear hR
          have hml := merged_len ⟨bs, ba, bp, bq, bf, bhs, bha, bhq, bhf⟩ up
          simp only at hml
          have WD := hide (fun w => withoutDots_any ⟨(mergedL ⟨bs, ba, bp, bq, bf, bhs, bha, bhq, bhf⟩ up).toArray⟩ w (by rw [str_size]; omega))
          rw [str_list, HR.out] at WD
          have MM := hide (fun w => MG.out up w hu)
          rw [str_list] at MM
          generalize mergedL ⟨bs, ba, bp, bq, bf, bhs, bha, bhq, bhf⟩ up = M at *
          unfold urlV urlCells at MM
          clear MG hml
          go_enter Tryz.func148, Tryz.ntmps148
          go_wp2_with fail
          go_region
          go_wp2_with fail
          go_region
          go_wp2_with fail
          refine (MM.out _).mono ?_
          rintro e W1 ⟨rfl, hk1⟩
          have g1 : Rs w w.heap.size (w.heap.size + 1) (w.heap.size + 1 + 1) ⟨bs, ba, bp, bq, bf, bhs, bha, bhq, bhf⟩ W1 ⟨bs, ba, up, bq, uf, true, bha, bhq, uhf⟩ := (ST.out ⟨bs, ba, up, bq, uf, true, bha, bhq, uhf⟩).move (Keeps.off2 hk1)
          clear hk1
          go_wp2_with fail
          refine (WD.out _).mono ?_
          rintro e W2 ⟨rfl, hk2⟩
          have g2 := g1.move hk2
          have d2 : W2.cell? ⟨w.heap.size + 1, 2, none⟩ = some (.string ⟨up.toArray⟩) := g2.url.cell 2
          have f2 := g2.url.free 2
          have gF : Rs w w.heap.size (w.heap.size + 1) (w.heap.size + 1 + 1) ⟨bs, ba, bp, bq, bf, bhs, bha, bhq, bhf⟩ (W2.setCell ⟨w.heap.size + 1, 2, none⟩ (.string ⟨R.toArray⟩)) ⟨bs, ba, R, bq, uf, true, bha, bhq, uhf⟩ := g2.put (g2.url.set2 R)
          have u0 : (W2.setCell ⟨w.heap.size + 1, 2, none⟩ (.string ⟨R.toArray⟩)).cell? ⟨w.heap.size + 1, 0, none⟩ = some (.string ⟨(bs : List UInt8).toArray⟩) := gF.url.cell 0
          have r0 : (W2.setCell ⟨w.heap.size + 1, 2, none⟩ (.string ⟨R.toArray⟩)).cell? ⟨w.heap.size + 1 + 1, 0, none⟩ = some (.string ⟨([] : List UInt8).toArray⟩) := gF.res.cell 0
          have z0 := gF.res.free 0
          have u1 : (W2.setCell ⟨w.heap.size + 1, 2, none⟩ (.string ⟨R.toArray⟩)).cell? ⟨w.heap.size + 1, 1, none⟩ = some (.string ⟨(ba : List UInt8).toArray⟩) := gF.url.cell 1
          have r1 : (W2.setCell ⟨w.heap.size + 1, 2, none⟩ (.string ⟨R.toArray⟩)).cell? ⟨w.heap.size + 1 + 1, 1, none⟩ = some (.string ⟨([] : List UInt8).toArray⟩) := gF.res.cell 1
          have z1 := gF.res.free 1
          have u2 : (W2.setCell ⟨w.heap.size + 1, 2, none⟩ (.string ⟨R.toArray⟩)).cell? ⟨w.heap.size + 1, 2, none⟩ = some (.string ⟨(R : List UInt8).toArray⟩) := gF.url.cell 2
          have r2 : (W2.setCell ⟨w.heap.size + 1, 2, none⟩ (.string ⟨R.toArray⟩)).cell? ⟨w.heap.size + 1 + 1, 2, none⟩ = some (.string ⟨([] : List UInt8).toArray⟩) := gF.res.cell 2
          have z2 := gF.res.free 2
          have u3 : (W2.setCell ⟨w.heap.size + 1, 2, none⟩ (.string ⟨R.toArray⟩)).cell? ⟨w.heap.size + 1, 3, none⟩ = some (.string ⟨(bq : List UInt8).toArray⟩) := gF.url.cell 3
          have r3 : (W2.setCell ⟨w.heap.size + 1, 2, none⟩ (.string ⟨R.toArray⟩)).cell? ⟨w.heap.size + 1 + 1, 3, none⟩ = some (.string ⟨([] : List UInt8).toArray⟩) := gF.res.cell 3
          have z3 := gF.res.free 3
          have u4 : (W2.setCell ⟨w.heap.size + 1, 2, none⟩ (.string ⟨R.toArray⟩)).cell? ⟨w.heap.size + 1, 4, none⟩ = some (.string ⟨(uf : List UInt8).toArray⟩) := gF.url.cell 4
          have r4 : (W2.setCell ⟨w.heap.size + 1, 2, none⟩ (.string ⟨R.toArray⟩)).cell? ⟨w.heap.size + 1 + 1, 4, none⟩ = some (.string ⟨([] : List UInt8).toArray⟩) := gF.res.cell 4
          have z4 := gF.res.free 4
          have u5 : (W2.setCell ⟨w.heap.size + 1, 2, none⟩ (.string ⟨R.toArray⟩)).cell? ⟨w.heap.size + 1, 5, none⟩ = some (.bool true) := gF.url.cell 5
          have r5 : (W2.setCell ⟨w.heap.size + 1, 2, none⟩ (.string ⟨R.toArray⟩)).cell? ⟨w.heap.size + 1 + 1, 5, none⟩ = some (.bool false) := gF.res.cell 5
          have z5 := gF.res.free 5
          have u6 : (W2.setCell ⟨w.heap.size + 1, 2, none⟩ (.string ⟨R.toArray⟩)).cell? ⟨w.heap.size + 1, 6, none⟩ = some (.bool bha) := gF.url.cell 6
          have r6 : (W2.setCell ⟨w.heap.size + 1, 2, none⟩ (.string ⟨R.toArray⟩)).cell? ⟨w.heap.size + 1 + 1, 6, none⟩ = some (.bool false) := gF.res.cell 6
          have z6 := gF.res.free 6
          have u7 : (W2.setCell ⟨w.heap.size + 1, 2, none⟩ (.string ⟨R.toArray⟩)).cell? ⟨w.heap.size + 1, 7, none⟩ = some (.bool bhq) := gF.url.cell 7
          have r7 : (W2.setCell ⟨w.heap.size + 1, 2, none⟩ (.string ⟨R.toArray⟩)).cell? ⟨w.heap.size + 1 + 1, 7, none⟩ = some (.bool false) := gF.res.cell 7
          have z7 := gF.res.free 7
          have u8 : (W2.setCell ⟨w.heap.size + 1, 2, none⟩ (.string ⟨R.toArray⟩)).cell? ⟨w.heap.size + 1, 8, none⟩ = some (.bool uhf) := gF.url.cell 8
          have r8 : (W2.setCell ⟨w.heap.size + 1, 2, none⟩ (.string ⟨R.toArray⟩)).cell? ⟨w.heap.size + 1 + 1, 8, none⟩ = some (.bool false) := gF.res.cell 8
          have z8 := gF.res.free 8
          go_wp2_with fail
          exact end15 rfl (((((((((gF.res.set0 bs).set1 ba).set2 R).set3 bq).set4 uf).set5 true).set6 bha).set7 bhq).set8 uhf) (HX.out.trans (by rw [HR.out])) (keeps9 gF.keeps gF.rw _ _ _ _ _ _ _ _ _)
        · have HX : Hid (A = ⟨bs, ba, dotsL (mergedL ⟨bs, ba, bp, bq, bf, bhs, bha, bhq, bhf⟩ up), uq, uf, true, bha, true, uhf⟩) := by rw [← HA.out, hp]; exact rfl
          clear hp HA
          obtain ⟨R, hR⟩ : ∃ R, dotsL (mergedL ⟨bs, ba, bp, bq, bf, bhs, bha, bhq, bhf⟩ up) = R := ⟨_, rfl⟩
          have HR := hide hR
          clear hR
          have hml := merged_len ⟨bs, ba, bp, bq, bf, bhs, bha, bhq, bhf⟩ up
          simp only at hml
          have WD := hide (fun w => withoutDots_any ⟨(mergedL ⟨bs, ba, bp, bq, bf, bhs, bha, bhq, bhf⟩ up).toArray⟩ w (by rw [str_size]; omega))
          rw [str_list, HR.out] at WD
          have MM := hide (fun w => MG.out up w hu)
          rw [str_list] at MM
          generalize mergedL ⟨bs, ba, bp, bq, bf, bhs, bha, bhq, bhf⟩ up = M at *
          unfold urlV urlCells at MM
          clear MG hml
          go_enter Tryz.func148, Tryz.ntmps148
          go_wp2_with fail
          go_region
          go_wp2_with fail
          refine (MM.out _).mono ?_
          rintro e W1 ⟨rfl, hk1⟩
          have g1 : Rs w w.heap.size (w.heap.size + 1) (w.heap.size + 1 + 1) ⟨bs, ba, bp, bq, bf, bhs, bha, bhq, bhf⟩ W1 ⟨bs, ba, up, uq, uf, true, bha, true, uhf⟩ := (ST.out ⟨bs, ba, up, uq, uf, true, bha, true, uhf⟩).move (Keeps.off hk1)
          clear hk1
          go_wp2_with fail
          refine (WD.out _).mono ?_
          rintro e W2 ⟨rfl, hk2⟩
          have g2 := g1.move hk2
          have d2 : W2.cell? ⟨w.heap.size + 1, 2, none⟩ = some (.string ⟨up.toArray⟩) := g2.url.cell 2
          have f2 := g2.url.free 2
          have gF : Rs w w.heap.size (w.heap.size + 1) (w.heap.size + 1 + 1) ⟨bs, ba, bp, bq, bf, bhs, bha, bhq, bhf⟩ (W2.setCell ⟨w.heap.size + 1, 2, none⟩ (.string ⟨R.toArray⟩)) ⟨bs, ba, R, uq, uf, true, bha, true, uhf⟩ := g2.put (g2.url.set2 R)
          have u0 : (W2.setCell ⟨w.heap.size + 1, 2, none⟩ (.string ⟨R.toArray⟩)).cell? ⟨w.heap.size + 1, 0, none⟩ = some (.string ⟨(bs : List UInt8).toArray⟩) := gF.url.cell 0
          have r0 : (W2.setCell ⟨w.heap.size + 1, 2, none⟩ (.string ⟨R.toArray⟩)).cell? ⟨w.heap.size + 1 + 1, 0, none⟩ = some (.string ⟨([] : List UInt8).toArray⟩) := gF.res.cell 0
          have z0 := gF.res.free 0
          have u1 : (W2.setCell ⟨w.heap.size + 1, 2, none⟩ (.string ⟨R.toArray⟩)).cell? ⟨w.heap.size + 1, 1, none⟩ = some (.string ⟨(ba : List UInt8).toArray⟩) := gF.url.cell 1
          have r1 : (W2.setCell ⟨w.heap.size + 1, 2, none⟩ (.string ⟨R.toArray⟩)).cell? ⟨w.heap.size + 1 + 1, 1, none⟩ = some (.string ⟨([] : List UInt8).toArray⟩) := gF.res.cell 1
          have z1 := gF.res.free 1
          have u2 : (W2.setCell ⟨w.heap.size + 1, 2, none⟩ (.string ⟨R.toArray⟩)).cell? ⟨w.heap.size + 1, 2, none⟩ = some (.string ⟨(R : List UInt8).toArray⟩) := gF.url.cell 2
          have r2 : (W2.setCell ⟨w.heap.size + 1, 2, none⟩ (.string ⟨R.toArray⟩)).cell? ⟨w.heap.size + 1 + 1, 2, none⟩ = some (.string ⟨([] : List UInt8).toArray⟩) := gF.res.cell 2
          have z2 := gF.res.free 2
          have u3 : (W2.setCell ⟨w.heap.size + 1, 2, none⟩ (.string ⟨R.toArray⟩)).cell? ⟨w.heap.size + 1, 3, none⟩ = some (.string ⟨(uq : List UInt8).toArray⟩) := gF.url.cell 3
          have r3 : (W2.setCell ⟨w.heap.size + 1, 2, none⟩ (.string ⟨R.toArray⟩)).cell? ⟨w.heap.size + 1 + 1, 3, none⟩ = some (.string ⟨([] : List UInt8).toArray⟩) := gF.res.cell 3
          have z3 := gF.res.free 3
          have u4 : (W2.setCell ⟨w.heap.size + 1, 2, none⟩ (.string ⟨R.toArray⟩)).cell? ⟨w.heap.size + 1, 4, none⟩ = some (.string ⟨(uf : List UInt8).toArray⟩) := gF.url.cell 4
          have r4 : (W2.setCell ⟨w.heap.size + 1, 2, none⟩ (.string ⟨R.toArray⟩)).cell? ⟨w.heap.size + 1 + 1, 4, none⟩ = some (.string ⟨([] : List UInt8).toArray⟩) := gF.res.cell 4
          have z4 := gF.res.free 4
          have u5 : (W2.setCell ⟨w.heap.size + 1, 2, none⟩ (.string ⟨R.toArray⟩)).cell? ⟨w.heap.size + 1, 5, none⟩ = some (.bool true) := gF.url.cell 5
          have r5 : (W2.setCell ⟨w.heap.size + 1, 2, none⟩ (.string ⟨R.toArray⟩)).cell? ⟨w.heap.size + 1 + 1, 5, none⟩ = some (.bool false) := gF.res.cell 5
          have z5 := gF.res.free 5
          have u6 : (W2.setCell ⟨w.heap.size + 1, 2, none⟩ (.string ⟨R.toArray⟩)).cell? ⟨w.heap.size + 1, 6, none⟩ = some (.bool bha) := gF.url.cell 6
          have r6 : (W2.setCell ⟨w.heap.size + 1, 2, none⟩ (.string ⟨R.toArray⟩)).cell? ⟨w.heap.size + 1 + 1, 6, none⟩ = some (.bool false) := gF.res.cell 6
          have z6 := gF.res.free 6
          have u7 : (W2.setCell ⟨w.heap.size + 1, 2, none⟩ (.string ⟨R.toArray⟩)).cell? ⟨w.heap.size + 1, 7, none⟩ = some (.bool true) := gF.url.cell 7
          have r7 : (W2.setCell ⟨w.heap.size + 1, 2, none⟩ (.string ⟨R.toArray⟩)).cell? ⟨w.heap.size + 1 + 1, 7, none⟩ = some (.bool false) := gF.res.cell 7
          have z7 := gF.res.free 7
          have u8 : (W2.setCell ⟨w.heap.size + 1, 2, none⟩ (.string ⟨R.toArray⟩)).cell? ⟨w.heap.size + 1, 8, none⟩ = some (.bool uhf) := gF.url.cell 8
          have r8 : (W2.setCell ⟨w.heap.size + 1, 2, none⟩ (.string ⟨R.toArray⟩)).cell? ⟨w.heap.size + 1 + 1, 8, none⟩ = some (.bool false) := gF.res.cell 8
          have z8 := gF.res.free 8
          go_wp2_with fail
          exact end15 rfl (((((((((gF.res.set0 bs).set1 ba).set2 R).set3 uq).set4 uf).set5 true).set6 bha).set7 true).set8 uhf) (HX.out.trans (by rw [HR.out])) (keeps9 gF.keeps gF.rw _ _ _ _ _ _ _ _ _)
      · have hpe : up.isEmpty = false := by simpa using hp
        have HX : Hid (A = ⟨bs, ba, dotsL (mergedL ⟨bs, ba, bp, bq, bf, bhs, bha, bhq, bhf⟩ up), uq, uf, true, bha, uhq, uhf⟩) := by rw [← HA.out]; unfold resL; simp [hp, Hid]
        clear hp HA
        obtain ⟨R, hR⟩ : ∃ R, dotsL (mergedL ⟨bs, ba, bp, bq, bf, bhs, bha, bhq, bhf⟩ up) = R := ⟨_, rfl⟩
        have HR := hide hR
        clear hR
        have hml := merged_len ⟨bs, ba, bp, bq, bf, bhs, bha, bhq, bhf⟩ up
        simp only at hml
        have WD := hide (fun w => withoutDots_any ⟨(mergedL ⟨bs, ba, bp, bq, bf, bhs, bha, bhq, bhf⟩ up).toArray⟩ w (by rw [str_size]; omega))
        rw [str_list, HR.out] at WD
        have MM := hide (fun w => MG.out up w hu)
        rw [str_list] at MM
        generalize mergedL ⟨bs, ba, bp, bq, bf, bhs, bha, bhq, bhf⟩ up = M at *
        unfold urlV urlCells at MM
        clear MG hml
        go_enter Tryz.func148, Tryz.ntmps148
        go_wp2_with fail
        go_region
        go_wp2_with fail
        refine (MM.out _).mono ?_
        rintro e W1 ⟨rfl, hk1⟩
        have g1 : Rs w w.heap.size (w.heap.size + 1) (w.heap.size + 1 + 1) ⟨bs, ba, bp, bq, bf, bhs, bha, bhq, bhf⟩ W1 ⟨bs, ba, up, uq, uf, true, bha, uhq, uhf⟩ := (ST.out ⟨bs, ba, up, uq, uf, true, bha, uhq, uhf⟩).move (Keeps.off hk1)
        clear hk1
        go_wp2_with fail
        refine (WD.out _).mono ?_
        rintro e W2 ⟨rfl, hk2⟩
        have g2 := g1.move hk2
        have d2 : W2.cell? ⟨w.heap.size + 1, 2, none⟩ = some (.string ⟨up.toArray⟩) := g2.url.cell 2
        have f2 := g2.url.free 2
        have gF : Rs w w.heap.size (w.heap.size + 1) (w.heap.size + 1 + 1) ⟨bs, ba, bp, bq, bf, bhs, bha, bhq, bhf⟩ (W2.setCell ⟨w.heap.size + 1, 2, none⟩ (.string ⟨R.toArray⟩)) ⟨bs, ba, R, uq, uf, true, bha, uhq, uhf⟩ := g2.put (g2.url.set2 R)
        have u0 : (W2.setCell ⟨w.heap.size + 1, 2, none⟩ (.string ⟨R.toArray⟩)).cell? ⟨w.heap.size + 1, 0, none⟩ = some (.string ⟨(bs : List UInt8).toArray⟩) := gF.url.cell 0
        have r0 : (W2.setCell ⟨w.heap.size + 1, 2, none⟩ (.string ⟨R.toArray⟩)).cell? ⟨w.heap.size + 1 + 1, 0, none⟩ = some (.string ⟨([] : List UInt8).toArray⟩) := gF.res.cell 0
        have z0 := gF.res.free 0
        have u1 : (W2.setCell ⟨w.heap.size + 1, 2, none⟩ (.string ⟨R.toArray⟩)).cell? ⟨w.heap.size + 1, 1, none⟩ = some (.string ⟨(ba : List UInt8).toArray⟩) := gF.url.cell 1
        have r1 : (W2.setCell ⟨w.heap.size + 1, 2, none⟩ (.string ⟨R.toArray⟩)).cell? ⟨w.heap.size + 1 + 1, 1, none⟩ = some (.string ⟨([] : List UInt8).toArray⟩) := gF.res.cell 1
        have z1 := gF.res.free 1
        have u2 : (W2.setCell ⟨w.heap.size + 1, 2, none⟩ (.string ⟨R.toArray⟩)).cell? ⟨w.heap.size + 1, 2, none⟩ = some (.string ⟨(R : List UInt8).toArray⟩) := gF.url.cell 2
        have r2 : (W2.setCell ⟨w.heap.size + 1, 2, none⟩ (.string ⟨R.toArray⟩)).cell? ⟨w.heap.size + 1 + 1, 2, none⟩ = some (.string ⟨([] : List UInt8).toArray⟩) := gF.res.cell 2
        have z2 := gF.res.free 2
        have u3 : (W2.setCell ⟨w.heap.size + 1, 2, none⟩ (.string ⟨R.toArray⟩)).cell? ⟨w.heap.size + 1, 3, none⟩ = some (.string ⟨(uq : List UInt8).toArray⟩) := gF.url.cell 3
        have r3 : (W2.setCell ⟨w.heap.size + 1, 2, none⟩ (.string ⟨R.toArray⟩)).cell? ⟨w.heap.size + 1 + 1, 3, none⟩ = some (.string ⟨([] : List UInt8).toArray⟩) := gF.res.cell 3
        have z3 := gF.res.free 3
        have u4 : (W2.setCell ⟨w.heap.size + 1, 2, none⟩ (.string ⟨R.toArray⟩)).cell? ⟨w.heap.size + 1, 4, none⟩ = some (.string ⟨(uf : List UInt8).toArray⟩) := gF.url.cell 4
        have r4 : (W2.setCell ⟨w.heap.size + 1, 2, none⟩ (.string ⟨R.toArray⟩)).cell? ⟨w.heap.size + 1 + 1, 4, none⟩ = some (.string ⟨([] : List UInt8).toArray⟩) := gF.res.cell 4
        have z4 := gF.res.free 4
        have u5 : (W2.setCell ⟨w.heap.size + 1, 2, none⟩ (.string ⟨R.toArray⟩)).cell? ⟨w.heap.size + 1, 5, none⟩ = some (.bool true) := gF.url.cell 5
        have r5 : (W2.setCell ⟨w.heap.size + 1, 2, none⟩ (.string ⟨R.toArray⟩)).cell? ⟨w.heap.size + 1 + 1, 5, none⟩ = some (.bool false) := gF.res.cell 5
        have z5 := gF.res.free 5
        have u6 : (W2.setCell ⟨w.heap.size + 1, 2, none⟩ (.string ⟨R.toArray⟩)).cell? ⟨w.heap.size + 1, 6, none⟩ = some (.bool bha) := gF.url.cell 6
        have r6 : (W2.setCell ⟨w.heap.size + 1, 2, none⟩ (.string ⟨R.toArray⟩)).cell? ⟨w.heap.size + 1 + 1, 6, none⟩ = some (.bool false) := gF.res.cell 6
        have z6 := gF.res.free 6
        have u7 : (W2.setCell ⟨w.heap.size + 1, 2, none⟩ (.string ⟨R.toArray⟩)).cell? ⟨w.heap.size + 1, 7, none⟩ = some (.bool uhq) := gF.url.cell 7
        have r7 : (W2.setCell ⟨w.heap.size + 1, 2, none⟩ (.string ⟨R.toArray⟩)).cell? ⟨w.heap.size + 1 + 1, 7, none⟩ = some (.bool false) := gF.res.cell 7
        have z7 := gF.res.free 7
        have u8 : (W2.setCell ⟨w.heap.size + 1, 2, none⟩ (.string ⟨R.toArray⟩)).cell? ⟨w.heap.size + 1, 8, none⟩ = some (.bool uhf) := gF.url.cell 8
        have r8 : (W2.setCell ⟨w.heap.size + 1, 2, none⟩ (.string ⟨R.toArray⟩)).cell? ⟨w.heap.size + 1 + 1, 8, none⟩ = some (.bool false) := gF.res.cell 8
        have z8 := gF.res.free 8
        go_wp2_with fail
        exact end15 rfl (((((((((gF.res.set0 bs).set1 ba).set2 R).set3 uq).set4 uf).set5 true).set6 bha).set7 uhq).set8 uhf) (HX.out.trans (by rw [HR.out])) (keeps9 gF.keeps gF.rw _ _ _ _ _ _ _ _ _)
    · skip
      have HX : Hid (A = ⟨bs, ua, dotsL up, uq, uf, true, true, uhq, uhf⟩) := HA.out.symm
      have WD := hide (fun w => withoutDots_any ⟨up.toArray⟩ w (by rw [str_size]; omega))
      rw [str_list] at WD
      generalize dotsL up = R at *
      clear MG HA
      go_enter Tryz.func148, Tryz.ntmps148
      go_wp2_with fail
      refine (WD.out _).mono ?_
      rintro e W1 ⟨rfl, hk1⟩
      have g1 : Rs w w.heap.size (w.heap.size + 1) (w.heap.size + 1 + 1) ⟨bs, ba, bp, bq, bf, bhs, bha, bhq, bhf⟩ W1 ⟨bs, ua, up, uq, uf, true, true, uhq, uhf⟩ := (ST.out ⟨bs, ua, up, uq, uf, true, true, uhq, uhf⟩).move hk1
      clear hk1
      have d2 : W1.cell? ⟨w.heap.size + 1, 2, none⟩ = some (.string ⟨up.toArray⟩) := g1.url.cell 2
      have f2 := g1.url.free 2
      have gF : Rs w w.heap.size (w.heap.size + 1) (w.heap.size + 1 + 1) ⟨bs, ba, bp, bq, bf, bhs, bha, bhq, bhf⟩ (W1.setCell ⟨w.heap.size + 1, 2, none⟩ (.string ⟨R.toArray⟩)) ⟨bs, ua, R, uq, uf, true, true, uhq, uhf⟩ := g1.put (g1.url.set2 R)
      have u0 : (W1.setCell ⟨w.heap.size + 1, 2, none⟩ (.string ⟨R.toArray⟩)).cell? ⟨w.heap.size + 1, 0, none⟩ = some (.string ⟨(bs : List UInt8).toArray⟩) := gF.url.cell 0
      have r0 : (W1.setCell ⟨w.heap.size + 1, 2, none⟩ (.string ⟨R.toArray⟩)).cell? ⟨w.heap.size + 1 + 1, 0, none⟩ = some (.string ⟨([] : List UInt8).toArray⟩) := gF.res.cell 0
      have z0 := gF.res.free 0
      have u1 : (W1.setCell ⟨w.heap.size + 1, 2, none⟩ (.string ⟨R.toArray⟩)).cell? ⟨w.heap.size + 1, 1, none⟩ = some (.string ⟨(ua : List UInt8).toArray⟩) := gF.url.cell 1
      have r1 : (W1.setCell ⟨w.heap.size + 1, 2, none⟩ (.string ⟨R.toArray⟩)).cell? ⟨w.heap.size + 1 + 1, 1, none⟩ = some (.string ⟨([] : List UInt8).toArray⟩) := gF.res.cell 1
      have z1 := gF.res.free 1
      have u2 : (W1.setCell ⟨w.heap.size + 1, 2, none⟩ (.string ⟨R.toArray⟩)).cell? ⟨w.heap.size + 1, 2, none⟩ = some (.string ⟨(R : List UInt8).toArray⟩) := gF.url.cell 2
      have r2 : (W1.setCell ⟨w.heap.size + 1, 2, none⟩ (.string ⟨R.toArray⟩)).cell? ⟨w.heap.size + 1 + 1, 2, none⟩ = some (.string ⟨([] : List UInt8).toArray⟩) := gF.res.cell 2
      have z2 := gF.res.free 2
      have u3 : (W1.setCell ⟨w.heap.size + 1, 2, none⟩ (.string ⟨R.toArray⟩)).cell? ⟨w.heap.size + 1, 3, none⟩ = some (.string ⟨(uq : List UInt8).toArray⟩) := gF.url.cell 3
      have r3 : (W1.setCell ⟨w.heap.size + 1, 2, none⟩ (.string ⟨R.toArray⟩)).cell? ⟨w.heap.size + 1 + 1, 3, none⟩ = some (.string ⟨([] : List UInt8).toArray⟩) := gF.res.cell 3
      have z3 := gF.res.free 3
      have u4 : (W1.setCell ⟨w.heap.size + 1, 2, none⟩ (.string ⟨R.toArray⟩)).cell? ⟨w.heap.size + 1, 4, none⟩ = some (.string ⟨(uf : List UInt8).toArray⟩) := gF.url.cell 4
      have r4 : (W1.setCell ⟨w.heap.size + 1, 2, none⟩ (.string ⟨R.toArray⟩)).cell? ⟨w.heap.size + 1 + 1, 4, none⟩ = some (.string ⟨([] : List UInt8).toArray⟩) := gF.res.cell 4
      have z4 := gF.res.free 4
      have u5 : (W1.setCell ⟨w.heap.size + 1, 2, none⟩ (.string ⟨R.toArray⟩)).cell? ⟨w.heap.size + 1, 5, none⟩ = some (.bool true) := gF.url.cell 5
      have r5 : (W1.setCell ⟨w.heap.size + 1, 2, none⟩ (.string ⟨R.toArray⟩)).cell? ⟨w.heap.size + 1 + 1, 5, none⟩ = some (.bool false) := gF.res.cell 5
      have z5 := gF.res.free 5
      have u6 : (W1.setCell ⟨w.heap.size + 1, 2, none⟩ (.string ⟨R.toArray⟩)).cell? ⟨w.heap.size + 1, 6, none⟩ = some (.bool true) := gF.url.cell 6
      have r6 : (W1.setCell ⟨w.heap.size + 1, 2, none⟩ (.string ⟨R.toArray⟩)).cell? ⟨w.heap.size + 1 + 1, 6, none⟩ = some (.bool false) := gF.res.cell 6
      have z6 := gF.res.free 6
      have u7 : (W1.setCell ⟨w.heap.size + 1, 2, none⟩ (.string ⟨R.toArray⟩)).cell? ⟨w.heap.size + 1, 7, none⟩ = some (.bool uhq) := gF.url.cell 7
      have r7 : (W1.setCell ⟨w.heap.size + 1, 2, none⟩ (.string ⟨R.toArray⟩)).cell? ⟨w.heap.size + 1 + 1, 7, none⟩ = some (.bool false) := gF.res.cell 7
      have z7 := gF.res.free 7
      have u8 : (W1.setCell ⟨w.heap.size + 1, 2, none⟩ (.string ⟨R.toArray⟩)).cell? ⟨w.heap.size + 1, 8, none⟩ = some (.bool uhf) := gF.url.cell 8
      have r8 : (W1.setCell ⟨w.heap.size + 1, 2, none⟩ (.string ⟨R.toArray⟩)).cell? ⟨w.heap.size + 1 + 1, 8, none⟩ = some (.bool false) := gF.res.cell 8
      have z8 := gF.res.free 8
      go_wp2_with fail
      exact end15 rfl (((((((((gF.res.set0 bs).set1 ua).set2 R).set3 uq).set4 uf).set5 true).set6 true).set7 uhq).set8 uhf) (HX.out) (keeps9 gF.keeps gF.rw _ _ _ _ _ _ _ _ _)
  · skip
    have HX : Hid (A = ⟨us, ua, dotsL up, uq, uf, true, uha, uhq, uhf⟩) := HA.out.symm
    have WD := hide (fun w => withoutDots_any ⟨up.toArray⟩ w (by rw [str_size]; omega))
    rw [str_list] at WD
    generalize dotsL up = R at *
    clear MG HA
    go_enter Tryz.func148, Tryz.ntmps148
    go_wp2_with fail
    refine (WD.out _).mono ?_
    rintro e W1 ⟨rfl, hk1⟩
    have g1 : Rs w w.heap.size (w.heap.size + 1) (w.heap.size + 1 + 1) ⟨bs, ba, bp, bq, bf, bhs, bha, bhq, bhf⟩ W1 ⟨us, ua, up, uq, uf, true, uha, uhq, uhf⟩ := (ST.out ⟨us, ua, up, uq, uf, true, uha, uhq, uhf⟩).move hk1
    clear hk1
    have d2 : W1.cell? ⟨w.heap.size + 1, 2, none⟩ = some (.string ⟨up.toArray⟩) := g1.url.cell 2
    have f2 := g1.url.free 2
    have gF : Rs w w.heap.size (w.heap.size + 1) (w.heap.size + 1 + 1) ⟨bs, ba, bp, bq, bf, bhs, bha, bhq, bhf⟩ (W1.setCell ⟨w.heap.size + 1, 2, none⟩ (.string ⟨R.toArray⟩)) ⟨us, ua, R, uq, uf, true, uha, uhq, uhf⟩ := g1.put (g1.url.set2 R)
    have u0 : (W1.setCell ⟨w.heap.size + 1, 2, none⟩ (.string ⟨R.toArray⟩)).cell? ⟨w.heap.size + 1, 0, none⟩ = some (.string ⟨(us : List UInt8).toArray⟩) := gF.url.cell 0
    have r0 : (W1.setCell ⟨w.heap.size + 1, 2, none⟩ (.string ⟨R.toArray⟩)).cell? ⟨w.heap.size + 1 + 1, 0, none⟩ = some (.string ⟨([] : List UInt8).toArray⟩) := gF.res.cell 0
    have z0 := gF.res.free 0
    have u1 : (W1.setCell ⟨w.heap.size + 1, 2, none⟩ (.string ⟨R.toArray⟩)).cell? ⟨w.heap.size + 1, 1, none⟩ = some (.string ⟨(ua : List UInt8).toArray⟩) := gF.url.cell 1
    have r1 : (W1.setCell ⟨w.heap.size + 1, 2, none⟩ (.string ⟨R.toArray⟩)).cell? ⟨w.heap.size + 1 + 1, 1, none⟩ = some (.string ⟨([] : List UInt8).toArray⟩) := gF.res.cell 1
    have z1 := gF.res.free 1
    have u2 : (W1.setCell ⟨w.heap.size + 1, 2, none⟩ (.string ⟨R.toArray⟩)).cell? ⟨w.heap.size + 1, 2, none⟩ = some (.string ⟨(R : List UInt8).toArray⟩) := gF.url.cell 2
    have r2 : (W1.setCell ⟨w.heap.size + 1, 2, none⟩ (.string ⟨R.toArray⟩)).cell? ⟨w.heap.size + 1 + 1, 2, none⟩ = some (.string ⟨([] : List UInt8).toArray⟩) := gF.res.cell 2
    have z2 := gF.res.free 2
    have u3 : (W1.setCell ⟨w.heap.size + 1, 2, none⟩ (.string ⟨R.toArray⟩)).cell? ⟨w.heap.size + 1, 3, none⟩ = some (.string ⟨(uq : List UInt8).toArray⟩) := gF.url.cell 3
    have r3 : (W1.setCell ⟨w.heap.size + 1, 2, none⟩ (.string ⟨R.toArray⟩)).cell? ⟨w.heap.size + 1 + 1, 3, none⟩ = some (.string ⟨([] : List UInt8).toArray⟩) := gF.res.cell 3
    have z3 := gF.res.free 3
    have u4 : (W1.setCell ⟨w.heap.size + 1, 2, none⟩ (.string ⟨R.toArray⟩)).cell? ⟨w.heap.size + 1, 4, none⟩ = some (.string ⟨(uf : List UInt8).toArray⟩) := gF.url.cell 4
    have r4 : (W1.setCell ⟨w.heap.size + 1, 2, none⟩ (.string ⟨R.toArray⟩)).cell? ⟨w.heap.size + 1 + 1, 4, none⟩ = some (.string ⟨([] : List UInt8).toArray⟩) := gF.res.cell 4
    have z4 := gF.res.free 4
    have u5 : (W1.setCell ⟨w.heap.size + 1, 2, none⟩ (.string ⟨R.toArray⟩)).cell? ⟨w.heap.size + 1, 5, none⟩ = some (.bool true) := gF.url.cell 5
    have r5 : (W1.setCell ⟨w.heap.size + 1, 2, none⟩ (.string ⟨R.toArray⟩)).cell? ⟨w.heap.size + 1 + 1, 5, none⟩ = some (.bool false) := gF.res.cell 5
    have z5 := gF.res.free 5
    have u6 : (W1.setCell ⟨w.heap.size + 1, 2, none⟩ (.string ⟨R.toArray⟩)).cell? ⟨w.heap.size + 1, 6, none⟩ = some (.bool uha) := gF.url.cell 6
    have r6 : (W1.setCell ⟨w.heap.size + 1, 2, none⟩ (.string ⟨R.toArray⟩)).cell? ⟨w.heap.size + 1 + 1, 6, none⟩ = some (.bool false) := gF.res.cell 6
    have z6 := gF.res.free 6
    have u7 : (W1.setCell ⟨w.heap.size + 1, 2, none⟩ (.string ⟨R.toArray⟩)).cell? ⟨w.heap.size + 1, 7, none⟩ = some (.bool uhq) := gF.url.cell 7
    have r7 : (W1.setCell ⟨w.heap.size + 1, 2, none⟩ (.string ⟨R.toArray⟩)).cell? ⟨w.heap.size + 1 + 1, 7, none⟩ = some (.bool false) := gF.res.cell 7
    have z7 := gF.res.free 7
    have u8 : (W1.setCell ⟨w.heap.size + 1, 2, none⟩ (.string ⟨R.toArray⟩)).cell? ⟨w.heap.size + 1, 8, none⟩ = some (.bool uhf) := gF.url.cell 8
    have r8 : (W1.setCell ⟨w.heap.size + 1, 2, none⟩ (.string ⟨R.toArray⟩)).cell? ⟨w.heap.size + 1 + 1, 8, none⟩ = some (.bool false) := gF.res.cell 8
    have z8 := gF.res.free 8
    go_wp2_with fail
    exact end15 rfl (((((((((gF.res.set0 us).set1 ua).set2 R).set3 uq).set4 uf).set5 true).set6 uha).set7 uhq).set8 uhf) (HX.out) (keeps9 gF.keeps gF.rw _ _ _ _ _ _ _ _ _)
theorem enters145 : Enters 145 := enters_of Tryz.func145 (by kernel_rfl) (by kernel_rfl)
theorem enters148 : Enters 148 := enters_of Tryz.func148 (by kernel_rfl) (by kernel_rfl)
theorem enters72 : Enters 72 := enters_of Tryz.func72 (by kernel_rfl) (by kernel_rfl)
theorem split_len (l : List UInt8) : (splitL l).scheme.length ≤ l.length ∧ (splitL l).authority.length ≤ l.length ∧ (splitL l).path.length ≤ l.length ∧ (splitL l).query.length ≤ l.length ∧ (splitL l).fragment.length ≤ l.length := by
  have tw : ∀ (f : UInt8 → Bool) (k : Nat), ((l.drop k).takeWhile f).length ≤ l.length := fun f k => by
    have h1 : ((l.drop k).takeWhile f).length ≤ (l.drop k).length := (List.takeWhile_sublist _).length_le
    rw [List.length_drop] at h1
    omega
  refine ⟨?_, ?_, ?_, ?_, ?_⟩
  · show ((schemeL l).getD []).length ≤ _
    unfold schemeL
    split
    · have := tw schB 0
      simpa using this
    · simp
  · show (auL l).length ≤ _
    unfold auL
    split
    · exact tw _ _
    · simp
  · exact tw _ _
  · show (quL l).length ≤ _
    unfold quL
    split
    · exact tw _ _
    · simp
  · show (frL l).length ≤ _
    unfold frL
    split
    · rw [List.length_drop]; omega
    · simp
theorem res_short (b u : UrlT) (n : Nat) (hb : b.scheme.length ≤ n ∧ b.authority.length ≤ n ∧ b.path.length ≤ n ∧ b.query.length ≤ n ∧ b.fragment.length ≤ n) (hu : u.scheme.length ≤ n ∧ u.authority.length ≤ n ∧ u.path.length ≤ n ∧ u.query.length ≤ n ∧ u.fragment.length ≤ n) (hn : n ≤ 3000) : Short (resL b u) := by
  obtain ⟨b1, b2, b3, b4, b5⟩ := hb
  obtain ⟨u1, u2, u3, u4, u5⟩ := hu
  have h1 := dotsL_len u.path
  have h2 := dotsL_len (mergedL b u.path)
  have h3 := merged_len b u.path
  unfold Short resL
  split
  · exact ⟨by simp only; omega, by simp only; omega, by simp only; omega, by simp only; omega, by simp only; omega⟩
  split
  · exact ⟨by simp only; omega, by simp only; omega, by simp only; omega, by simp only; omega, by simp only; omega⟩
  · refine ⟨by simp only; omega, by simp only; omega, by simp only; omega, ?_, by simp only; omega⟩
    simp only
    split <;> omega
set_option maxHeartbeats 1000000 in
theorem resolve_long (s t : ByteArray) (w : World) (hs : s.size ≤ maxLen) (ht : t.size ≤ maxLen) (h : 3000 < s.size ∨ 3000 < t.size) :
    Calls Tryz.prog 74 #[.string s, .string t] w fun e w' => e = .returned (.tuple #[.string ⟨#[]⟩, .int .i64 2]) ∧ w' = w := by
  unfold maxLen at hs ht
  by_cases h1 : 3000 < s.size
  · have hd : decide ((3000 : Int) < (s.size : Int)) = true := by simp; omega
    go_enter Tryz.func74, Tryz.ntmps74
    go_wp2_with fail
    go_ret2
    exact ⟨rfl, rfl⟩
  · have hd : decide ((3000 : Int) < (s.size : Int)) = false := by simp; omega
    have hd2 : decide ((3000 : Int) < (t.size : Int)) = true := by simp; omega
    go_enter Tryz.func74, Tryz.ntmps74
    go_wp2_with fail
    go_ret2
    exact ⟨rfl, rfl⟩
set_option maxRecDepth 8000 in
set_option maxHeartbeats 10000000 in
theorem resolve_any (s t : ByteArray) (w : World) (hs : s.size ≤ 3000) (ht : t.size ≤ 3000) (hM : HasMax w) :
    Calls Tryz.prog 74 #[.string s, .string t] w fun e w' => e = ansO (resAns s.data.toList t.data.toList) ∧ Keeps [] w w' := by
  have hd : decide ((3000 : Int) < (s.size : Int)) = false := by simp; omega
  have hd2 : decide ((3000 : Int) < (t.size : Int)) = false := by simp; omega
  have sp1 := hide (fun w hM => split_any s w hs hM)
  have sp2 := hide (fun w hM => split_any t w ht hM)
  have hl1 := split_len s.data.toList
  have hl2 := split_len t.data.toList
  rw [len_size] at hl1 hl2
  have hsh := res_short (splitL s.data.toList) (splitL t.data.toList) 3000 ⟨by omega, by omega, by omega, by omega, by omega⟩ ⟨by omega, by omega, by omega, by omega, by omega⟩ (Nat.le_refl _)
  have hre := hide (fun w => resolved_any (splitL s.data.toList) (splitL t.data.toList) w (by omega) (by omega))
  have hjn := hide (fun w hM => join_any (resL (splitL s.data.toList) (splitL t.data.toList)) w hsh hM)
  obtain ⟨A, hA⟩ : ∃ A, resAns s.data.toList t.data.toList = A := ⟨_, rfl⟩
  rw [hA]
  have HA : Hid (A = if (splitL s.data.toList).hs = true then joinsL (resL (splitL s.data.toList) (splitL t.data.toList)) else none) := hA.symm
  clear hA hl1 hl2 hsh
  generalize resL (splitL s.data.toList) (splitL t.data.toList) = r at *
  generalize splitL s.data.toList = b at *
  generalize splitL t.data.toList = u at *
  unfold urlV urlCells at sp1 sp2 hre hjn
  have hx : Hid (∀ w : World, IsUrl (w.alloc (.cells #[.string ⟨b.scheme.toArray⟩, .string ⟨b.authority.toArray⟩, .string ⟨b.path.toArray⟩, .string ⟨b.query.toArray⟩, .string ⟨b.fragment.toArray⟩, .bool b.hs, .bool b.ha, .bool b.hq, .bool b.hf] 99)) w.heap.size b) := fun w => heap_alloc_new _ _
  cases hb : b.hs
  · have HA2 : Hid (A = none) := HA.out.trans (if_neg (by simp [hb]))
    rw [hb] at sp1
    clear hb HA
    go_enter Tryz.func74, Tryz.ntmps74
    go_wp2_with fail
    refine (sp1.out _ hM).mono ?_
    rintro e w1 ⟨rfl, hk1⟩
    go_wp2_with fail
    go_ret2
    exact ⟨by rw [HA2.out]; rfl, hk1.alloc _⟩
  · have HA2 : Hid (A = joinsL r) := HA.out.trans (if_pos hb)
    rw [hb] at sp1 hre hx
    clear HA
    cases hjr : joinsL r with
    | none =>
      rw [hjr] at hjn
      simp only [ansO] at hjn
      have HJ := hide hjr
      clear hjr
      go_enter Tryz.func74, Tryz.ntmps74
      go_wp2_with fail
      refine (sp1.out _ hM).mono ?_
      rintro e w1 ⟨rfl, hk1⟩
      have hM1 := hM.keeps hk1 (by simp)
      have hx1 := hx.out w1
      have hka : Keeps [] w1 (w1.alloc (.cells #[.string ⟨b.scheme.toArray⟩, .string ⟨b.authority.toArray⟩, .string ⟨b.path.toArray⟩, .string ⟨b.query.toArray⟩, .string ⟨b.fragment.toArray⟩, .bool true, .bool b.ha, .bool b.hq, .bool b.hf] 99)) := (Keeps.refl [] w1).alloc _
      have hMa := hM1.keeps hka (by simp)
      have AF : ∀ w2, Keeps [] (w1.alloc (.cells #[.string ⟨b.scheme.toArray⟩, .string ⟨b.authority.toArray⟩, .string ⟨b.path.toArray⟩, .string ⟨b.query.toArray⟩, .string ⟨b.fragment.toArray⟩, .bool true, .bool b.ha, .bool b.hq, .bool b.hf] 99)).drew w2 → IsUrl w2 w1.heap.size b := fun w2 hk2 => hx1.keeps (keeps_drew hk2) (by simp)
      have HAF := hide AF
      clear AF
      go_wp2_with fail
      go_region_law (first
        | (refine step_call rfl 145 _ _ rfl enters145 #[.string t] (by first | (simp [Act.eval]; done) | (simp [Act.eval, Act.put]; done) | kernel_rfl) (sp2.out _ (by exact hMa)) ?_; rintro e w2 ⟨rfl, hk2⟩; refine ⟨_, rfl, ?_⟩; have hka2 := hka.trans (keeps_drew hk2); have hx2 := HAF.out _ hk2; have n0 : w2.cell? ⟨w1.heap.size, 0, none⟩ = some (.string ⟨b.scheme.toArray⟩) := hx2.cell 0; have n1 : w2.cell? ⟨w1.heap.size, 1, none⟩ = some (.string ⟨b.authority.toArray⟩) := hx2.cell 1; have n2 : w2.cell? ⟨w1.heap.size, 2, none⟩ = some (.string ⟨b.path.toArray⟩) := hx2.cell 2; have n3 : w2.cell? ⟨w1.heap.size, 3, none⟩ = some (.string ⟨b.query.toArray⟩) := hx2.cell 3; have n4 : w2.cell? ⟨w1.heap.size, 4, none⟩ = some (.string ⟨b.fragment.toArray⟩) := hx2.cell 4; have n5 : w2.cell? ⟨w1.heap.size, 5, none⟩ = some (.bool b.hs) := hx2.cell 5; have n6 : w2.cell? ⟨w1.heap.size, 6, none⟩ = some (.bool b.ha) := hx2.cell 6; have n7 : w2.cell? ⟨w1.heap.size, 7, none⟩ = some (.bool b.hq) := hx2.cell 7; have n8 : w2.cell? ⟨w1.heap.size, 8, none⟩ = some (.bool b.hf) := hx2.cell 8; rw [hb] at n5; have hM2 := hMa.keeps (keeps_drew hk2) (by simp))
        | (refine step_call rfl 148 _ _ rfl enters148 #[.agg #[.string ⟨b.scheme.toArray⟩, .string ⟨b.authority.toArray⟩, .string ⟨b.path.toArray⟩, .string ⟨b.query.toArray⟩, .string ⟨b.fragment.toArray⟩, .bool true, .bool b.ha, .bool b.hq, .bool b.hf], .agg #[.string ⟨u.scheme.toArray⟩, .string ⟨u.authority.toArray⟩, .string ⟨u.path.toArray⟩, .string ⟨u.query.toArray⟩, .string ⟨u.fragment.toArray⟩, .bool u.hs, .bool u.ha, .bool u.hq, .bool u.hf]] (by first | (simp [Act.eval]; done) | (simp [Act.eval, Act.put]; done) | kernel_rfl) (hre.out _) ?_; rintro e w3 ⟨rfl, hk3⟩; refine ⟨_, rfl, ?_⟩)
        | (refine step_call rfl 72 _ _ rfl enters72 #[.agg #[.string ⟨r.scheme.toArray⟩, .string ⟨r.authority.toArray⟩, .string ⟨r.path.toArray⟩, .string ⟨r.query.toArray⟩, .string ⟨r.fragment.toArray⟩, .bool r.hs, .bool r.ha, .bool r.hq, .bool r.hf]] (by first | (simp [Act.eval]; done) | (simp [Act.eval, Act.put]; done) | kernel_rfl) (hjn.out _ (hM2.keeps hk3 (by simp))) ?_; rintro e w4 ⟨rfl, hk4⟩; refine ⟨_, rfl, ?_⟩))
      all_goals go_wp2
      all_goals go_ret2
      all_goals exact ⟨by rw [HA2.out, HJ.out]; rfl, hk1.trans ((hka2.trans hk3).trans hk4)⟩
    | some x =>
      rw [hjr] at hjn
      simp only [ansO] at hjn
      have HJ := hide hjr
      clear hjr
      go_enter Tryz.func74, Tryz.ntmps74
      go_wp2_with fail
      refine (sp1.out _ hM).mono ?_
      rintro e w1 ⟨rfl, hk1⟩
      have hM1 := hM.keeps hk1 (by simp)
      have hx1 := hx.out w1
      have hka : Keeps [] w1 (w1.alloc (.cells #[.string ⟨b.scheme.toArray⟩, .string ⟨b.authority.toArray⟩, .string ⟨b.path.toArray⟩, .string ⟨b.query.toArray⟩, .string ⟨b.fragment.toArray⟩, .bool true, .bool b.ha, .bool b.hq, .bool b.hf] 99)) := (Keeps.refl [] w1).alloc _
      have hMa := hM1.keeps hka (by simp)
      have AF : ∀ w2, Keeps [] (w1.alloc (.cells #[.string ⟨b.scheme.toArray⟩, .string ⟨b.authority.toArray⟩, .string ⟨b.path.toArray⟩, .string ⟨b.query.toArray⟩, .string ⟨b.fragment.toArray⟩, .bool true, .bool b.ha, .bool b.hq, .bool b.hf] 99)).drew w2 → IsUrl w2 w1.heap.size b := fun w2 hk2 => hx1.keeps (keeps_drew hk2) (by simp)
      have HAF := hide AF
      clear AF
      go_wp2_with fail
      go_region_law (first
        | (refine step_call rfl 145 _ _ rfl enters145 #[.string t] (by first | (simp [Act.eval]; done) | (simp [Act.eval, Act.put]; done) | kernel_rfl) (sp2.out _ (by exact hMa)) ?_; rintro e w2 ⟨rfl, hk2⟩; refine ⟨_, rfl, ?_⟩; have hka2 := hka.trans (keeps_drew hk2); have hx2 := HAF.out _ hk2; have n0 : w2.cell? ⟨w1.heap.size, 0, none⟩ = some (.string ⟨b.scheme.toArray⟩) := hx2.cell 0; have n1 : w2.cell? ⟨w1.heap.size, 1, none⟩ = some (.string ⟨b.authority.toArray⟩) := hx2.cell 1; have n2 : w2.cell? ⟨w1.heap.size, 2, none⟩ = some (.string ⟨b.path.toArray⟩) := hx2.cell 2; have n3 : w2.cell? ⟨w1.heap.size, 3, none⟩ = some (.string ⟨b.query.toArray⟩) := hx2.cell 3; have n4 : w2.cell? ⟨w1.heap.size, 4, none⟩ = some (.string ⟨b.fragment.toArray⟩) := hx2.cell 4; have n5 : w2.cell? ⟨w1.heap.size, 5, none⟩ = some (.bool b.hs) := hx2.cell 5; have n6 : w2.cell? ⟨w1.heap.size, 6, none⟩ = some (.bool b.ha) := hx2.cell 6; have n7 : w2.cell? ⟨w1.heap.size, 7, none⟩ = some (.bool b.hq) := hx2.cell 7; have n8 : w2.cell? ⟨w1.heap.size, 8, none⟩ = some (.bool b.hf) := hx2.cell 8; rw [hb] at n5; have hM2 := hMa.keeps (keeps_drew hk2) (by simp))
        | (refine step_call rfl 148 _ _ rfl enters148 #[.agg #[.string ⟨b.scheme.toArray⟩, .string ⟨b.authority.toArray⟩, .string ⟨b.path.toArray⟩, .string ⟨b.query.toArray⟩, .string ⟨b.fragment.toArray⟩, .bool true, .bool b.ha, .bool b.hq, .bool b.hf], .agg #[.string ⟨u.scheme.toArray⟩, .string ⟨u.authority.toArray⟩, .string ⟨u.path.toArray⟩, .string ⟨u.query.toArray⟩, .string ⟨u.fragment.toArray⟩, .bool u.hs, .bool u.ha, .bool u.hq, .bool u.hf]] (by first | (simp [Act.eval]; done) | (simp [Act.eval, Act.put]; done) | kernel_rfl) (hre.out _) ?_; rintro e w3 ⟨rfl, hk3⟩; refine ⟨_, rfl, ?_⟩)
        | (refine step_call rfl 72 _ _ rfl enters72 #[.agg #[.string ⟨r.scheme.toArray⟩, .string ⟨r.authority.toArray⟩, .string ⟨r.path.toArray⟩, .string ⟨r.query.toArray⟩, .string ⟨r.fragment.toArray⟩, .bool r.hs, .bool r.ha, .bool r.hq, .bool r.hf]] (by first | (simp [Act.eval]; done) | (simp [Act.eval, Act.put]; done) | kernel_rfl) (hjn.out _ (hM2.keeps hk3 (by simp))) ?_; rintro e w4 ⟨rfl, hk4⟩; refine ⟨_, rfl, ?_⟩))
      all_goals go_wp2
      all_goals go_ret2
      all_goals exact ⟨by rw [HA2.out, HJ.out]; rfl, hk1.trans ((hka2.trans hk3).trans hk4)⟩
theorem enters226 : Enters 226 := enters_of Tryz.func226 (by kernel_rfl) (by kernel_rfl)
theorem enters227 : Enters 227 := enters_of Tryz.func227 (by kernel_rfl) (by kernel_rfl)
def gtB (c : UInt8) : Bool := decide (32 < c.toNat)
def leB (c : UInt8) : Bool := decide (c.toNat ≤ 32)
set_option maxHeartbeats 400000 in
theorem gt_any (c : UInt8) (w : World) : Calls Tryz.prog 226 #[.int .u8 c.toNat] w fun e w' => e = .returned (.bool (gtB c)) ∧ w' = w := by
  unfold gtB
  go_enter Tryz.func226, Tryz.ntmps226
  go_wp2
  go_ret
  refine ⟨ret_bool ?_, rfl⟩
  rw [Bool.eq_iff_iff]; simp; omega
set_option maxHeartbeats 400000 in
theorem le_any (c : UInt8) (w : World) : Calls Tryz.prog 227 #[.int .u8 c.toNat] w fun e w' => e = .returned (.bool (leB c)) ∧ w' = w := by
  unfold leB
  go_enter Tryz.func227, Tryz.ntmps227
  go_wp2
  go_ret
  refine ⟨ret_bool ?_, rfl⟩
  rw [Bool.eq_iff_iff]; simp; omega
theorem bare_app (x y : List UInt8) : bareL (x ++ y) = bareL x ++ bareL y := by simp [bareL]
theorem bare_tw (f : UInt8 → Bool) (l : List UInt8) : ∀ d ∈ l.takeWhile f, f d = true := fun d hd => List.all_eq_true.1 (List.all_takeWhile (p := f) (l := l)) d hd
theorem bare_step (l : List UInt8) (k : Nat) : bareL (l.take (k + ((l.drop k).takeWhile gtB).length + ((l.drop (k + ((l.drop k).takeWhile gtB).length)).takeWhile leB).length)) = bareL (l.take k) ++ (l.drop k).takeWhile gtB := by
  have tk : ∀ (f : UInt8 → Bool) (k : Nat), l.take (k + ((l.drop k).takeWhile f).length) = l.take k ++ (l.drop k).takeWhile f := fun f k => by
    rw [List.take_add]
    congr 1
    exact (List.prefix_iff_eq_take.1 (List.takeWhile_prefix _)).symm
  rw [tk leB, tk gtB, bare_app, bare_app]
  have e1 : bareL ((l.drop k).takeWhile gtB) = (l.drop k).takeWhile gtB := by
    unfold bareL
    exact List.filter_eq_self.2 (bare_tw gtB (l.drop k))
  have e2 : bareL ((l.drop (k + ((l.drop k).takeWhile gtB).length)).takeWhile leB) = [] := by
    unfold bareL
    refine List.filter_eq_nil_iff.2 fun d hd => ?_
    have := bare_tw leB _ d hd
    simp [leB] at this ⊢
    exact this
  rw [e1, e2, List.append_nil]
theorem bare_more (l : List UInt8) (k : Nat) (h : k < l.length) : k < k + ((l.drop k).takeWhile gtB).length + ((l.drop (k + ((l.drop k).takeWhile gtB).length)).takeWhile leB).length := by
  cases hg : gtB l[k]
  · have e1 : (l.drop k).takeWhile gtB = [] := by rw [List.drop_eq_getElem_cons h, List.takeWhile_cons, hg]; rfl
    have hl : leB l[k] = true := by simp [gtB] at hg; simpa [leB] using hg
    have e2 : 0 < ((l.drop k).takeWhile leB).length := by rw [List.drop_eq_getElem_cons h, List.takeWhile_cons, hl]; exact Nat.succ_pos _
    rw [e1, List.length_nil, Nat.add_zero]
    omega
  · have e1 : 0 < ((l.drop k).takeWhile gtB).length := by rw [List.drop_eq_getElem_cons h, List.takeWhile_cons, hg]; exact Nat.succ_pos _
    omega
theorem bare_len (l : List UInt8) : (bareL l).length ≤ l.length := List.length_filter_le _ _
theorem IsBld.keepsT {B d b : Nat} {l : List UInt8} {w w' : World} (h : IsBld B d l w) (hk : Keeps [b] w w') (hb : b < B) : IsBld B d l w' := by
  rcases h with ⟨hB, v, hb', ho, hne⟩ | ⟨hB, v, hb', ho, hne⟩
  · exact .inl ⟨hB, v, by rw [hk.block d (lt_of_block hb') (by simp; omega)]; exact hb', hk.owns ho (fun g hg => by have := (ho.lt g hg).1; simp; omega), hne⟩
  · exact .inr ⟨hB, v, by rw [hk.block d (lt_of_block hb') (by simp; omega)]; exact hb', hk.owns ho (fun g hg => by have := (ho.lt g hg).1; simp; omega), hne⟩
theorem KeepsB.text {B d : Nat} {w w' : World} {b : Nat} {s : ByteArray} {k : Nat} (h : KeepsB B d w w') (hT : IsText w b s k) (hb : b < B) (hd : b ≠ d) : IsText w' b s k := by
  rw [IsText, h.block b hT.lt hd (.inl hb)]; exact hT
set_option maxRecDepth 4000 in
set_option maxHeartbeats 4000000 in
theorem bare_any (s : ByteArray) (w : World) (hs : s.size ≤ 3000) :
    Calls Tryz.prog 150 #[.string s] w fun e w' => e = .returned (.string ⟨(bareL s.data.toList).toArray⟩) ∧ Keeps [] w w' := by
  have p1 := hide (fun k (w : World) hT hk => pass_of 226 gtB enters226 gt_any w.heap.size s k w hs hT hk)
  have P1 := hide (fun b k (w : World) hT hk => pass_of 226 gtB enters226 gt_any b s k w hs hT hk)
  have P2 := hide (fun b k (w : World) hT hk => pass_of 227 leB enters227 le_any b s k w hs hT hk)
  clear p1
  have hln := len_size s
  go_enter Tryz.func150, Tryz.ntmps150
  go_wp2_with fail
  refine (new_any s _).mono ?_
  rintro e w1 ⟨rfl, rfl⟩
  go_wp2_with fail
  have hT0 : IsText ((w.alloc (.cells #[.string s, .int .i64 0] 181)).alloc (.cells #[.pointer none, .slice none 0 0] 134)) w.heap.size s 0 := by
    unfold IsText
    rw [Below.heap_alloc _ _ _ (by simp)]
    exact heap_alloc_new _ _
  have hB0 : IsBld (w.heap.size + 1) (w.heap.size + 1) [] ((w.alloc (.cells #[.string s, .int .i64 0] 181)).alloc (.cells #[.pointer none, .slice none 0 0] 134)) := by
    have := bld_newU (w.alloc (.cells #[.string s, .int .i64 0] 181))
    rw [show (w.alloc (.cells #[.string s, .int .i64 0] 181)).heap.size = w.heap.size + 1 from by simp] at this
    exact this
  have hK0 : Keeps [] w ((w.alloc (.cells #[.string s, .int .i64 0] 181)).alloc (.cells #[.pointer none, .slice none 0 0] 134)) := ((Keeps.refl [] w).alloc _).alloc _
  have hZ0 : w.heap.size + 1 ≤ ((w.alloc (.cells #[.string s, .int .i64 0] 181)).alloc (.cells #[.pointer none, .slice none 0 0] 134)).heap.size := by simp
  go_loopw [9] (fun _ wr => ∃ k : Nat, k ≤ s.size ∧ IsText wr w.heap.size s k ∧ IsBld (w.heap.size + 1) (w.heap.size + 1) (bareL (s.data.toList.take k)) wr ∧ Keeps [] w wr ∧ w.heap.size + 1 ≤ wr.heap.size) (fun _ wr => s.size - (intOf ((wr.cell? ⟨w.heap.size, 1, none⟩).getD undef)).toNat)
  case atStart => exact ⟨0, Nat.zero_le _, hT0, by simpa [bareL] using hB0, hK0, hZ0⟩
  case round =>
    obtain ⟨k, hk, hT, hB, hK, hZ⟩ := hrel
    clear hT0 hB0 hK0 hZ0
    have c1 := hT.cell1
    by_cases hlt : k < s.size
    · have hd : decide (s.size ≤ k) = false := by simp; omega
      have HS := hide (bare_step s.data.toList k)
      have HM := hide (bare_more s.data.toList k (by rw [hln]; exact hlt))
      have l1 := takeWhile_le gtB s k hk
      have hbl : (bareL (s.data.toList.take k)).length ≤ 3000 := by
        have h1 := bare_len (s.data.toList.take k)
        have h2 : (s.data.toList.take k).length ≤ s.data.toList.length := (List.take_sublist _ _).length_le
        omega
      go_wp2_with fail
      refine (done_any _ s k _ hT).mono ?_
      rintro e w2 ⟨rfl, n2, rfl⟩
      rw [hd]
      have hT2 : IsText (wr.drewN n2) w.heap.size s k := hT
      go_wp2_with fail
      refine (P1.out _ k _ hT2 hk).mono ?_
      rintro e w3 ⟨rfl, hT3, hk3⟩
      have hB3 := hB.keepsT (keeps_of_drewN hk3) (by omega)
      have hK3 : Keeps [] w w3 := (hK.mono (T := [w.heap.size]) (by simp)).trans (keeps_of_drewN hk3) |>.mono (fun i hi hlt => by simp at hi; omega)
      have hz3 := hk3.size
      have l2 := takeWhile_le leB s (k + ((s.data.toList.drop k).takeWhile gtB).length) l1
      generalize hG : (s.data.toList.drop k).takeWhile gtB = G at *
      clear hG
      go_wp2_with fail
      refine (write_all (w.heap.size + 1) (w.heap.size + 1) _ G _ hB3 (by omega) (by simp at hz3; omega)).mono ?_
      rintro e w4 ⟨rfl, hB4, hk4⟩
      have hT4 := hk4.text hT3 (by omega) (by omega)
      have hK4 : Keeps [] w w4 := KeepsB.nil hK3 hk4 (by omega) (Nat.le_refl _)
      have hz4 := hk4.size
      go_wp2_with fail
      refine (P2.out _ _ _ hT4 l1).mono ?_
      rintro e w5 ⟨rfl, hT5, hk5⟩
      have hB5 := hB4.keepsT hk5 (by omega)
      rw [← HS.out] at hB5
      have hK5 : Keeps [] w w5 := (hK4.mono (T := [w.heap.size]) (by simp)).trans hk5 |>.mono (fun i hi hlt => by simp at hi; omega)
      have hz5 := hk5.size
      go_wp2_with fail
      go_roundw
      case rel => exact ⟨_, l2, hT5, hB5, hK5, by simp at hz3; omega⟩
      case measure =>
        have h5 := hT5.cell1
        rw [h5, c1]
        simp only [intOf, Option.getD_some]
        have := HM.out
        omega
    · have hd : decide (s.size ≤ k) = true := by simp; omega
      have he : s.data.toList.take k = s.data.toList := List.take_of_length_le (by rw [hln]; omega)
      rw [he] at hB
      obtain ⟨A, hA⟩ : ∃ A, bareL s.data.toList = A := ⟨_, rfl⟩
      rw [hA] at hB
      have HA := hide hA
      clear hA he
      go_wp2_with fail
      refine (done_any _ s k _ hT).mono ?_
      rintro e w2 ⟨rfl, n2, rfl⟩
      rw [hd]
      have hB2 : IsBld (w.heap.size + 1) (w.heap.size + 1) A (wr.drewN n2) := hB
      go_wp2_with fail
      refine (Tryz.Builder_String_any _ _ A _ hB2 (by simpa using hZ)).mono ?_
      rintro e w3 ⟨rfl, hb3⟩
      have hK3 : Keeps [] w w3 := by
        have h6 : Below w.heap.size wr w3 := ⟨hb3.os, hb3.tape, hb3.output, hb3.size, fun k hk => hb3.block k (by omega)⟩
        exact ⟨h6.os.trans hK.os, h6.tape.trans hK.tape, h6.output.trans hK.output, Nat.le_trans hK.size h6.size, fun k hk _ => (h6.block k hk).trans (hK.block k hk List.not_mem_nil)⟩
      go_wp2_with fail
      go_ret
      exact ⟨by rw [HA.out]; simp, hK3⟩
set_option maxHeartbeats 400000 in
theorem safe_long (s : ByteArray) (w : World) (hm : s.size ≤ maxLen) (h : 3000 < s.size) :
    Calls Tryz.prog 75 #[.string s] w fun e w' => e = .returned (.tuple #[.bool false, .int .i64 2]) ∧ w' = w := by
  unfold maxLen at hm
  have hd : decide ((3000 : Int) < (s.size : Int)) = true := by simp; omega
  go_enter Tryz.func75, Tryz.ntmps75
  go_wp2_with fail
  go_ret2
  exact ⟨rfl, rfl⟩
theorem field0 (u : UrlT) (w : World) : (Instr.field 99 (.agg #[.string ⟨u.scheme.toArray⟩, .string ⟨u.authority.toArray⟩, .string ⟨u.path.toArray⟩, .string ⟨u.query.toArray⟩, .string ⟨u.fragment.toArray⟩, .bool u.hs, .bool u.ha, .bool u.hq, .bool u.hf]) 0).run Tryz.prog w = .ok (.string ⟨u.scheme.toArray⟩) w := by
  kernel_rfl
set_option maxRecDepth 4000 in
set_option maxHeartbeats 2000000 in
theorem safe_any (s : ByteArray) (w : World) (hs : s.size ≤ 3000) (hM : HasMax w) :
    Calls Tryz.prog 75 #[.string s] w fun e w' => e = .returned (.tuple #[.bool (safeL s.data.toList), .int .i64 0]) ∧ Keeps [] w w' := by
  have hd : decide ((3000 : Int) < (s.size : Int)) = false := by simp; omega
  have hb := hide (bare_any s w hs)
  have hbl := bare_len s.data.toList
  rw [len_size] at hbl
  have hsp := hide (fun w hM => split_any ⟨(bareL s.data.toList).toArray⟩ w (by rw [str_size]; omega) hM)
  rw [str_list] at hsp
  have hsl := split_len (bareL s.data.toList)
  have hlo := hide (fun w => lower_any ⟨(splitL (bareL s.data.toList)).scheme.toArray⟩ w (by rw [str_size]; omega))
  rw [str_list] at hlo
  have HS : Hid (safeL s.data.toList = okS (lowerL (splitL (bareL s.data.toList)).scheme)) := rfl
  obtain ⟨A, hA⟩ : ∃ A, safeL s.data.toList = A := ⟨_, rfl⟩
  rw [hA] at HS ⊢
  clear hA hbl hsl
  generalize bareL s.data.toList = B at *
  generalize splitL B = u at *
  generalize lowerL u.scheme = L at *
  unfold urlV urlCells at hsp
  have hfd := field0 u
  have q1 : ∀ l : List UInt8, ((⟨L.toArray⟩ : ByteArray).toList == l) = (L == l) := fun l => by rw [ByteArray.toList_eq]
  have HQ : Hid (A = (L == [104, 116, 116, 112] || L == [104, 116, 116, 112, 115] || L == [109, 97, 105, 108, 116, 111])) := HS.out
  cases h1 : (L == [104, 116, 116, 112]) <;> cases h2 : (L == [104, 116, 116, 112, 115]) <;> cases h3 : (L == [109, 97, 105, 108, 116, 111])
  all_goals
    rw [h1, h2, h3] at HQ
    have p1 := (q1 [104, 116, 116, 112]).trans h1
    have p2 := (q1 [104, 116, 116, 112, 115]).trans h2
    have p3 := (q1 [109, 97, 105, 108, 116, 111]).trans h3
    clear q1 HS
    go_enter Tryz.func75, Tryz.ntmps75
    go_wp2_with fail
    refine hb.out.mono ?_
    rintro e w1 ⟨rfl, hk1⟩
    go_wp2_with fail
    refine (hsp.out _ (hM.keeps hk1 (by simp))).mono ?_
    rintro e w2 ⟨rfl, hk2⟩
    go_wp2_with fail
    refine (hlo.out _).mono ?_
    rintro e w3 ⟨rfl, hk3⟩
    go_wp2_with fail
    go_ret2
    exact ⟨by rw [HQ.out]; rfl, (hk1.trans hk2).trans hk3⟩
end Go.Proofs.YtlcljanibjdejaaGreat
namespace Go.Proofs.YtlcljanibjdejaaGreat
open Go.RowKit Go.Maps
set_option maxHeartbeats 4000000 in
theorem attrMust_any (el : List UInt8) (a : Pair) (w : World) (hM : HasMax w) (hv : a.2.length ≤ maxLen) :
    Calls Tryz.prog 173 #[.string ⟨el.toArray⟩, .agg #[.string ⟨a.1.toArray⟩, .string ⟨a.2.toArray⟩]] w fun e w' =>
      (attrE el a = 0 ∧ e = .returned (.tuple #[]) ∨ attrE el a ≠ 0 ∧ e = .panicked (stopped (attrE el a))) ∧ Keeps [] w w' := by
  obtain ⟨n, v⟩ := a
  simp only at hv
  have hkA : Keeps [] w (w.alloc (.cells #[.string ⟨n.toArray⟩, .string ⟨v.toArray⟩] 52)) := (Keeps.refl [] w).alloc _
  have hA := heap_alloc_new w (.cells #[.string ⟨n.toArray⟩, .string ⟨v.toArray⟩] 52)
  have c0 : (w.alloc (.cells #[.string ⟨n.toArray⟩, .string ⟨v.toArray⟩] 52)).cell? ⟨w.heap.size, 0, none⟩ = some (.string ⟨n.toArray⟩) := cell_blk hA 0
  have c1 : (w.alloc (.cells #[.string ⟨n.toArray⟩, .string ⟨v.toArray⟩] 52)).cell? ⟨w.heap.size, 1, none⟩ = some (.string ⟨v.toArray⟩) := cell_blk hA 1
  have hM1 := hM.keeps hkA List.not_mem_nil
  have ha := hide (fun w => isAllowedAttr_any el n w)
  have hl := hide (fun w => isLink_any n w)
  unfold attrE
  simp only
  cases h1 : allowedA el n
  · rw [if_pos rfl]
    rw [h1] at ha
    go_enter Tryz.func173, Tryz.ntmps173
    go_wp2_with fail
    refine (ha.out _).mono ?_
    rintro e w1 ⟨rfl, h9⟩
    subst h9
    go_wp2_with fail
    refine (with_any 7 _).mono ?_
    rintro e w1 ⟨rfl, h9⟩
    subst h9
    exact ⟨rfl, .inr ⟨by decide, rfl⟩, hkA⟩
  · rw [if_neg (by simp)]
    rw [h1] at ha
    cases h2 : linkN n
    · rw [if_pos rfl]
      rw [h2] at hl
      go_enter Tryz.func173, Tryz.ntmps173
      go_wp2_with fail
      refine (ha.out _).mono ?_
      rintro e w1 ⟨rfl, h9⟩
      subst h9
      go_wp2_with fail
      refine (hl.out _).mono ?_
      rintro e w1 ⟨rfl, h9⟩
      subst h9
      go_wp2_with fail
      go_end0
      exact ⟨.inl ⟨trivial, rfl⟩, hkA⟩
    · rw [if_neg (by simp)]
      rw [h2] at hl
      by_cases h3 : 3000 < v.length
      · rw [if_pos h3]
        have hs := hide (fun w => safe_long ⟨v.toArray⟩ w hv h3)
        have hm := hide (fun w => mustBool_no false 2 (by decide) w)
        go_enter Tryz.func173, Tryz.ntmps173
        go_wp2_with fail
        refine (ha.out _).mono ?_
        rintro e w1 ⟨rfl, h9⟩
        subst h9
        go_wp2_with fail
        refine (hl.out _).mono ?_
        rintro e w1 ⟨rfl, h9⟩
        subst h9
        go_wp2_with fail
        refine (hs.out _).mono ?_
        rintro e w1 ⟨rfl, h9⟩
        subst h9
        go_wp2_with fail
        refine (hm.out _).mono ?_
        rintro e w1 ⟨rfl, h9⟩
        subst h9
        exact ⟨rfl, .inr ⟨by decide, rfl⟩, hkA⟩
      · rw [if_neg h3]
        have hs := hide (fun w hM => safe_any ⟨v.toArray⟩ w (by rw [str_size]; omega) hM)
        rw [str_list] at hs
        cases h4 : safeL v
        · rw [if_pos rfl]
          rw [h4] at hs
          have hm := hide (fun w => mustBool_ok false w)
          go_enter Tryz.func173, Tryz.ntmps173
          go_wp2_with fail
          refine (ha.out _).mono ?_
          rintro e w1 ⟨rfl, h9⟩
          subst h9
          go_wp2_with fail
          refine (hl.out _).mono ?_
          rintro e w1 ⟨rfl, h9⟩
          subst h9
          go_wp2_with fail
          refine (hs.out _ hM1).mono ?_
          rintro e w1 ⟨rfl, hk1⟩
          go_wp2_with fail
          refine (hm.out _).mono ?_
          rintro e w2 ⟨rfl, h9⟩
          subst h9
          go_wp2_with fail
          refine (with_any 4 _).mono ?_
          rintro e w2 ⟨rfl, h9⟩
          subst h9
          exact ⟨rfl, .inr ⟨by decide, rfl⟩, hkA.trans hk1⟩
        · rw [if_neg (by simp)]
          rw [h4] at hs
          have hm := hide (fun w => mustBool_ok true w)
          go_enter Tryz.func173, Tryz.ntmps173
          go_wp2_with fail
          refine (ha.out _).mono ?_
          rintro e w1 ⟨rfl, h9⟩
          subst h9
          go_wp2_with fail
          refine (hl.out _).mono ?_
          rintro e w1 ⟨rfl, h9⟩
          subst h9
          go_wp2_with fail
          refine (hs.out _ hM1).mono ?_
          rintro e w1 ⟨rfl, hk1⟩
          go_wp2_with fail
          refine (hm.out _).mono ?_
          rintro e w2 ⟨rfl, h9⟩
          subst h9
          go_wp2_with fail
          go_end0
          exact ⟨.inl ⟨trivial, rfl⟩, hkA.trans hk1⟩
theorem attrsE_drop (el : List UInt8) (l : List Pair) (k : Nat) (hk : k < l.length) : attrsE el (l.drop k) = if attrE el l[k] = 0 then attrsE el (l.drop (k + 1)) else attrE el l[k] := by
  rw [List.drop_eq_getElem_cons hk]
  rfl
set_option maxRecDepth 4000 in
set_option maxHeartbeats 8000000 in
theorem mustStand_any (n : List UInt8) (t : List UInt8) (l : List Pair) (ao : Option Addr) (an ac : Nat) (kv : Value) (w : World) (hM : HasMax w) (hv : Lies w (.slice ao an ac) l.length 2 (pairCells l)) (hlen : ∀ p ∈ l, p.2.length ≤ maxLen) (hkv : ∃ o m c, kv = .slice o m c) :
    Calls Tryz.prog 89 #[.agg #[.string ⟨n.toArray⟩, .slice ao an ac, .string ⟨t.toArray⟩, kv]] w fun e w' =>
      (standE n l = 0 ∧ e = .returned (.tuple #[]) ∨ standE n l ≠ 0 ∧ e = .panicked (stopped (standE n l))) ∧ Keeps [] w w' := by
  obtain ⟨ko, km, kc, rfl⟩ := hkv
  obtain ⟨o, c, hvv, h1, h2⟩ := hv.form
  simp only [Value.slice.injEq] at hvv
  obtain ⟨rfl, rfl, rfl⟩ := hvv
  obtain ⟨W, hW⟩ : ∃ W, w.alloc (.cells #[.string ⟨n.toArray⟩, .slice ao l.length ac, .string ⟨t.toArray⟩, .slice ko km kc] 45) = W := ⟨_, rfl⟩
  have hkA : Keeps [] w W := by rw [← hW]; exact (Keeps.refl [] w).alloc _
  have hA : W.heap[w.heap.size]? = some (.cells #[.string ⟨n.toArray⟩, .slice ao l.length ac, .string ⟨t.toArray⟩, .slice ko km kc] 45 (0, 0)) := by rw [← hW]; exact heap_alloc_new w _
  have cell0 : ∀ W', Keeps [] W W' → W'.cell? ⟨w.heap.size, 0, none⟩ = some (.string ⟨n.toArray⟩) := fun W' hk => cell_keeps hk (cell_blk hA 0)
  have cell1 : ∀ W', Keeps [] W W' → W'.cell? ⟨w.heap.size, 1, none⟩ = some (.slice ao l.length ac) := fun W' hk => cell_keeps hk (cell_blk hA 1)
  have C0 := hide cell0
  have C1 := hide cell1
  have hM1 := hide (hM.keeps hkA List.not_mem_nil)
  have hal := hide (fun w => isAllowed_any n w)
  have hcs := hide (fun w' (hk : Keeps [] w w') => containsSrc_any w' _ l (hv.keeps hk))
  have hE := enters175
  unfold Enters at hE
  have d0 := cell0 W (Keeps.refl _ _)
  have d1 := cell1 W (Keeps.refl _ _)
  unfold maxLen at h2
  obtain ⟨R, hR⟩ : ∃ R, standE n l = R := ⟨_, rfl⟩
  rw [hR]
  unfold standE at hR
  clear cell0 cell1 hA
  cases he : n.isEmpty
  · rw [he, if_neg (by simp)] at hR
    have p0 := (emptyB n)
    cases ha : allowedN n
    · rw [ha, if_pos rfl] at hR
      rw [ha] at hal
      subst hR
      clear p0
      go_enter Tryz.func89, Tryz.ntmps89
      go_wp2_with fail
      refine (hal.out _).mono ?_
      rintro e w1 ⟨rfl, h9⟩
      obtain rfl : W = w1 := h9.symm
      go_wp2_with fail
      refine (with_any 7 _).mono ?_
      rintro e w1 ⟨rfl, h9⟩
      subst h9
      exact ⟨rfl, .inr ⟨by decide, rfl⟩, hkA⟩
    · rw [ha, if_neg (by simp)] at hR
      rw [ha] at hal
      obtain ⟨A, hA⟩ : ∃ A, attrsE n l = A := ⟨_, rfl⟩
      rw [hA] at hR
      have HR := hide hR
      have HA := hide hA
      clear p0 hR hA
      go_enter Tryz.func89, Tryz.ntmps89
      go_wp2_with fail
      refine (hal.out _).mono ?_
      rintro e w1 ⟨rfl, h9⟩
      obtain rfl : W = w1 := h9.symm
      go_wp2_with fail
      go_loopw [16] (fun i wr => ∃ k : Nat, k ≤ l.length ∧ i = .int .i64 k ∧ Keeps [] W wr ∧ Hid (attrsE n (l.drop k) = A)) (fun i _ => l.length - (intOf i).toNat)
      case atStart => exact ⟨0, Nat.zero_le _, rfl, Keeps.refl _ _, HA⟩
      case round =>
        obtain ⟨k, hk, rfl, hkw, hC⟩ := hrel
        clear HA d0 d1
        have d0 := C0.out wr hkw
        have d1 := C1.out wr hkw
        by_cases hlt : k < l.length
        · obtain ⟨g, x, rfl, hc⟩ := (hv.keeps (hkA.trans hkw)).addr (by omega)
          have a0 := hc _ _ (pair_at0 l k hlt)
          have a1 := hc _ _ (pair_at1 l k hlt)
          rw [← Nat.add_assoc] at a1
          have hC1 := hC.out
          rw [attrsE_drop n l k hlt] at hC1
          have HC1 := hide hC1
          have hvl := hlen _ (List.getElem_mem hlt)
          have hM2 := hM1.out.keeps hkw List.not_mem_nil
          clear hC hC1 hc
          generalize l[k] = p at *
          obtain ⟨pn, pv⟩ := p
          simp only at a0 a1 hvl
          have hkB : Keeps [] wr (wr.alloc (.cells #[.string ⟨pn.toArray⟩, .string ⟨pv.toArray⟩] 52)) := (Keeps.refl [] wr).alloc _
          have hcl := hide (attrMust_any n (pn, pv) _ (hM2.keeps hkB List.not_mem_nil) hvl)
          have d0a : ∀ o, (wr.alloc o).cell? ⟨w.heap.size, 0, none⟩ = some (.string ⟨n.toArray⟩) := fun o => C0.out _ (hkw.alloc o)
          generalize attrE n (pn, pv) = E at *
          go_wp2_with fail
          refine hcl.out.mono ?_
          rintro e w1 ⟨⟨hE0, rfl⟩ | ⟨hE0, rfl⟩, hk1⟩
          · clear a0 a1 d0 d1
            go_wp2_with fail
            go_roundw
            case rel => exact ⟨k + 1, by omega, by go_num, (hkw.trans hkB).trans hk1, by have h9 := HC1.out; rw [if_pos hE0] at h9; exact h9⟩
            case measure => simp [intOf]; omega
          · have h9 := HC1.out
            rw [if_neg hE0] at h9
            have hRE : R = E := by have h8 := HR.out; rw [← h9, if_neg hE0] at h8; exact h8.symm
            subst hRE
            exact ⟨rfl, .inr ⟨hE0, rfl⟩, hkA.trans ((hkw.trans hkB).trans hk1)⟩
        · have hA0 : A = 0 := by
            rw [← hC.out, List.drop_eq_nil_of_le (by omega)]
            rfl
          have hR2 := HR.out
          rw [hA0, if_pos rfl] at hR2
          have hcs2 := hide (hcs.out wr (hkA.trans hkw))
          clear hcs hC
          cases h1 : (n == [105, 109, 103])
          · rw [h1, Bool.false_and, if_neg (by simp)] at hR2
            subst hR2
            have p1 := (nameEq n _).trans h1
            go_wp2_with fail
            refine hcs2.out.mono ?_
            rintro e w2 ⟨rfl, hk2⟩
            have e0 := C0.out w2 (hkw.trans hk2)
            clear d0 d1
            go_wp2_with fail
            go_end0
            first | exact ⟨.inl ⟨trivial, rfl⟩, hkA.trans (hkw.trans hk2)⟩ | exact ⟨rfl, hkA.trans (hkw.trans hk2)⟩
          · have p1 := (nameEq n _).trans h1
            cases h2 : hasSrc l
            · rw [h1, h2] at hR2
              rw [h2] at hcs2
              have hR3 : R = 5 := hR2.symm
              subst hR3
              go_wp2_with fail
              refine hcs2.out.mono ?_
              rintro e w2 ⟨rfl, hk2⟩
              have e0 := C0.out w2 (hkw.trans hk2)
              clear d0 d1
              go_wp2_with fail
              refine (with_any 5 _).mono ?_
              rintro e w3 ⟨rfl, h9⟩
              subst h9
              exact ⟨rfl, .inr ⟨by decide, rfl⟩, hkA.trans (hkw.trans hk2)⟩
            · rw [h1, h2] at hR2
              rw [h2] at hcs2
              have hR3 : R = 0 := hR2.symm
              subst hR3
              go_wp2_with fail
              refine hcs2.out.mono ?_
              rintro e w2 ⟨rfl, hk2⟩
              have e0 := C0.out w2 (hkw.trans hk2)
              clear d0 d1
              go_wp2_with fail
              go_end0
              first | exact ⟨.inl ⟨trivial, rfl⟩, hkA.trans (hkw.trans hk2)⟩ | exact ⟨rfl, hkA.trans (hkw.trans hk2)⟩
  · rw [he, if_pos rfl] at hR
    subst hR
    go_enter Tryz.func89, Tryz.ntmps89
    go_wp2_with fail
    refine bodyPost_ret (v := .tuple #[]) (by simp [results, Tryz.results89]) rfl ?_
    exact ⟨.inl ⟨trivial, rfl⟩, by first | exact hkA | exact hW ▸ hkA⟩
end Go.Proofs.YtlcljanibjdejaaGreat
