/- A path without its dots. A link in the light of a base: merged. -/
import Derived.Test.YtlcljanibjdejaaGreatPk15
namespace Go.Proofs.YtlcljanibjdejaaGreat
open Go.RowKit

theorem enters219 : Enters 219 := enters_of Tryz.func219 (by kernel_rfl) (by kernel_rfl)

theorem IsStr.free {w : World} {p : Nat} {x : ByteArray} (h : IsStr w p x) : w.frozen? ⟨p, 0, none⟩ = false := by
  simp [World.frozen?, IsStr] at h ⊢; simp [h]
theorem IsStr.set {w : World} {p : Nat} {x : ByteArray} (h : IsStr w p x) (y : ByteArray) : IsStr (w.setCell ⟨p, 0, none⟩ (.string y)) p y := by
  simp [World.setCell, IsStr, Array.getElem?_modify] at h ⊢; simp [h]

theorem set_rowU {w : World} {B : Nat} {e : TypeId} {z : Nat} {v : Value} {n : Nat} {xs : List Value} (h : w.ownsRow B e z v n xs) {a : Addr} (ha : v.ownBlock ≠ some a.block) (u : Value) : (w.setCell a u).ownsRow B e z v n xs :=
  ((Keeps.refl [a.block] w).setCell (.inl (by simp)) u).owns h fun k hk hm => ha (by simp at hm; rw [hk, hm])

set_option maxHeartbeats 400000 in
theorem begins31 (p : Nat) (X mark : ByteArray) (w : World) (h : IsStr w p X) (r : Bool) (hr : mark.data.toList.isPrefixOf X.data.toList = r) :
    Calls Tryz.prog 219 #[.string mark, .pointer (some ⟨p, 0, none⟩)] w fun e w' => e = .returned (.bool r) ∧ w' = w := by
  have c0 := h.cell
  have hp := hide (fun w => Tryz.strings_HasPrefix X mark w)
  have e : Lib.hasPrefix X.data.toList mark.data.toList = r := hr
  rw [e] at hp
  clear e hr
  go_enter Tryz.func219, Tryz.ntmps219
  go_wp2_with (go_at_call 220; refine (hp.out _).mono ?_; rintro e w' ⟨rfl, rfl⟩)
  go_ret
  exact ⟨by simp, rfl⟩

def strLen : Value → Nat
  | .string s => s.size
  | _ => 0

theorem eq_list (X : ByteArray) (l : List UInt8) : (X.toList == l) = decide (X.data.toList = l) := by
  rw [ByteArray.toList_eq, Bool.eq_iff_iff]; simp

theorem size_of_list {X : ByteArray} {l : List UInt8} (h : X.data.toList = l) : X.size = l.length := by rw [← len_size, h]
theorem empty_iff (X : ByteArray) : X.toList.isEmpty = decide (X.data.toList = []) := by
  rw [ByteArray.toList_eq]; cases X.data.toList <;> simp

theorem own_stringU {w : World} {B : Nat} {v : Value} {l : List UInt8} (h : w.ownsRow B 5 1 v l.length (Lib.byteCells l)) : (convert 107 9 v).run Tryz.prog w = .ok (.string ⟨l.toArray⟩) w := by
  rcases h.2 with ⟨rfl, h0⟩ | ⟨g, cap, cur, rfl, hb, hg, h1, h2, h3, h4⟩
  · have : l = [] := List.eq_nil_of_length_eq_zero h0
    subst this
    rw [run_convert_bytes_string w 107 9 5 none 0 0 Tryz.underlying107 Tryz.underlying5 Tryz.underlying9]
    simp [Conv.bytesToString]
    rfl
  · refine run_convert_bytes_back w 107 9 5 ⟨g, 0, none⟩ cap l Tryz.underlying107 Tryz.underlying5 Tryz.underlying9 ?_
    intro j hj
    have := h.cells (g := g) rfl j (.int .u8 (l[j].toNat : Int)) (by simp [Lib.byteCells, hj])
    exact this

/-- What holds while dots go: what is left, what has come. -/
structure Do (w : World) (N : Nat) (R : List UInt8) (v : Value) (W : World) (X : ByteArray) (o : List UInt8) : Prop where
  str : IsStr W w.heap.size X
  row : W.ownsRow (w.heap.size + 1) 5 1 v o.length (Lib.byteCells o)
  left : dotsR X.data.toList o = R
  len : X.size + o.length ≤ N
  keeps : Keeps [] w W

theorem Do.ne {w : World} {N : Nat} {R : List UInt8} {v : Value} {W : World} {X : ByteArray} {o : List UInt8} (h : Do w N R v W X o) : v.ownBlock ≠ some w.heap.size := by
  intro e
  have := (h.row.lt _ e).1
  omega

theorem Do.next {w : World} {N : Nat} {R : List UInt8} {v : Value} {W : World} {X : ByteArray} {o : List UInt8} (h : Do w N R v W X o) (hne : X.data.toList ≠ []) (Y : ByteArray) (o' : List UInt8) (v' : Value) (W' : World)
    (hs : dotStep X.data.toList o = (Y.data.toList, o')) (hS : IsStr W' w.heap.size Y) (hr : W'.ownsRow (w.heap.size + 1) 5 1 v' o'.length (Lib.byteCells o')) (hk : Keeps [] w W') : Do w N R v' W' Y o' := by
  have h1 := dotsR_step X.data.toList o hne
  have h2 := dotStep_less X.data.toList o hne
  have h3 := h.len
  have h4 := len_size X
  have h5 := len_size Y
  rw [hs] at h1 h2
  simp only at h1 h2
  exact ⟨hS, hr, h1.symm.trans h.left, by omega, hk⟩

/-- The measure falls. -/
theorem step_less {X : ByteArray} {o : List UInt8} (hne : X.data.toList ≠ []) (Y : ByteArray) (o' : List UInt8)
    (hs : dotStep X.data.toList o = (Y.data.toList, o')) : Y.size < X.size := by
  have h2 := dotStep_less X.data.toList o hne
  have h4 := len_size X
  have h5 := len_size Y
  rw [hs] at h2
  simp only at h2
  omega

theorem mea (W : World) (p : Nat) (X : ByteArray) (h : IsStr W p X) : strLen ((W.cell? ⟨p, 0, none⟩).getD undef) = X.size := by rw [h.cell]; rfl

set_option maxRecDepth 4000 in
set_option maxHeartbeats 8000000 in
theorem withoutDots_any (s : ByteArray) (w : World) (hs : s.size ≤ 20000) :
    Calls Tryz.prog 147 #[.string s] w fun e w' => e = .returned (.string ⟨(dotsL s.data.toList).toArray⟩) ∧ Keeps [] w w' := by
  have hmf : ∀ (fn : Fn) (first cap : Array Value) (w : World), (Instr.makeFunc fn first cap).run Tryz.prog w = .ok (.func fn first cap) w := fun _ _ _ _ => rfl
  have hE := enters219
  unfold Enters at hE
  obtain ⟨i0, hi, hz0, hz1, hz2⟩ := info_parts Tryz.info5
  obtain ⟨R, hR⟩ : ∃ R, dotsL s.data.toList = R := ⟨_, rfl⟩
  rw [hR]
  have d0 : Do w 20000 R (.slice none 0 0) (w.alloc (.cells #[.string s] 9)) s [] :=
    ⟨heap_alloc_new _ _, ⟨rfl, .inl ⟨rfl, rfl⟩⟩, hR, by simpa using hs, (Keeps.refl [] w).alloc _⟩
  have D0 := hide d0
  clear hR d0
  go_enter Tryz.func147, Tryz.ntmps147
  go_wp2_with fail
  go_loopw [4] (fun v wr => ∃ (X : ByteArray) (o : List UInt8), Do w 20000 R v wr X o) (fun _ wr => strLen ((wr.cell? ⟨w.heap.size, 0, none⟩).getD undef))
  case atStart => exact ⟨s, [], D0.out⟩
  case round =>
    obtain ⟨X, o, D⟩ := hrel
    clear D0
    have c0 := D.str.cell
    have f0 := D.str.free
    have hln := D.len
    have hmea := hide (mea wr w.heap.size X D.str)
    by_cases he : X.data.toList = []
    · have hem : X.toList.isEmpty = true := by rw [empty_iff]; simpa using he
      have hl := D.left
      rw [he, dotsR_nil] at hl
      have hcv := own_stringU D.row
      have HL := hide hl
      have HK := hide D.keeps
      clear D hl he hE hmf
      go_wp2_with fail
      go_ret
      exact ⟨by rw [← HL.out]; simp, HK.out⟩
    · have HE := hide he
      have hem : X.toList.isEmpty = false := by rw [empty_iff]; simpa using HE.out
      clear he
      cases q1 : [46, 46, 47].isPrefixOf X.data.toList
      · have Q1 := hide q1
        clear q1
        cases q2 : [46, 47].isPrefixOf X.data.toList
        · have Q2 := hide q2
          clear q2
          cases q3 : [47, 46, 47].isPrefixOf X.data.toList
          · have Q3 := hide q3
            clear q3
            cases q4 : [47, 46, 46, 47].isPrefixOf X.data.toList
            · have Q4 := hide q4
              clear q4
              by_cases q5 : X.data.toList = [47, 46]
              · have Q5 := hide q5
                clear q5
                have hq : (X.toList == [47, 46]) = true := by rw [eq_list]; simpa using Q5.out
                have ST : Hid (dotStep X.data.toList o = ((⟨#[47]⟩ : ByteArray).data.toList, o)) := by
                  unfold dotStep
                  rw [if_neg (by rw [Q1.out]; simp), if_neg (by rw [Q2.out]; simp), if_neg (by rw [Q3.out]; simp), if_neg (by rw [Q4.out]; simp), if_pos Q5.out]
                  exact rfl
                go_wp2_with fail
                refine (begins31 _ X ⟨#[46, 46, 47]⟩ _ D.str false Q1.out).mono ?_
                rintro e w_1 ⟨rfl, rfl⟩
                go_wp2_with fail
                refine (begins31 _ X ⟨#[46, 47]⟩ _ D.str false Q2.out).mono ?_
                rintro e w_2 ⟨rfl, rfl⟩
                go_wp2_with fail
                refine (begins31 _ X ⟨#[47, 46, 47]⟩ _ D.str false Q3.out).mono ?_
                rintro e w_3 ⟨rfl, rfl⟩
                go_wp2_with fail
                refine (begins31 _ X ⟨#[47, 46, 46, 47]⟩ _ D.str false Q4.out).mono ?_
                rintro e w_4 ⟨rfl, rfl⟩
                go_wp2_with fail
                go_roundw
                case rel => exact ⟨⟨#[47]⟩, o, D.next HE.out ⟨#[47]⟩ o _ _ ST.out (D.str.set ⟨#[47]⟩) (set_rowU D.row (a := ⟨w.heap.size, 0, none⟩) D.ne _) (D.keeps.setCell (.inr (Nat.le_refl _)) _)⟩
                case measure =>
                  have h1 := mea _ _ _ ((D.str.set ⟨#[47]⟩) : IsStr _ w.heap.size ⟨#[47]⟩)
                  have h2 := step_less HE.out ⟨#[47]⟩ o ST.out
                  rw [h1, hmea.out]
                  exact h2
              · have Q5 := hide q5
                clear q5
                by_cases q6 : X.data.toList = [47, 46, 46]
                · have Q6 := hide q6
                  clear q6
                  have hq : (X.toList == [47, 46, 46]) = true := by rw [eq_list]; simpa using Q6.out
                  have ST : Hid (dotStep X.data.toList o = ((⟨#[47]⟩ : ByteArray).data.toList, (cutLast o))) := by
                    unfold dotStep
                    rw [if_neg (by rw [Q1.out]; simp), if_neg (by rw [Q2.out]; simp), if_neg (by rw [Q3.out]; simp), if_neg (by rw [Q4.out]; simp), if_neg Q5.out, if_pos Q6.out]
                    exact rfl
                  have hn5 : (X.toList == [47, 46]) = false := by rw [eq_list]; simpa using Q5.out
                  go_wp2_with fail
                  refine (begins31 _ X ⟨#[46, 46, 47]⟩ _ D.str false Q1.out).mono ?_
                  rintro e w_1 ⟨rfl, rfl⟩
                  go_wp2_with fail
                  refine (begins31 _ X ⟨#[46, 47]⟩ _ D.str false Q2.out).mono ?_
                  rintro e w_2 ⟨rfl, rfl⟩
                  go_wp2_with fail
                  refine (begins31 _ X ⟨#[47, 46, 47]⟩ _ D.str false Q3.out).mono ?_
                  rintro e w_3 ⟨rfl, rfl⟩
                  go_wp2_with fail
                  refine (begins31 _ X ⟨#[47, 46, 46, 47]⟩ _ D.str false Q4.out).mono ?_
                  rintro e w_4 ⟨rfl, rfl⟩
                  go_wp2_with fail
                  refine (withoutLast_any _ (w.heap.size + 1) o _ (set_rowU D.row (a := ⟨w.heap.size, 0, none⟩) D.ne (.string ⟨#[47]⟩)) (by omega)).mono ?_
                  rintro e w_9 ⟨⟨v9, rfl, hr9, hb9⟩, rfl⟩
                  obtain ⟨o9, c9, rfl⟩ := row_form hr9
                  go_wp2_with fail
                  go_roundw
                  case rel => exact ⟨⟨#[47]⟩, (cutLast o), D.next HE.out ⟨#[47]⟩ (cutLast o) _ _ ST.out (D.str.set ⟨#[47]⟩) hr9 (D.keeps.setCell (.inr (Nat.le_refl _)) _)⟩
                  case measure =>
                    have h1 := mea _ _ _ ((D.str.set ⟨#[47]⟩) : IsStr _ w.heap.size ⟨#[47]⟩)
                    have h2 := step_less HE.out ⟨#[47]⟩ (cutLast o) ST.out
                    rw [h1, hmea.out]
                    exact h2
                · have Q6 := hide q6
                  clear q6
                  by_cases q7 : X.data.toList = [46]
                  · have Q7 := hide q7
                    clear q7
                    have hq : (X.toList == [46]) = true := by rw [eq_list]; simpa using Q7.out
                    have ST : Hid (dotStep X.data.toList o = ((⟨#[]⟩ : ByteArray).data.toList, o)) := by
                      unfold dotStep
                      rw [if_neg (by rw [Q1.out]; simp), if_neg (by rw [Q2.out]; simp), if_neg (by rw [Q3.out]; simp), if_neg (by rw [Q4.out]; simp), if_neg Q5.out, if_neg Q6.out, if_pos (.inl Q7.out)]
                      exact rfl
                    have hn5 : (X.toList == [47, 46]) = false := by rw [eq_list]; simpa using Q5.out
                    have hn6 : (X.toList == [47, 46, 46]) = false := by rw [eq_list]; simpa using Q6.out
                    go_wp2_with fail
                    refine (begins31 _ X ⟨#[46, 46, 47]⟩ _ D.str false Q1.out).mono ?_
                    rintro e w_1 ⟨rfl, rfl⟩
                    go_wp2_with fail
                    refine (begins31 _ X ⟨#[46, 47]⟩ _ D.str false Q2.out).mono ?_
                    rintro e w_2 ⟨rfl, rfl⟩
                    go_wp2_with fail
                    refine (begins31 _ X ⟨#[47, 46, 47]⟩ _ D.str false Q3.out).mono ?_
                    rintro e w_3 ⟨rfl, rfl⟩
                    go_wp2_with fail
                    refine (begins31 _ X ⟨#[47, 46, 46, 47]⟩ _ D.str false Q4.out).mono ?_
                    rintro e w_4 ⟨rfl, rfl⟩
                    go_wp2_with fail
                    go_roundw
                    case rel => exact ⟨⟨#[]⟩, o, D.next HE.out ⟨#[]⟩ o _ _ ST.out (D.str.set ⟨#[]⟩) (set_rowU D.row (a := ⟨w.heap.size, 0, none⟩) D.ne _) (D.keeps.setCell (.inr (Nat.le_refl _)) _)⟩
                    case measure =>
                      have h1 := mea _ _ _ ((D.str.set ⟨#[]⟩) : IsStr _ w.heap.size ⟨#[]⟩)
                      have h2 := step_less HE.out ⟨#[]⟩ o ST.out
                      rw [h1, hmea.out]
                      exact h2
                  · have Q7 := hide q7
                    clear q7
                    by_cases q8 : X.data.toList = [46, 46]
                    · have Q8 := hide q8
                      clear q8
                      have hq : (X.toList == [46, 46]) = true := by rw [eq_list]; simpa using Q8.out
                      have ST : Hid (dotStep X.data.toList o = ((⟨#[]⟩ : ByteArray).data.toList, o)) := by
                        unfold dotStep
                        rw [if_neg (by rw [Q1.out]; simp), if_neg (by rw [Q2.out]; simp), if_neg (by rw [Q3.out]; simp), if_neg (by rw [Q4.out]; simp), if_neg Q5.out, if_neg Q6.out, if_pos (.inr Q8.out)]
                        exact rfl
                      have hn5 : (X.toList == [47, 46]) = false := by rw [eq_list]; simpa using Q5.out
                      have hn6 : (X.toList == [47, 46, 46]) = false := by rw [eq_list]; simpa using Q6.out
                      have hn7 : (X.toList == [46]) = false := by rw [eq_list]; simpa using Q7.out
                      go_wp2_with fail
                      refine (begins31 _ X ⟨#[46, 46, 47]⟩ _ D.str false Q1.out).mono ?_
                      rintro e w_1 ⟨rfl, rfl⟩
                      go_wp2_with fail
                      refine (begins31 _ X ⟨#[46, 47]⟩ _ D.str false Q2.out).mono ?_
                      rintro e w_2 ⟨rfl, rfl⟩
                      go_wp2_with fail
                      refine (begins31 _ X ⟨#[47, 46, 47]⟩ _ D.str false Q3.out).mono ?_
                      rintro e w_3 ⟨rfl, rfl⟩
                      go_wp2_with fail
                      refine (begins31 _ X ⟨#[47, 46, 46, 47]⟩ _ D.str false Q4.out).mono ?_
                      rintro e w_4 ⟨rfl, rfl⟩
                      go_wp2_with fail
                      go_roundw
                      case rel => exact ⟨⟨#[]⟩, o, D.next HE.out ⟨#[]⟩ o _ _ ST.out (D.str.set ⟨#[]⟩) (set_rowU D.row (a := ⟨w.heap.size, 0, none⟩) D.ne _) (D.keeps.setCell (.inr (Nat.le_refl _)) _)⟩
                      case measure =>
                        have h1 := mea _ _ _ ((D.str.set ⟨#[]⟩) : IsStr _ w.heap.size ⟨#[]⟩)
                        have h2 := step_less HE.out ⟨#[]⟩ o ST.out
                        rw [h1, hmea.out]
                        exact h2
                    · have Q8 := hide q8
                      clear q8
                      have hp0 : 0 < X.size := by rw [← len_size]; exact List.length_pos_iff.2 HE.out
                      have hfl : firstL X.data.toList ≤ X.size := by rw [← len_size]; exact firstL_le _ HE.out
                      have ey : (X.extract (firstL X.data.toList) X.size).data.toList = X.data.toList.drop (firstL X.data.toList) := Lib.extract_to_end X _
                      have ez : (X.extract 0 (firstL X.data.toList)).data.toList = X.data.toList.take (firstL X.data.toList) := by rw [Lib.extract_data]; simp
                      have ST : Hid (dotStep X.data.toList o = ((X.extract (firstL X.data.toList) X.size).data.toList, o ++ (X.extract 0 (firstL X.data.toList)).data.toList)) := by
                        unfold dotStep
                        rw [if_neg (by rw [Q1.out]; simp), if_neg (by rw [Q2.out]; simp), if_neg (by rw [Q3.out]; simp), if_neg (by rw [Q4.out]; simp), if_neg Q5.out, if_neg Q6.out, if_neg (fun h => h.elim Q7.out Q8.out), ← ey, ← ez]
                        exact rfl
                      have hfp := hide (fun w => firstPart_any X w hp0 (by omega))
                      have hzs : (X.extract 0 (firstL X.data.toList)).size ≤ X.size := by simp; omega
                      clear ey ez
                      generalize firstL X.data.toList = n at *
                      have hn5 : (X.toList == [47, 46]) = false := by rw [eq_list]; simpa using Q5.out
                      have hn6 : (X.toList == [47, 46, 46]) = false := by rw [eq_list]; simpa using Q6.out
                      have hn7 : (X.toList == [46]) = false := by rw [eq_list]; simpa using Q7.out
                      have hn8 : (X.toList == [46, 46]) = false := by rw [eq_list]; simpa using Q8.out
                      obtain ⟨ov, cv, hov⟩ := row_form D.row
                      subst hov
                      go_wp2_with fail
                      refine (begins31 _ X ⟨#[46, 46, 47]⟩ _ D.str false Q1.out).mono ?_
                      rintro e w_1 ⟨rfl, rfl⟩
                      go_wp2_with fail
                      refine (begins31 _ X ⟨#[46, 47]⟩ _ D.str false Q2.out).mono ?_
                      rintro e w_2 ⟨rfl, rfl⟩
                      go_wp2_with fail
                      refine (begins31 _ X ⟨#[47, 46, 47]⟩ _ D.str false Q3.out).mono ?_
                      rintro e w_3 ⟨rfl, rfl⟩
                      go_wp2_with fail
                      refine (begins31 _ X ⟨#[47, 46, 46, 47]⟩ _ D.str false Q4.out).mono ?_
                      rintro e w_4 ⟨rfl, rfl⟩
                      go_wp2_with fail
                      refine (hfp.out _).mono ?_
                      rintro e w_9 ⟨rfl, rfl⟩
                      go_wp2_with (at_builtin; refine Lib.wpList_append_own_string _ rfl _ _ 107 9 rfl (w.heap.size + 1) 5 i0 Tryz.underlying107 Tryz.underlying9 hi hz0 hz1 hz2 _ _ _ rfl D.row _ rfl ?c3 ?c4 ?c5 ?_)
                      case c3 => unfold maxLen; omega
                      case c4 => omega
                      case c5 => have := D.str.lt; omega
                      intro v9 w9 hr9 hg9 _
                      have es : (X.extract 0 n).size = n := by simp; omega
                      have hr9 := own_str (t := X.extract 0 n) (by rw [es]; exact hr9)
                      have hk9 : Keeps [] w w9 := (D.keeps.grown hg9 (fun k hk => .inr (by have := (D.row.lt k hk).1; omega)))
                      have hS9 : IsStr w9 w.heap.size X := by rw [IsStr, hg9.block _ D.str.lt (fun e => D.ne e.symm)]; exact D.str
                      have c9 := hS9.cell
                      have f9 := hS9.free
                      obtain ⟨o9, cp9, rfl⟩ := row_form hr9
                      have ne9 : (Value.slice o9 (o ++ (X.extract 0 n).data.toList).length cp9).ownBlock ≠ some w.heap.size := fun e => by have := (hr9.lt _ e).1; omega
                      go_wp2_with fail
                      go_roundw
                      case rel => exact ⟨(X.extract n X.size), (o ++ (X.extract 0 n).data.toList), D.next HE.out (X.extract n X.size) (o ++ (X.extract 0 n).data.toList) _ _ ST.out (hS9.set (X.extract n X.size)) (set_rowU hr9 (a := ⟨w.heap.size, 0, none⟩) ne9 _) (hk9.setCell (.inr (Nat.le_refl _)) _)⟩
                      case measure =>
                        have h1 := mea _ _ _ ((hS9.set (X.extract n X.size)) : IsStr _ w.heap.size (X.extract n X.size))
                        have h2 := step_less HE.out (X.extract n X.size) (o ++ (X.extract 0 n).data.toList) ST.out
                        rw [h1, hmea.out]
                        exact h2
            · have Q4 := hide q4
              clear q4
              have hpl : 4 ≤ X.size := by have := pre_len Q4.out; rw [len_size] at this; exact this
              have ey : (X.extract 3 X.size).data.toList = X.data.toList.drop 3 := Lib.extract_to_end X 3
              have ST : Hid (dotStep X.data.toList o = ((X.extract 3 X.size).data.toList, (cutLast o))) := by
                unfold dotStep
                rw [if_neg (by rw [Q1.out]; simp), if_neg (by rw [Q2.out]; simp), if_neg (by rw [Q3.out]; simp), if_pos Q4.out, ← ey]
                exact rfl
              clear ey
              go_wp2_with fail
              refine (begins31 _ X ⟨#[46, 46, 47]⟩ _ D.str false Q1.out).mono ?_
              rintro e w_1 ⟨rfl, rfl⟩
              go_wp2_with fail
              refine (begins31 _ X ⟨#[46, 47]⟩ _ D.str false Q2.out).mono ?_
              rintro e w_2 ⟨rfl, rfl⟩
              go_wp2_with fail
              refine (begins31 _ X ⟨#[47, 46, 47]⟩ _ D.str false Q3.out).mono ?_
              rintro e w_3 ⟨rfl, rfl⟩
              go_wp2_with fail
              refine (begins31 _ X ⟨#[47, 46, 46, 47]⟩ _ D.str true Q4.out).mono ?_
              rintro e w_4 ⟨rfl, rfl⟩
              go_wp2_with fail
              refine (withoutLast_any _ (w.heap.size + 1) o _ (set_rowU D.row (a := ⟨w.heap.size, 0, none⟩) D.ne (.string (X.extract 3 X.size))) (by omega)).mono ?_
              rintro e w_9 ⟨⟨v9, rfl, hr9, hb9⟩, rfl⟩
              obtain ⟨o9, c9, rfl⟩ := row_form hr9
              go_wp2_with fail
              go_roundw
              case rel => exact ⟨(X.extract 3 X.size), (cutLast o), D.next HE.out (X.extract 3 X.size) (cutLast o) _ _ ST.out (D.str.set (X.extract 3 X.size)) hr9 (D.keeps.setCell (.inr (Nat.le_refl _)) _)⟩
              case measure =>
                have h1 := mea _ _ _ ((D.str.set (X.extract 3 X.size)) : IsStr _ w.heap.size (X.extract 3 X.size))
                have h2 := step_less HE.out (X.extract 3 X.size) (cutLast o) ST.out
                rw [h1, hmea.out]
                exact h2
          · have Q3 := hide q3
            clear q3
            have hpl : 3 ≤ X.size := by have := pre_len Q3.out; rw [len_size] at this; exact this
            have ey : (X.extract 2 X.size).data.toList = X.data.toList.drop 2 := Lib.extract_to_end X 2
            have ST : Hid (dotStep X.data.toList o = ((X.extract 2 X.size).data.toList, o)) := by
              unfold dotStep
              rw [if_neg (by rw [Q1.out]; simp), if_neg (by rw [Q2.out]; simp), if_pos Q3.out, ← ey]
              exact rfl
            clear ey
            go_wp2_with fail
            refine (begins31 _ X ⟨#[46, 46, 47]⟩ _ D.str false Q1.out).mono ?_
            rintro e w_1 ⟨rfl, rfl⟩
            go_wp2_with fail
            refine (begins31 _ X ⟨#[46, 47]⟩ _ D.str false Q2.out).mono ?_
            rintro e w_2 ⟨rfl, rfl⟩
            go_wp2_with fail
            refine (begins31 _ X ⟨#[47, 46, 47]⟩ _ D.str true Q3.out).mono ?_
            rintro e w_3 ⟨rfl, rfl⟩
            go_wp2_with fail
            go_roundw
            case rel => exact ⟨(X.extract 2 X.size), o, D.next HE.out (X.extract 2 X.size) o _ _ ST.out (D.str.set (X.extract 2 X.size)) (set_rowU D.row (a := ⟨w.heap.size, 0, none⟩) D.ne _) (D.keeps.setCell (.inr (Nat.le_refl _)) _)⟩
            case measure =>
              have h1 := mea _ _ _ ((D.str.set (X.extract 2 X.size)) : IsStr _ w.heap.size (X.extract 2 X.size))
              have h2 := step_less HE.out (X.extract 2 X.size) o ST.out
              rw [h1, hmea.out]
              exact h2
        · have Q2 := hide q2
          clear q2
          have hpl : 2 ≤ X.size := by have := pre_len Q2.out; rw [len_size] at this; exact this
          have ey : (X.extract 2 X.size).data.toList = X.data.toList.drop 2 := Lib.extract_to_end X 2
          have ST : Hid (dotStep X.data.toList o = ((X.extract 2 X.size).data.toList, o)) := by
            unfold dotStep
            rw [if_neg (by rw [Q1.out]; simp), if_pos Q2.out, ← ey]
            exact rfl
          clear ey
          go_wp2_with fail
          refine (begins31 _ X ⟨#[46, 46, 47]⟩ _ D.str false Q1.out).mono ?_
          rintro e w_1 ⟨rfl, rfl⟩
          go_wp2_with fail
          refine (begins31 _ X ⟨#[46, 47]⟩ _ D.str true Q2.out).mono ?_
          rintro e w_2 ⟨rfl, rfl⟩
          go_wp2_with fail
          go_roundw
          case rel => exact ⟨(X.extract 2 X.size), o, D.next HE.out (X.extract 2 X.size) o _ _ ST.out (D.str.set (X.extract 2 X.size)) (set_rowU D.row (a := ⟨w.heap.size, 0, none⟩) D.ne _) (D.keeps.setCell (.inr (Nat.le_refl _)) _)⟩
          case measure =>
            have h1 := mea _ _ _ ((D.str.set (X.extract 2 X.size)) : IsStr _ w.heap.size (X.extract 2 X.size))
            have h2 := step_less HE.out (X.extract 2 X.size) o ST.out
            rw [h1, hmea.out]
            exact h2
      · have Q1 := hide q1
        clear q1
        have hpl : 3 ≤ X.size := by have := pre_len Q1.out; rw [len_size] at this; exact this
        have ey : (X.extract 3 X.size).data.toList = X.data.toList.drop 3 := Lib.extract_to_end X 3
        have ST : Hid (dotStep X.data.toList o = ((X.extract 3 X.size).data.toList, o)) := by
          unfold dotStep
          rw [if_pos Q1.out, ← ey]
          exact rfl
        clear ey
        go_wp2_with fail
        refine (begins31 _ X ⟨#[46, 46, 47]⟩ _ D.str true Q1.out).mono ?_
        rintro e w_1 ⟨rfl, rfl⟩
        go_wp2_with fail
        go_roundw
        case rel => exact ⟨(X.extract 3 X.size), o, D.next HE.out (X.extract 3 X.size) o _ _ ST.out (D.str.set (X.extract 3 X.size)) (set_rowU D.row (a := ⟨w.heap.size, 0, none⟩) D.ne _) (D.keeps.setCell (.inr (Nat.le_refl _)) _)⟩
        case measure =>
          have h1 := mea _ _ _ ((D.str.set (X.extract 3 X.size)) : IsStr _ w.heap.size (X.extract 3 X.size))
          have h2 := step_less HE.out (X.extract 3 X.size) o ST.out
          rw [h1, hmea.out]
          exact h2

set_option maxHeartbeats 400000 in
theorem dots_any (s : ByteArray) (w : World) (hs : s.size ≤ 3000) :
    Calls Tryz.prog 73 #[.string s] w fun e w' => e = .returned (.tuple #[.string ⟨(dotsL s.data.toList).toArray⟩, .int .i64 0]) ∧ Keeps [] w w' := by
  have hgt : decide ((3000 : Int) < (s.size : Int)) = false := by simp; omega
  have hd := hide (withoutDots_any s w (by omega))
  generalize dotsL s.data.toList = R at *
  go_enter Tryz.func73, Tryz.ntmps73
  go_wp2_with fail
  refine hd.out.mono ?_
  rintro e w1 ⟨rfl, hk1⟩
  go_wp2_with fail
  go_ret2
  exact ⟨rfl, hk1⟩
end Go.Proofs.YtlcljanibjdejaaGreat

namespace Go.Proofs.YtlcljanibjdejaaGreat
open Go.RowKit

theorem last_at (s : ByteArray) : LastAt s.data.toList (Lib.lastIndexByte s 47) := by
  have hget : ∀ j (hj : j < s.size), s.data[j]! = s.data.toList[j]'(by rw [len_size]; exact hj) := fun j hj => by
    rw [getElem!_pos s.data j (by simpa using hj)]; rfl
  have h47 : ∀ c : UInt8, ((c.toNat : Int) = 47) ↔ c = 47 := all_bytes (by decide +kernel)
  rcases Lib.lastIndexByte_spec s 47 with ⟨e, hn⟩ | ⟨i, hi, e, hc, hn⟩
  · refine .inl ⟨e, fun d hd => ?_⟩
    obtain ⟨j, hj, rfl⟩ := List.getElem_of_mem hd
    have hj' : j < s.size := by rw [← len_size]; exact hj
    have := hn j hj'
    rw [hget j hj'] at this
    exact fun h => this ((h47 _).2 h)
  · refine .inr ⟨i, e, by rw [len_size]; exact hi, ?_, fun j hj hij => ?_⟩
    · rw [hget i hi] at hc
      exact (h47 _).1 hc
    · have hj' : j < s.size := by rw [← len_size]; exact hj
      have := hn j hij hj'
      rw [hget j hj'] at this
      exact fun h => this ((h47 _).2 h)

set_option maxRecDepth 4000 in
set_option maxHeartbeats 2000000 in
theorem merged_any (b : UrlT) (X : ByteArray) (w : World) (hb : b.path.length ≤ 3000) (hX : X.size ≤ 3000) :
    Calls Tryz.prog 223 #[urlV b, .string X] w fun e w' => e = .returned (.string ⟨(mergedL b X.data.toList).toArray⟩) ∧ Keeps [] w w' := by
  have hka : Keeps [] w _ := (Keeps.refl [] w).alloc (.cells #[.string ⟨b.scheme.toArray⟩, .string ⟨b.authority.toArray⟩, .string ⟨b.path.toArray⟩, .string ⟨b.query.toArray⟩, .string ⟨b.fragment.toArray⟩, .bool b.hs, .bool b.ha, .bool b.hq, .bool b.hf] 99)
  have hXe : (⟨X.data.toList.toArray⟩ : ByteArray) = X := by apply WideShapes.bytes_inj; rfl
  unfold urlV urlCells mergedL
  by_cases h1 : X.data.toList = []
  · rw [if_pos h1]
    have hem : X.toList.isEmpty = true := by rw [empty_iff]; simpa using h1
    clear h1 hXe
    go_enter Tryz.func223, Tryz.ntmps223
    go_wp2_with fail
    go_ret
    exact ⟨by simp, hka⟩
  rw [if_neg h1]
  have hem : X.toList.isEmpty = false := by rw [empty_iff]; simpa using h1
  have hp0 : 0 < X.size := by rw [← len_size]; exact List.length_pos_iff.2 h1
  have hh : X.data.toList.head? = some X[0] := by
    rw [List.head?_eq_getElem?, List.getElem?_eq_getElem (by rw [len_size]; exact hp0)]
    rfl
  rw [hh]
  by_cases h2 : X[0] = 47
  · rw [if_pos (by rw [h2])]
    have hq : ((X[0].toNat : Int) == 47) = true := by rw [h2]; rfl
    rw [hXe]
    clear h1 h2 hh hXe
    go_enter Tryz.func223, Tryz.ntmps223
    go_wp2_with fail
    go_ret
    exact ⟨by simp, hka⟩
  rw [if_neg (by simpa using h2)]
  have hq : ((X[0].toNat : Int) == 47) = false := by
    rw [← (beq_at rfl : (X[0] == 47) = ((X[0].toNat : Int) == 47))]; simpa using h2
  by_cases h3 : b.ha = true ∧ b.path = []
  · rw [if_pos h3]
    obtain ⟨h3a, h3b⟩ := h3
    rw [h3a, h3b]
    clear h1 h2 hh h3a h3b
    have hcat : (⟨#[47]⟩ ++ X : ByteArray) = ⟨(47 :: X.data.toList).toArray⟩ := by apply WideShapes.bytes_inj; simp
    have HC := hide hcat
    clear hcat
    go_enter Tryz.func223, Tryz.ntmps223
    go_wp2_with fail
    go_ret
    exact ⟨by rw [← HC.out]; simp, (Keeps.refl [] w).alloc _⟩
  · rw [if_neg h3]
    obtain ⟨e1, e2, e3⟩ := (last_at ⟨b.path.toArray⟩).up
    rw [str_list] at e1 e3
    have hlb := hide (fun w => Tryz.strings_LastIndexByte ⟨b.path.toArray⟩ 47 (by rw [str_size]; omega) w)
    obtain ⟨m, hm⟩ : ∃ m : Nat, Lib.lastIndexByte ⟨b.path.toArray⟩ 47 + 1 = m := ⟨(Lib.lastIndexByte ⟨b.path.toArray⟩ 47 + 1).toNat, by omega⟩
    rw [hm] at e1
    simp only [Int.toNat_natCast] at e1
    generalize Lib.lastIndexByte ⟨b.path.toArray⟩ 47 = i at *
    have hml : m ≤ b.path.length := by omega
    have hcat : ((⟨b.path.toArray⟩ : ByteArray).extract 0 m ++ X : ByteArray) = ⟨(upSl b.path ++ X.data.toList).toArray⟩ := by
      apply WideShapes.bytes_inj
      show ((⟨b.path.toArray⟩ : ByteArray).extract 0 m ++ X).data.toList = _
      rw [e1, ByteArray.data_append, Array.toList_append, Lib.extract_data]
      simp
    have HC := hide hcat
    have hsz : ((⟨b.path.toArray⟩ : ByteArray)).size = b.path.length := rfl
    have ha3 : b.ha = false ∨ (b.ha = true ∧ (b.path.isEmpty = false)) := by
      cases hx : b.ha
      · exact .inl rfl
      · right
        refine ⟨rfl, ?_⟩
        simpa using fun hpp => h3 ⟨hx, hpp⟩
    clear hcat e1 h1 h2 h3 hh hXe
    rcases ha3 with ha3 | ⟨ha3, hpe⟩
    · rw [ha3]
      go_enter Tryz.func223, Tryz.ntmps223
      go_wp2_with fail
      go_quiet ((go_at_call 290; exact Calls.quiet_of_same (hlb.out _)))
      go_wp2_with fail
      go_ret
      exact ⟨by rw [← HC.out]; simp, ((Keeps.refl [] w).alloc _).drewN _⟩
    · rw [ha3]
      go_enter Tryz.func223, Tryz.ntmps223
      go_wp2_with fail
      go_quiet ((go_at_call 290; exact Calls.quiet_of_same (hlb.out _)))
      go_wp2_with fail
      go_ret
      exact ⟨by rw [← HC.out]; simp, ((Keeps.refl [] w).alloc _).drewN _⟩
end Go.Proofs.YtlcljanibjdejaaGreat
