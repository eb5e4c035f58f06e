/- The document's answer for dates: MailOf. -/
import Derived.Test.YtngojdajamgabadDoorDRefD
import Derived.Deep.CutBlock
import Derived.Deep.DeepCutAuto
namespace Go.Proofs.YtngojdajamgabadDoor
open Go.RowKit

theorem Dr.keeps {w w' : World} (h : Dr w w') : Keeps [] w w' := by
  obtain ⟨k, rfl⟩ := h
  exact (Keeps.refl _ _).drewN _
/-- Which of the first names it is, the last one that fits; 0: none. -/
def monU (p : List UInt8) : Nat → Nat
  | 0 => 0
  | k + 1 => if nameL (k + 1) = p then k + 1 else monU p k
theorem mon_same (p : List UInt8) : monU p 12 = monG p 12 := by
  by_cases h : ∃ k, k < 12 ∧ nameL (k + 1) = p
  · obtain ⟨k, hk, rfl⟩ := h
    obtain rfl | rfl | rfl | rfl | rfl | rfl | rfl | rfl | rfl | rfl | rfl | rfl : k = 0 ∨ k = 1 ∨ k = 2 ∨ k = 3 ∨ k = 4 ∨ k = 5 ∨ k = 6 ∨ k = 7 ∨ k = 8 ∨ k = 9 ∨ k = 10 ∨ k = 11 := by omega
    all_goals decide
  · have h1 : ∀ k, k ≤ 12 → monU p k = 0 := fun k => by
      induction k with
      | zero => intro _; rfl
      | succ k ih => intro hk; rw [monU, if_neg (fun he => h ⟨k, by omega, he⟩), ih (by omega)]
    have h2 : ∀ k, k ≤ 12 → monG p k = 0 := fun k => by
      induction k with
      | zero => intro _; rfl
      | succ k ih =>
        intro hk
        rw [monG, if_neg (fun he => h ⟨11 - k, by omega, by rw [he]; unfold nameL; rw [show 11 - k + 1 - 1 = 11 - k from by omega]⟩), ih (by omega)]
    rw [h1 12 (by omega), h2 12 (by omega)]

def namesO : Obj := .cells #[.string ⟨#[74, 97, 110]⟩, .string ⟨#[70, 101, 98]⟩, .string ⟨#[77, 97, 114]⟩, .string ⟨#[65, 112, 114]⟩, .string ⟨#[77, 97, 121]⟩, .string ⟨#[74, 117, 110]⟩, .string ⟨#[74, 117, 108]⟩, .string ⟨#[65, 117, 103]⟩, .string ⟨#[83, 101, 112]⟩, .string ⟨#[79, 99, 116]⟩, .string ⟨#[78, 111, 118]⟩, .string ⟨#[68, 101, 99]⟩] 9
theorem names_cell (W : World) (k : Nat) (hk : k < 12) : (W.alloc namesO).cell? ⟨W.heap.size, k, none⟩ = some (.string ⟨(nameL (k + 1)).toArray⟩) := by
  unfold namesO
  rw [Lib.cell_of_heap (heap_alloc_new W _)]
  obtain rfl | rfl | rfl | rfl | rfl | rfl | rfl | rfl | rfl | rfl | rfl | rfl : k = 0 ∨ k = 1 ∨ k = 2 ∨ k = 3 ∨ k = 4 ∨ k = 5 ∨ k = 6 ∨ k = 7 ∨ k = 8 ∨ k = 9 ∨ k = 10 ∨ k = 11 := by omega
  all_goals rfl

theorem mail_pieces (l : List UInt8) (j : Nat) (h : formL (piece l j 19) FM = true) : formL (piece l (j + 5) 4) [100, 100, 100, 100] = true ∧ formL (piece l (j + 10) 2) [100, 100] = true ∧ formL (piece l (j + 13) 2) [100, 100] = true ∧ formL (piece l (j + 16) 2) [100, 100] = true := by
  have s1 := form_split l j [32] [97, 97, 97, 32, 100, 100, 100, 100, 32, 100, 100, 58, 100, 100, 58, 100, 100, 32] 1 18 rfl
  have s2 := form_split l (j + 1) [97, 97, 97] [32, 100, 100, 100, 100, 32, 100, 100, 58, 100, 100, 58, 100, 100, 32] 3 15 rfl
  have s3 := form_split l (j + 4) [32] [100, 100, 100, 100, 32, 100, 100, 58, 100, 100, 58, 100, 100, 32] 1 14 rfl
  have s4 := form_split l (j + 5) [100, 100, 100, 100] [32, 100, 100, 58, 100, 100, 58, 100, 100, 32] 4 10 rfl
  have s5 := form_split l (j + 9) [32] [100, 100, 58, 100, 100, 58, 100, 100, 32] 1 9 rfl
  have s6 := form_split l (j + 10) [100, 100] [58, 100, 100, 58, 100, 100, 32] 2 7 rfl
  have s7 := form_split l (j + 12) [58] [100, 100, 58, 100, 100, 32] 1 6 rfl
  have s8 := form_split l (j + 13) [100, 100] [58, 100, 100, 32] 2 4 rfl
  have s9 := form_split l (j + 15) [58] [100, 100, 32] 1 3 rfl
  have s10 := form_split l (j + 16) [100, 100] [32] 2 1 rfl
  simp only [List.cons_append, List.nil_append, Nat.reduceAdd, Nat.add_assoc] at s1 s2 s3 s4 s5 s6 s7 s8 s9 s10
  unfold FM at h
  rw [s1, s2, s3, s4, s5, s6, s7, s8, s9, s10] at h
  simp only [Bool.and_eq_true] at h
  exact ⟨h.2.2.2.1, h.2.2.2.2.2.1, h.2.2.2.2.2.2.2.1, h.2.2.2.2.2.2.2.2.2.1⟩

set_option maxRecDepth 8000 in
set_option maxHeartbeats 8000000 in
theorem MailOf_any (s : ByteArray) (w : World) (hsz : s.size ≤ 140737488351232) :
    Calls Tryd.prog 8 #[.string s] w fun e w' => e = ansP (refMail s.data.toList) ∧ Keeps [] w w' := by
  obtain ⟨A, hA⟩ : ∃ A, refMail s.data.toList = A := ⟨_, rfl⟩
  rw [hA]
  have L1 := len_size s
  unfold refMail at hA
  unfold ansP
  have hf5 := hide (fun w => form_any (s.extract 0 5) ⟨#[97, 97, 97, 44, 32]⟩ w (by decide))
  have e5 : (s.extract 0 5).data.toList = s.data.toList.take 5 := by rw [ext_piece]; simp [piece]
  rw [e5, show (⟨#[97, 97, 97, 44, 32]⟩ : ByteArray).data.toList = [97, 97, 97, 44, 32] from rfl] at hf5
  obtain ⟨B, hB⟩ : ∃ B, preB s.data.toList = B := ⟨_, rfl⟩
  rw [hB] at hA
  have hB5 : B = true → 5 < s.size := fun h => by
    rw [h] at hB
    unfold preB at hB
    rw [Bool.and_eq_true, decide_eq_true_eq, L1] at hB
    exact hB.1
  have HB := hide hB
  have HB5 := hide hB5
  have HA := hide hA
  clear hA hB hB5 e5
  unfold preB at HB
  rw [L1] at HB
  go_enter Tryd.func8, Tryd.ntmps8
  go_upto_region 1 with fail
  go_cut [18] from 11 to 17 (fun v wc => v = .bool B ∧ Dr w wc)
  case first =>
    by_cases h5 : 5 < s.size
    · have hBf : formL (s.data.toList.take 5) [97, 97, 97, 44, 32] = B := by have := HB.out; rw [decide_eq_true h5, Bool.true_and] at this; exact this
      rw [hBf] at hf5
      clear hBf HB HB5 HA
      go_wp2_with fail
      refine (hf5.out _).mono ?_
      rintro e w1 ⟨rfl, hk1⟩
      go_wp2_with fail
      go_meet
      exact ⟨by simp, hk1⟩
    · have hBf : false = B := by have := HB.out; rw [decide_eq_false h5, Bool.false_and] at this; exact this
      subst hBf
      clear HB HB5 HA
      go_wp2_with fail
      go_meet
      exact ⟨rfl, ⟨0, rfl⟩⟩
  case rest =>
    obtain ⟨rfl, hdc⟩ := hcut
    have hT : ∃ (T : ByteArray) (k : Nat), T = (if B = true then s.extract 5 s.size else s) ∧ k = (if B = true then 5 else 0) := ⟨_, _, rfl, rfl⟩
    obtain ⟨T, k, hTT, hkk⟩ := hT
    have hTd : T.data.toList = s.data.toList.drop k := by
      rw [hTT, hkk]
      cases B
      · simp
      · exact Lib.extract_to_end s 5
    have hTs : T.size = s.size - k := by rw [← len_size, hTd, List.length_drop, L1]
    have hks : k ≤ s.size := by
      rw [hkk]
      cases B
      · simp
      · have := HB5.out rfl; simp; omega
    have HTT := hide hTT
    have HKK := hide hkk
    clear hTT hkk
    go_upto_if 18 with fail
    go_cut [0] from 19 to 20 (fun v wx => v = .string T ∧ Dr w wx)
    case first =>
      cases B
      · have hTe := hide (show T = s from HTT.out)
        clear hTd hTs hks HTT HKK HA HB hf5
        go_wp2_with fail
        go_meet
        exact ⟨by rw [hTe.out], hdc⟩
      · have hTe := hide (show T = s.extract 5 s.size from HTT.out)
        have h5 := HB5.out rfl
        clear hTd hTs hks HTT HKK HA HB hf5
        go_wp2_with fail
        go_meet
        exact ⟨by rw [hTe.out], hdc⟩
    case rest =>
      obtain ⟨rfl, hdx⟩ := hcut
      have HA2 : Hid (refMailAt s.data.toList k = A) := by rw [Hid, HKK.out]; exact HA.out
      have HTd := hide hTd
      have hT9 : T.size ≤ 140737488351232 := by omega
      have TS := hide hTs
      clear HA HKK HTT HB HB5 hf5 hdc hTd hTs
      unfold refMailAt at HA2
      rcases (show (1 < T.size ∧ s.data.toList.getD (k + 1) 0 = 32) ∨ ¬ (1 < T.size ∧ s.data.toList.getD (k + 1) 0 = 32) from Decidable.em _) with ⟨hd1, hd2⟩ | hd
      · have hdd : (decide (k + 1 < s.data.toList.length) && (s.data.toList.getD (k + 1) 0 == 32)) = true := by
          have := TS.out
          rw [hd2, decide_eq_true (by omega)]
          rfl
        rw [hdd] at HA2
        simp only [if_true] at HA2
        have e1 : T[1] = 32 := by
          have : T[1] = T.data.toList.getD 1 0 := by
            rw [List.getD_eq_getElem?_getD, List.getElem?_eq_getElem (by rw [len_size]; exact hd1)]
            simp [ByteArray.getElem_eq_getElem_data]
          rw [this, HTd.out, ← hd2]
          simp [List.getD_eq_getElem?_getD, List.getElem?_drop]
        have t32 : ((T[1].toNat : Int) == 32) = true := by rw [e1]; rfl
        clear e1 hd2 hdd
        go_upto_region 6 with fail
        --REST1
        have wr19 : IntKind.i64.wrap 20 = 20 := wrap_in _ (by omega) (by omega)
        have wr1 : IntKind.i64.wrap 2 = 2 := wrap_in _ (by omega) (by omega)
        have wr4 : IntKind.i64.wrap 5 = 5 := wrap_in _ (by omega) (by omega)
        have wr5 : IntKind.i64.wrap 6 = 6 := wrap_in _ (by omega) (by omega)
        have wr9 : IntKind.i64.wrap 10 = 10 := wrap_in _ (by omega) (by omega)
        have wr10 : IntKind.i64.wrap 11 = 11 := wrap_in _ (by omega) (by omega)
        have wr18 : IntKind.i64.wrap 19 = 19 := wrap_in _ (by omega) (by omega)
        have xd : (⟨#[100, 100]⟩ : ByteArray).extract 0 1 = ⟨#[100]⟩ := by apply ByteArray.ext; rw [ByteArray.data_extract]; rfl
        have HA3 : Hid ((if formL (piece s.data.toList k 20) ([100] ++ FM) = false then ((0 : Int), (1 : Int)) else if monG (piece s.data.toList (k + 1 + 1) 3) 12 = 0 then (0, 1) else refZone s.data.toList (nmL (piece s.data.toList (k + 1 + 5) 4)) (monG (piece s.data.toList (k + 1 + 1) 3) 12) (nmL (piece s.data.toList k 1)) (nmL (piece s.data.toList (k + 1 + 10) 2)) (nmL (piece s.data.toList (k + 1 + 13) 2)) (nmL (piece s.data.toList (k + 1 + 16) 2)) (k + 1 + 19)) = A) := HA2
        clear HA2
        rcases Nat.lt_or_ge T.size 20 with hlen | hlen
        · have hAe : ((0 : Int), (1 : Int)) = A := by
            have h2 := HA3.out
            rw [if_pos (formL_ne _ _ (by
              unfold piece
              rw [List.length_take, List.length_drop, L1]
              have := TS.out
              simp [FM]
              omega))] at h2
            exact h2
          have HAe := hide hAe
          have l21 : decide ((T.size : Int) < 20) = true := decide_eq_true (by omega)
          clear HA3 hAe
          go_quiet (fail)
          go_wp2_with fail
          go_ret2
          exact ⟨by rw [← HAe.out]; rfl, (hdx.keeps).drewN _⟩
        · have l21 : decide ((T.size : Int) < 20) = false := decide_eq_false (by omega)
          have hf := hide (fun w => form_any (T.extract 0 20) (⟨#[100]⟩ ++ ⟨#[32, 97, 97, 97, 32, 100, 100, 100, 100, 32, 100, 100, 58, 100, 100, 58, 100, 100, 32]⟩) w (by decide))
          have tp : ∀ a n, piece T.data.toList a n = piece s.data.toList (k + a) n := fun a n => by rw [HTd.out, piece_drop]
          have e1 : (T.extract 0 20).data.toList = piece s.data.toList k 20 := by rw [ext_piece, tp]; rfl
          have e2 : (⟨#[100]⟩ ++ ⟨#[32, 97, 97, 97, 32, 100, 100, 100, 100, 32, 100, 100, 58, 100, 100, 58, 100, 100, 32]⟩ : ByteArray).data.toList = [100] ++ FM := rfl
          rw [e1, e2] at hf
          clear e1 e2
          cases hfv : formL (piece s.data.toList k 20) ([100] ++ FM)
          · rw [hfv] at hf
            have hA4 := HA3.out
            rw [hfv, if_pos rfl] at hA4
            have HAe := hide hA4
            clear HA3 hA4 hfv
            go_quiet ((go_at_call 18; exact Calls.quiet_of (hf.out _)))
            go_wp2_with fail
            go_ret2
            exact ⟨by rw [← HAe.out]; rfl, (hdx.keeps).drewN _⟩
          · rw [hfv] at hf
            have hA4 := HA3.out
            rw [hfv, if_neg (show ¬ (true = false) from by simp)] at hA4
            clear HA3
            have sp := form_split s.data.toList k [100] FM 1 19 rfl
            simp only [Nat.reduceAdd] at sp
            rw [sp, Bool.and_eq_true] at hfv
            obtain ⟨pD, pF⟩ := hfv
            obtain ⟨p1, p4, p5, p6⟩ := mail_pieces _ _ pF
            clear sp pF
            have noT : ∀ a b n, b - a = n → n ≤ 4 → formL (piece s.data.toList (k + a) n) (List.replicate n 100) = true → IsNo (T.extract a b) (nmL (piece s.data.toList (k + a) n)) := fun a b n h1 h2 h3 => by
              have := no_piece T a b n h1 h2 (by rw [tp]; exact h3)
              rw [tp] at this
              exact this
            have N1 := hide (fun w => noT 6 10 4 rfl (by omega) p1 w)
            have N2 := hide (fun w => noT 0 1 1 rfl (by omega) pD w)
            have b1 := nm_four _ _ p1
            have b3 : nmL (piece s.data.toList k 1) ≤ 99 := by
              have h1 := nmL_lt (piece s.data.toList k 1) (form_digits _ 1 pD)
              have h2 := formL_len _ _ pD
              rw [h2] at h1
              simp at h1
              omega
            have b4 := nm_two _ _ p4
            have b5 := nm_two _ _ p5
            have b6 := nm_two _ _ p6
            have hC : (T.extract 11 19).size = 8 := by simp; omega
            have cd := ext_piece T 11 19
            have cp : ∀ a, a + 2 ≤ 8 → piece (T.extract 11 19).data.toList a 2 = piece s.data.toList (k + 1 + 10 + a) 2 := fun a ha => by
              rw [cd]
              have e : ∀ (q : List UInt8) x, piece (piece q x 8) a 2 = piece q (x + a) 2 := fun q x => by
                unfold piece
                rw [List.drop_take, List.take_take, List.drop_drop, Nat.min_eq_left (by omega)]
              rw [e, tp, show k + (11 + a) = k + 1 + 10 + a from by omega]
            have c1 := no_piece (T.extract 11 19) 0 2 2 rfl (by omega) (by rw [cp 0 (by omega)]; exact p4)
            have c2 := no_piece (T.extract 11 19) 3 5 2 rfl (by omega) (by rw [cp 3 (by omega)]; exact p5)
            have c3 := no_piece (T.extract 11 19) 6 8 2 rfl (by omega) (by rw [cp 6 (by omega)]; exact p6)
            rw [cp 0 (by omega)] at c1
            rw [cp 3 (by omega)] at c2
            rw [cp 6 (by omega)] at c3
            have hEl : (T.extract 2 5).toList = piece s.data.toList (k + 1 + 1) 3 := by rw [ByteArray.toList_eq, ext_piece, tp]
            rw [← mon_same] at hA4
            obtain ⟨P, hP⟩ : ∃ P, piece s.data.toList (k + 1 + 1) 3 = P := ⟨_, rfl⟩
            rw [hP] at hA4 hEl
            clear hP cp cd p1 p4 p5 p6 pD
            generalize hEE : T.extract 2 5 = E at *
            have HE := hide hEl
            clear hEl
            have hmb : ∀ u, u ≤ 12 → monU P u ≤ 12 := fun u => by
              induction u with
              | zero => intro _; simp [monU]
              | succ u ih =>
                intro hu
                rw [monU]
                have := ih (by omega)
                split <;> omega
            have HMB := hide hmb
            have HA6 := hide hA4
            clear hmb hA4
            go_quiet ((go_at_call 18; exact Calls.quiet_of (hf.out _)))
            generalize hWW : World.drewN wc nq = W at *
            have hkW : Keeps [] w W := by rw [← hWW]; exact (hdx.keeps).drewN _
            clear hWW hf
            go_wp2_with fail
            go_loopw [5, 7] (fun v i wr => ∃ u : Nat, u ≤ 12 ∧ i = .int .i64 u ∧ v = .int .i64 (monU P u : Nat) ∧ Hid (Dr (W.alloc namesO) wr)) (fun _ i _ => 12 - (intOf i).toNat)
            case atStart => exact ⟨0, by omega, rfl, rfl, ⟨0, rfl⟩⟩
            case round =>
              obtain ⟨u, hu, rfl, rfl, hDr⟩ := hrel
              have hcell : u < 12 → wr.cell? ⟨W.heap.size, u, none⟩ = some (.string ⟨(nameL (u + 1)).toArray⟩) := fun h => by
                obtain ⟨q, hq⟩ := hDr.out
                rw [hq]
                exact names_cell W u h
              have hmu := HMB.out u hu
              by_cases hlt : u < 12
              · have c0 := hcell hlt
                have hmn : Hid (monU P (u + 1) = if nameL (u + 1) = P then u + 1 else monU P u) := rfl
                have hnl : (⟨(nameL (u + 1)).toArray⟩ : ByteArray).toList = nameL (u + 1) := by rw [ByteArray.toList_eq]
                by_cases hn : nameL (u + 1) = P
                · have te : ((⟨(nameL (u + 1)).toArray⟩ : ByteArray).toList == E.toList) = true := by rw [hnl, HE.out, hn]; simp
                  have hm2 := hide (hmn.out.trans (if_pos hn))
                  clear hmn hnl hcell HA6 HMB HE hn
                  generalize (⟨(nameL (u + 1)).toArray⟩ : ByteArray) = NS at *
                  generalize monU P u = mu at *
                  go_wp2_with fail
                  go_quiet (fail)
                  go_wp2_with fail
                  go_roundw
                  case rel => exact ⟨u + 1, by omega, by go_num, by rw [hm2.out]; go_num, Dr.trans hDr.out ⟨_, rfl⟩⟩
                  case measure => simp [intOf]; omega
                · have te : ((⟨(nameL (u + 1)).toArray⟩ : ByteArray).toList == E.toList) = false := by rw [hnl, HE.out]; simpa using hn
                  have hm2 := hide (hmn.out.trans (if_neg hn))
                  clear hmn hnl hcell HA6 HMB HE hn
                  generalize (⟨(nameL (u + 1)).toArray⟩ : ByteArray) = NS at *
                  go_wp2_with fail
                  go_quiet (fail)
                  go_wp2_with fail
                  go_roundw
                  case rel => exact ⟨u + 1, by omega, by go_num, by rw [hm2.out], Dr.trans hDr.out ⟨_, rfl⟩⟩
                  case measure => simp [intOf]; omega
              · obtain rfl : u = 12 := by omega
                have hk9 : Keeps [] w wr := (hkW.alloc namesO).trans (hDr.out).keeps
                have hA5 := HA6.out
                clear hcell hDr HA6 HMB HE hEE hlt hu
                generalize monU P 12 = M at *
                have TT := hide (fun zone w hz1 hz2 => timeOf_any (nmL (piece s.data.toList (k + 1 + 5) 4)) M (nmL (piece s.data.toList k 1)) (nmL (piece s.data.toList (k + 1 + 10) 2)) (nmL (piece s.data.toList (k + 1 + 13) 2)) (nmL (piece s.data.toList (k + 1 + 16) 2)) (T.extract 11 19) zone w hC b1 (by omega) b3 b4 b5 b6 hz1 hz2 c1 c2 c3)
                unfold refZone at hA5
                have zd0 : (T.extract 20 T.size).data.toList = s.data.toList.drop (k + 1 + 19) := by rw [Lib.extract_to_end, HTd.out, List.drop_drop]
                have zs0 : (T.extract 20 T.size).size = T.size - 20 := by simp
                have hfp := hide (fun w => form_any (T.extract 20 T.size) ⟨#[43, 100, 100, 100, 100]⟩ w (by decide))
                have hfm := hide (fun w => form_any (T.extract 20 T.size) ⟨#[45, 100, 100, 100, 100]⟩ w (by decide))
                rw [zd0, show (⟨#[43, 100, 100, 100, 100]⟩ : ByteArray).data.toList = [43, 100, 100, 100, 100] from rfl] at hfp
                rw [zd0, show (⟨#[45, 100, 100, 100, 100]⟩ : ByteArray).data.toList = [45, 100, 100, 100, 100] from rfl] at hfm
                have hz9 : (T.extract 20 T.size).toList = s.data.toList.drop (k + 1 + 19) := by rw [ByteArray.toList_eq]; exact zd0
                have nz0 : ∀ a q, k + 1 + 19 + a = q → formL (piece s.data.toList q 2) [100, 100] = true → IsNo ((T.extract 20 T.size).extract a (a + 2)) (nmL (piece s.data.toList q 2)) := fun a q hq h => by
                  have e : piece (T.extract 20 T.size).data.toList a 2 = piece s.data.toList q 2 := by rw [zd0, piece_drop, hq]
                  have := no_piece (T.extract 20 T.size) a (a + 2) 2 (by omega) (by omega) (by rw [e]; exact h)
                  rw [e] at this
                  exact this
                have hz00 : ∀ h : 0 < (T.extract 20 T.size).size, (T.extract 20 T.size)[0] = s.data.toList.getD (k + 1 + 19) 0 := fun h => by
                  have : (T.extract 20 T.size)[0] = (T.extract 20 T.size).data.toList.getD 0 0 := by
                    rw [List.getD_eq_getElem?_getD, List.getElem?_eq_getElem (by rw [len_size]; exact h)]
                    simp [ByteArray.getElem_eq_getElem_data]
                  rw [this, zd0]
                  simp [List.getD_eq_getElem?_getD, List.getElem?_drop]
                have hsign0 : ∀ c : UInt8, c ≠ 100 → c ≠ 97 → formL (s.data.toList.drop (k + 1 + 19)) [c, 100, 100, 100, 100] = true → (T.extract 20 T.size).size = 5 ∧ (formL (piece s.data.toList (k + 1 + 19 + 1) 2) [100, 100] = true ∧ formL (piece s.data.toList (k + 1 + 19 + 3) 2) [100, 100] = true) := fun c h1 h2 h => by
                  have hlen2 := formL_len _ _ h
                  have hsz2 : (T.extract 20 T.size).size = 5 := by rw [← len_size, zd0, hlen2]; rfl
                  rw [List.length_drop] at hlen2
                  simp at hlen2
                  rw [sign_form _ _ c _ h1 h2 (by omega)] at h
                  simp only [Bool.and_eq_true, List.length_cons, List.length_nil, Nat.reduceAdd] at h
                  have s7 := form_split s.data.toList (k + 1 + 19 + 1) [100, 100] [100, 100] 2 2 rfl
                  simp only [List.cons_append, List.nil_append, Nat.reduceAdd, Nat.add_assoc] at s7
                  simp only [Nat.add_assoc, Nat.reduceAdd] at h
                  rw [s7] at h
                  simp only [Bool.and_eq_true] at h
                  exact ⟨hsz2, h.2.2.1, h.2.2.2⟩
                generalize hZE : T.extract 20 T.size = Z at *
                have NZ := hide nz0
                have HZ0 := hide hz00
                have HSG := hide hsign0
                have HZ9 := hide hz9
                clear nz0 hz00 hsign0 hz9 zd0 zs0 c1 c2 c3 tp noT HTd TS
                cases hvp : formL (s.data.toList.drop (k + 1 + 19)) [43, 100, 100, 100, 100]
                · rw [hvp] at hfp
                  cases hvm : formL (s.data.toList.drop (k + 1 + 19)) [45, 100, 100, 100, 100]
                  · rw [hvm] at hfm
                    rw [hvp, hvm, if_neg (show ¬ ((false || false) = true) from by simp)] at hA5
                    have HT := hide (fun w => TT.out 0 w (by omega) (by omega))
                    by_cases hG : s.data.toList.drop (k + 1 + 19) = [71, 77, 84]
                    · have tG : (Z.toList == [71, 77, 84]) = true := by rw [HZ9.out, hG]; rfl
                      rw [if_pos (show _ ∨ _ from .inl hG)] at hA5
                      clear hG hvp hvm TT HSG NZ HZ0 HZ9
                      by_cases hM0 : M = 0
                      · rw [if_pos hM0] at hA5
                        have HA := hide hA5
                        have tM : ((M : Int) == 0) = true := by rw [hM0]; rfl
                        clear hA5 hM0 HT
                        go_wp2_with fail
                        refine (hfp.out _).mono ?_
                        rintro e w2 ⟨rfl, hk2⟩
                        go_wp2_with fail
                        refine (hfm.out _).mono ?_
                        rintro e w3 ⟨rfl, hk3⟩
                        go_wp2_with fail
                        go_ret2
                        exact ⟨by rw [← HA.out]; rfl, ((hk9.trans (Dr.keeps hk2)).trans (Dr.keeps hk3))⟩
                      · rw [if_neg hM0] at hA5
                        have HA := hide hA5
                        have tM : ((M : Int) == 0) = false := by rw [beq_eq_false_iff_ne]; omega
                        rw [HA.out] at HT
                        clear hA5 hM0
                        go_wp2_with fail
                        refine (hfp.out _).mono ?_
                        rintro e w2 ⟨rfl, hk2⟩
                        go_wp2_with fail
                        refine (hfm.out _).mono ?_
                        rintro e w3 ⟨rfl, hk3⟩
                        go_wp2_with fail
                        go_quiet (first | (go_at_call 21; with_reducible exact Calls.quiet_of_same (N1.out _)) | (go_at_call 21; with_reducible exact Calls.quiet_of_same (N2.out _)) | (go_at_call 20; exact Calls.quiet_of (HT.out _)))
                        go_wp2_with fail
                        go_ret2
                        exact ⟨by rw [← HA.out]; rfl, (((hk9.trans (Dr.keeps hk2)).trans (Dr.keeps hk3))).drewN _⟩
                    · have tG : (Z.toList == [71, 77, 84]) = false := by rw [HZ9.out]; simpa using hG
                      by_cases hU : s.data.toList.drop (k + 1 + 19) = [85, 84]
                      · have tU : (Z.toList == [85, 84]) = true := by rw [HZ9.out, hU]; rfl
                        rw [if_pos (show _ ∨ _ from .inr hU)] at hA5
                        clear hG hU hvp hvm TT HSG NZ HZ0 HZ9
                        by_cases hM0 : M = 0
                        · rw [if_pos hM0] at hA5
                          have HA := hide hA5
                          have tM : ((M : Int) == 0) = true := by rw [hM0]; rfl
                          clear hA5 hM0 HT
                          go_wp2_with fail
                          refine (hfp.out _).mono ?_
                          rintro e w2 ⟨rfl, hk2⟩
                          go_wp2_with fail
                          refine (hfm.out _).mono ?_
                          rintro e w3 ⟨rfl, hk3⟩
                          go_wp2_with fail
                          go_ret2
                          exact ⟨by rw [← HA.out]; rfl, ((hk9.trans (Dr.keeps hk2)).trans (Dr.keeps hk3))⟩
                        · rw [if_neg hM0] at hA5
                          have HA := hide hA5
                          have tM : ((M : Int) == 0) = false := by rw [beq_eq_false_iff_ne]; omega
                          rw [HA.out] at HT
                          clear hA5 hM0
                          go_wp2_with fail
                          refine (hfp.out _).mono ?_
                          rintro e w2 ⟨rfl, hk2⟩
                          go_wp2_with fail
                          refine (hfm.out _).mono ?_
                          rintro e w3 ⟨rfl, hk3⟩
                          go_wp2_with fail
                          go_quiet (first | (go_at_call 21; with_reducible exact Calls.quiet_of_same (N1.out _)) | (go_at_call 21; with_reducible exact Calls.quiet_of_same (N2.out _)) | (go_at_call 20; exact Calls.quiet_of (HT.out _)))
                          go_wp2_with fail
                          go_ret2
                          exact ⟨by rw [← HA.out]; rfl, (((hk9.trans (Dr.keeps hk2)).trans (Dr.keeps hk3))).drewN _⟩
                      · have tU : (Z.toList == [85, 84]) = false := by rw [HZ9.out]; simpa using hU
                        rw [if_neg (fun h : _ ∨ _ => h.elim hG hU), ite_self] at hA5
                        have HA := hide hA5
                        clear hA5 hG hU hvp hvm TT HSG NZ HZ0 HZ9 HT
                        go_wp2_with fail
                        refine (hfp.out _).mono ?_
                        rintro e w2 ⟨rfl, hk2⟩
                        go_wp2_with fail
                        refine (hfm.out _).mono ?_
                        rintro e w3 ⟨rfl, hk3⟩
                        go_wp2_with fail
                        go_ret2
                        exact ⟨by rw [← HA.out]; rfl, ((hk9.trans (Dr.keeps hk2)).trans (Dr.keeps hk3))⟩
                  · rw [hvm] at hfm
                    rw [hvp, hvm, if_pos (show (false || true) = true from rfl)] at hA5
                    obtain ⟨z6, zq⟩ := HSG.out 45 (by decide) (by decide) hvm
                    have nz1 := NZ.out 1 (k + 1 + 19 + 1) (by omega) zq.1
                    have nz2 := NZ.out 3 (k + 1 + 19 + 3) (by omega) zq.2
                    have bz1 := nm_two _ _ zq.1
                    have bz2 := nm_two _ _ zq.2
                    have zpos : 0 < Z.size := by omega
                    have zcb := HZ0.out zpos
                    have HZ := hide (fun w => zoneOf_any Z[0] (Z.extract 1 3) (Z.extract 3 5) (nmL (piece s.data.toList (k + 1 + 19 + 1) 2)) (nmL (piece s.data.toList (k + 1 + 19 + 3) 2)) w nz1 nz2 bz1 bz2)
                    obtain ⟨zb1, zb2⟩ := zone_bound Z[0] (nmL (piece s.data.toList (k + 1 + 19 + 1) 2)) (nmL (piece s.data.toList (k + 1 + 19 + 3) 2)) bz1 bz2
                    have HT := hide (fun w => TT.out (zoneV Z[0] (nmL (piece s.data.toList (k + 1 + 19 + 1) 2)) (nmL (piece s.data.toList (k + 1 + 19 + 3) 2))) w zb1 zb2)
                    rw [← zcb] at hA5
                    have tG : (Z.toList == [71, 77, 84]) = false := by
                      rw [beq_eq_false_iff_ne]
                      intro h
                      have h2 := congrArg List.length h
                      rw [ByteArray.toList_eq, len_size, z6] at h2
                      simp at h2
                    have tU : (Z.toList == [85, 84]) = false := by
                      rw [beq_eq_false_iff_ne]
                      intro h
                      have h2 := congrArg List.length h
                      rw [ByteArray.toList_eq, len_size, z6] at h2
                      simp at h2
                    clear zcb HSG NZ HZ0 TT zq bz1 bz2 nz1 nz2 HZ9
                    generalize zoneV Z[0] (nmL (piece s.data.toList (k + 1 + 19 + 1) 2)) (nmL (piece s.data.toList (k + 1 + 19 + 3) 2)) = zz at *
                    cases hzb : zoneB (nmL (piece s.data.toList (k + 1 + 19 + 1) 2)) (nmL (piece s.data.toList (k + 1 + 19 + 3) 2))
                    · rw [hzb] at HZ hA5
                      have hAb : ((0 : Int), (1 : Int)) = A := by rw [if_neg (show ¬ (false = true) from by simp), ite_self] at hA5; exact hA5
                      have HA := hide hAb
                      clear hA5 hzb hAb HT
                      go_wp2_with fail
                      refine (hfp.out _).mono ?_
                      rintro e w2 ⟨rfl, hk2⟩
                      go_wp2_with fail
                      refine (hfm.out _).mono ?_
                      rintro e w3 ⟨rfl, hk3⟩
                      go_wp2_with fail
                      go_quiet ((go_at_call 19; with_reducible exact Calls.quiet_of_same (HZ.out _)))
                      generalize hWW : World.drewN w3 nq = W5 at *
                      have hk5 : Dr w3 W5 := ⟨nq, hWW.symm⟩
                      clear hWW
                      go_wp2_with fail
                      go_ret2
                      exact ⟨by rw [← HA.out]; rfl, (((hk9.trans (Dr.keeps hk2)).trans (Dr.keeps hk3)).trans (Dr.keeps hk5))⟩
                    · rw [hzb] at HZ hA5
                      rw [if_pos (show true = true from rfl)] at hA5
                      by_cases hM0 : M = 0
                      · rw [if_pos hM0] at hA5
                        have HA := hide hA5
                        have tM : ((M : Int) == 0) = true := by rw [hM0]; rfl
                        clear hA5 hzb hM0 HT
                        go_wp2_with fail
                        refine (hfp.out _).mono ?_
                        rintro e w2 ⟨rfl, hk2⟩
                        go_wp2_with fail
                        refine (hfm.out _).mono ?_
                        rintro e w3 ⟨rfl, hk3⟩
                        go_wp2_with fail
                        go_quiet ((go_at_call 19; with_reducible exact Calls.quiet_of_same (HZ.out _)))
                        generalize hWW : World.drewN w3 nq = W5 at *
                        have hk5 : Dr w3 W5 := ⟨nq, hWW.symm⟩
                        clear hWW
                        go_wp2_with fail
                        go_ret2
                        exact ⟨by rw [← HA.out]; rfl, (((hk9.trans (Dr.keeps hk2)).trans (Dr.keeps hk3)).trans (Dr.keeps hk5))⟩
                      · rw [if_neg hM0] at hA5
                        have HA := hide hA5
                        have tM : ((M : Int) == 0) = false := by rw [beq_eq_false_iff_ne]; omega
                        rw [HA.out] at HT
                        clear hA5 hzb hM0
                        go_wp2_with fail
                        refine (hfp.out _).mono ?_
                        rintro e w2 ⟨rfl, hk2⟩
                        go_wp2_with fail
                        refine (hfm.out _).mono ?_
                        rintro e w3 ⟨rfl, hk3⟩
                        go_wp2_with fail
                        go_quiet ((go_at_call 19; with_reducible exact Calls.quiet_of_same (HZ.out _)))
                        generalize hWW : World.drewN w3 nq = W5 at *
                        have hk5 : Dr w3 W5 := ⟨nq, hWW.symm⟩
                        clear hWW
                        go_wp2_with fail
                        go_quiet (first | (go_at_call 21; with_reducible exact Calls.quiet_of_same (N1.out _)) | (go_at_call 21; with_reducible exact Calls.quiet_of_same (N2.out _)) | (go_at_call 20; exact Calls.quiet_of (HT.out _)))
                        go_wp2_with fail
                        go_ret2
                        exact ⟨by rw [← HA.out]; rfl, ((((hk9.trans (Dr.keeps hk2)).trans (Dr.keeps hk3)).trans (Dr.keeps hk5))).drewN _⟩
                · rw [hvp] at hfp
                  rw [hvp, if_pos (show (true || _) = true from rfl)] at hA5
                  obtain ⟨z6, zq⟩ := HSG.out 43 (by decide) (by decide) hvp
                  have nz1 := NZ.out 1 (k + 1 + 19 + 1) (by omega) zq.1
                  have nz2 := NZ.out 3 (k + 1 + 19 + 3) (by omega) zq.2
                  have bz1 := nm_two _ _ zq.1
                  have bz2 := nm_two _ _ zq.2
                  have zpos : 0 < Z.size := by omega
                  have zcb := HZ0.out zpos
                  have HZ := hide (fun w => zoneOf_any Z[0] (Z.extract 1 3) (Z.extract 3 5) (nmL (piece s.data.toList (k + 1 + 19 + 1) 2)) (nmL (piece s.data.toList (k + 1 + 19 + 3) 2)) w nz1 nz2 bz1 bz2)
                  obtain ⟨zb1, zb2⟩ := zone_bound Z[0] (nmL (piece s.data.toList (k + 1 + 19 + 1) 2)) (nmL (piece s.data.toList (k + 1 + 19 + 3) 2)) bz1 bz2
                  have HT := hide (fun w => TT.out (zoneV Z[0] (nmL (piece s.data.toList (k + 1 + 19 + 1) 2)) (nmL (piece s.data.toList (k + 1 + 19 + 3) 2))) w zb1 zb2)
                  rw [← zcb] at hA5
                  have tG : (Z.toList == [71, 77, 84]) = false := by
                    rw [beq_eq_false_iff_ne]
                    intro h
                    have h2 := congrArg List.length h
                    rw [ByteArray.toList_eq, len_size, z6] at h2
                    simp at h2
                  have tU : (Z.toList == [85, 84]) = false := by
                    rw [beq_eq_false_iff_ne]
                    intro h
                    have h2 := congrArg List.length h
                    rw [ByteArray.toList_eq, len_size, z6] at h2
                    simp at h2
                  clear zcb HSG NZ HZ0 TT zq bz1 bz2 nz1 nz2 HZ9
                  generalize zoneV Z[0] (nmL (piece s.data.toList (k + 1 + 19 + 1) 2)) (nmL (piece s.data.toList (k + 1 + 19 + 3) 2)) = zz at *
                  cases hzb : zoneB (nmL (piece s.data.toList (k + 1 + 19 + 1) 2)) (nmL (piece s.data.toList (k + 1 + 19 + 3) 2))
                  · rw [hzb] at HZ hA5
                    have hAb : ((0 : Int), (1 : Int)) = A := by rw [if_neg (show ¬ (false = true) from by simp), ite_self] at hA5; exact hA5
                    have HA := hide hAb
                    clear hA5 hzb hAb HT
                    go_wp2_with fail
                    refine (hfp.out _).mono ?_
                    rintro e w2 ⟨rfl, hk2⟩
                    go_wp2_with fail
                    go_quiet ((go_at_call 19; with_reducible exact Calls.quiet_of_same (HZ.out _)))
                    generalize hWW : World.drewN w2 nq = W5 at *
                    have hk5 : Dr w2 W5 := ⟨nq, hWW.symm⟩
                    clear hWW
                    go_wp2_with fail
                    go_ret2
                    exact ⟨by rw [← HA.out]; rfl, ((hk9.trans (Dr.keeps hk2)).trans (Dr.keeps hk5))⟩
                  · rw [hzb] at HZ hA5
                    rw [if_pos (show true = true from rfl)] at hA5
                    by_cases hM0 : M = 0
                    · rw [if_pos hM0] at hA5
                      have HA := hide hA5
                      have tM : ((M : Int) == 0) = true := by rw [hM0]; rfl
                      clear hA5 hzb hM0 HT
                      go_wp2_with fail
                      refine (hfp.out _).mono ?_
                      rintro e w2 ⟨rfl, hk2⟩
                      go_wp2_with fail
                      go_quiet ((go_at_call 19; with_reducible exact Calls.quiet_of_same (HZ.out _)))
                      generalize hWW : World.drewN w2 nq = W5 at *
                      have hk5 : Dr w2 W5 := ⟨nq, hWW.symm⟩
                      clear hWW
                      go_wp2_with fail
                      go_ret2
                      exact ⟨by rw [← HA.out]; rfl, ((hk9.trans (Dr.keeps hk2)).trans (Dr.keeps hk5))⟩
                    · rw [if_neg hM0] at hA5
                      have HA := hide hA5
                      have tM : ((M : Int) == 0) = false := by rw [beq_eq_false_iff_ne]; omega
                      rw [HA.out] at HT
                      clear hA5 hzb hM0
                      go_wp2_with fail
                      refine (hfp.out _).mono ?_
                      rintro e w2 ⟨rfl, hk2⟩
                      go_wp2_with fail
                      go_quiet ((go_at_call 19; with_reducible exact Calls.quiet_of_same (HZ.out _)))
                      generalize hWW : World.drewN w2 nq = W5 at *
                      have hk5 : Dr w2 W5 := ⟨nq, hWW.symm⟩
                      clear hWW
                      go_wp2_with fail
                      go_quiet (first | (go_at_call 21; with_reducible exact Calls.quiet_of_same (N1.out _)) | (go_at_call 21; with_reducible exact Calls.quiet_of_same (N2.out _)) | (go_at_call 20; exact Calls.quiet_of (HT.out _)))
                      go_wp2_with fail
                      go_ret2
                      exact ⟨by rw [← HA.out]; rfl, (((hk9.trans (Dr.keeps hk2)).trans (Dr.keeps hk5))).drewN _⟩
        --END1
      · have hdd : (decide (k + 1 < s.data.toList.length) && (s.data.toList.getD (k + 1) 0 == 32)) = false := by
          have := TS.out
          rw [Bool.and_eq_false_iff]
          rcases Nat.lt_or_ge 1 T.size with h | h
          · exact .inr (by simpa using (fun he => hd ⟨h, he⟩))
          · exact .inl (decide_eq_false (by omega))
        rw [hdd] at HA2
        simp only [Bool.false_eq_true, if_false] at HA2
        rcases Nat.lt_or_ge 1 T.size with h1 | h1
        · have e1 : T[1] ≠ 32 := by
            have : T[1] = T.data.toList.getD 1 0 := by
              rw [List.getD_eq_getElem?_getD, List.getElem?_eq_getElem (by rw [len_size]; exact h1)]
              simp [ByteArray.getElem_eq_getElem_data]
            rw [this, HTd.out]
            intro he
            refine hd ⟨h1, ?_⟩
            rw [← he]
            simp [List.getD_eq_getElem?_getD, List.getElem?_drop]
          have t32 : ((T[1].toNat : Int) == 32) = false := by
            rw [beq_eq_false_iff_ne]
            intro he
            exact e1 (UInt8.toNat_inj.1 (by have : (32 : UInt8).toNat = 32 := rfl; omega))
          clear e1 hd hdd
          go_upto_region 6 with fail
          --REST2
          have wr19 : IntKind.i64.wrap 21 = 21 := wrap_in _ (by omega) (by omega)
          have wr1 : IntKind.i64.wrap 3 = 3 := wrap_in _ (by omega) (by omega)
          have wr4 : IntKind.i64.wrap 6 = 6 := wrap_in _ (by omega) (by omega)
          have wr5 : IntKind.i64.wrap 7 = 7 := wrap_in _ (by omega) (by omega)
          have wr9 : IntKind.i64.wrap 11 = 11 := wrap_in _ (by omega) (by omega)
          have wr10 : IntKind.i64.wrap 12 = 12 := wrap_in _ (by omega) (by omega)
          have wr18 : IntKind.i64.wrap 20 = 20 := wrap_in _ (by omega) (by omega)
          have xd : (⟨#[100, 100]⟩ : ByteArray).extract 0 2 = ⟨#[100, 100]⟩ := by apply ByteArray.ext; rw [ByteArray.data_extract]; rfl
          have HA3 : Hid ((if formL (piece s.data.toList k 21) ([100, 100] ++ FM) = false then ((0 : Int), (1 : Int)) else if monG (piece s.data.toList (k + 2 + 1) 3) 12 = 0 then (0, 1) else refZone s.data.toList (nmL (piece s.data.toList (k + 2 + 5) 4)) (monG (piece s.data.toList (k + 2 + 1) 3) 12) (nmL (piece s.data.toList k 2)) (nmL (piece s.data.toList (k + 2 + 10) 2)) (nmL (piece s.data.toList (k + 2 + 13) 2)) (nmL (piece s.data.toList (k + 2 + 16) 2)) (k + 2 + 19)) = A) := HA2
          clear HA2
          rcases Nat.lt_or_ge T.size 21 with hlen | hlen
          · have hAe : ((0 : Int), (1 : Int)) = A := by
              have h2 := HA3.out
              rw [if_pos (formL_ne _ _ (by
                unfold piece
                rw [List.length_take, List.length_drop, L1]
                have := TS.out
                simp [FM]
                omega))] at h2
              exact h2
            have HAe := hide hAe
            have l21 : decide ((T.size : Int) < 21) = true := decide_eq_true (by omega)
            clear HA3 hAe
            go_quiet (fail)
            go_wp2_with fail
            go_ret2
            exact ⟨by rw [← HAe.out]; rfl, (hdx.keeps).drewN _⟩
          · have l21 : decide ((T.size : Int) < 21) = false := decide_eq_false (by omega)
            have hf := hide (fun w => form_any (T.extract 0 21) (⟨#[100, 100]⟩ ++ ⟨#[32, 97, 97, 97, 32, 100, 100, 100, 100, 32, 100, 100, 58, 100, 100, 58, 100, 100, 32]⟩) w (by decide))
            have tp : ∀ a n, piece T.data.toList a n = piece s.data.toList (k + a) n := fun a n => by rw [HTd.out, piece_drop]
            have e1 : (T.extract 0 21).data.toList = piece s.data.toList k 21 := by rw [ext_piece, tp]; rfl
            have e2 : (⟨#[100, 100]⟩ ++ ⟨#[32, 97, 97, 97, 32, 100, 100, 100, 100, 32, 100, 100, 58, 100, 100, 58, 100, 100, 32]⟩ : ByteArray).data.toList = [100, 100] ++ FM := rfl
            rw [e1, e2] at hf
            clear e1 e2
            cases hfv : formL (piece s.data.toList k 21) ([100, 100] ++ FM)
            · rw [hfv] at hf
              have hA4 := HA3.out
              rw [hfv, if_pos rfl] at hA4
              have HAe := hide hA4
              clear HA3 hA4 hfv
              go_quiet ((go_at_call 18; exact Calls.quiet_of (hf.out _)))
              go_wp2_with fail
              go_ret2
              exact ⟨by rw [← HAe.out]; rfl, (hdx.keeps).drewN _⟩
            · rw [hfv] at hf
              have hA4 := HA3.out
              rw [hfv, if_neg (show ¬ (true = false) from by simp)] at hA4
              clear HA3
              have sp := form_split s.data.toList k [100, 100] FM 2 19 rfl
              simp only [Nat.reduceAdd] at sp
              rw [sp, Bool.and_eq_true] at hfv
              obtain ⟨pD, pF⟩ := hfv
              obtain ⟨p1, p4, p5, p6⟩ := mail_pieces _ _ pF
              clear sp pF
              have noT : ∀ a b n, b - a = n → n ≤ 4 → formL (piece s.data.toList (k + a) n) (List.replicate n 100) = true → IsNo (T.extract a b) (nmL (piece s.data.toList (k + a) n)) := fun a b n h1 h2 h3 => by
                have := no_piece T a b n h1 h2 (by rw [tp]; exact h3)
                rw [tp] at this
                exact this
              have N1 := hide (fun w => noT 7 11 4 rfl (by omega) p1 w)
              have N2 := hide (fun w => noT 0 2 2 rfl (by omega) pD w)
              have b1 := nm_four _ _ p1
              have b3 : nmL (piece s.data.toList k 2) ≤ 99 := by
                have h1 := nmL_lt (piece s.data.toList k 2) (form_digits _ 2 pD)
                have h2 := formL_len _ _ pD
                rw [h2] at h1
                simp at h1
                omega
              have b4 := nm_two _ _ p4
              have b5 := nm_two _ _ p5
              have b6 := nm_two _ _ p6
              have hC : (T.extract 12 20).size = 8 := by simp; omega
              have cd := ext_piece T 12 20
              have cp : ∀ a, a + 2 ≤ 8 → piece (T.extract 12 20).data.toList a 2 = piece s.data.toList (k + 2 + 10 + a) 2 := fun a ha => by
                rw [cd]
                have e : ∀ (q : List UInt8) x, piece (piece q x 8) a 2 = piece q (x + a) 2 := fun q x => by
                  unfold piece
                  rw [List.drop_take, List.take_take, List.drop_drop, Nat.min_eq_left (by omega)]
                rw [e, tp, show k + (12 + a) = k + 2 + 10 + a from by omega]
              have c1 := no_piece (T.extract 12 20) 0 2 2 rfl (by omega) (by rw [cp 0 (by omega)]; exact p4)
              have c2 := no_piece (T.extract 12 20) 3 5 2 rfl (by omega) (by rw [cp 3 (by omega)]; exact p5)
              have c3 := no_piece (T.extract 12 20) 6 8 2 rfl (by omega) (by rw [cp 6 (by omega)]; exact p6)
              rw [cp 0 (by omega)] at c1
              rw [cp 3 (by omega)] at c2
              rw [cp 6 (by omega)] at c3
              have hEl : (T.extract 3 6).toList = piece s.data.toList (k + 2 + 1) 3 := by rw [ByteArray.toList_eq, ext_piece, tp]
              rw [← mon_same] at hA4
              obtain ⟨P, hP⟩ : ∃ P, piece s.data.toList (k + 2 + 1) 3 = P := ⟨_, rfl⟩
              rw [hP] at hA4 hEl
              clear hP cp cd p1 p4 p5 p6 pD
              generalize hEE : T.extract 3 6 = E at *
              have HE := hide hEl
              clear hEl
              have hmb : ∀ u, u ≤ 12 → monU P u ≤ 12 := fun u => by
                induction u with
                | zero => intro _; simp [monU]
                | succ u ih =>
                  intro hu
                  rw [monU]
                  have := ih (by omega)
                  split <;> omega
              have HMB := hide hmb
              have HA6 := hide hA4
              clear hmb hA4
              go_quiet ((go_at_call 18; exact Calls.quiet_of (hf.out _)))
              generalize hWW : World.drewN wc nq = W at *
              have hkW : Keeps [] w W := by rw [← hWW]; exact (hdx.keeps).drewN _
              clear hWW hf
              go_wp2_with fail
              go_loopw [5, 7] (fun v i wr => ∃ u : Nat, u ≤ 12 ∧ i = .int .i64 u ∧ v = .int .i64 (monU P u : Nat) ∧ Hid (Dr (W.alloc namesO) wr)) (fun _ i _ => 12 - (intOf i).toNat)
              case atStart => exact ⟨0, by omega, rfl, rfl, ⟨0, rfl⟩⟩
              case round =>
                obtain ⟨u, hu, rfl, rfl, hDr⟩ := hrel
                have hcell : u < 12 → wr.cell? ⟨W.heap.size, u, none⟩ = some (.string ⟨(nameL (u + 1)).toArray⟩) := fun h => by
                  obtain ⟨q, hq⟩ := hDr.out
                  rw [hq]
                  exact names_cell W u h
                have hmu := HMB.out u hu
                by_cases hlt : u < 12
                · have c0 := hcell hlt
                  have hmn : Hid (monU P (u + 1) = if nameL (u + 1) = P then u + 1 else monU P u) := rfl
                  have hnl : (⟨(nameL (u + 1)).toArray⟩ : ByteArray).toList = nameL (u + 1) := by rw [ByteArray.toList_eq]
                  by_cases hn : nameL (u + 1) = P
                  · have te : ((⟨(nameL (u + 1)).toArray⟩ : ByteArray).toList == E.toList) = true := by rw [hnl, HE.out, hn]; simp
                    have hm2 := hide (hmn.out.trans (if_pos hn))
                    clear hmn hnl hcell HA6 HMB HE hn
                    generalize (⟨(nameL (u + 1)).toArray⟩ : ByteArray) = NS at *
                    generalize monU P u = mu at *
                    go_wp2_with fail
                    go_quiet (fail)
                    go_wp2_with fail
                    go_roundw
                    case rel => exact ⟨u + 1, by omega, by go_num, by rw [hm2.out]; go_num, Dr.trans hDr.out ⟨_, rfl⟩⟩
                    case measure => simp [intOf]; omega
                  · have te : ((⟨(nameL (u + 1)).toArray⟩ : ByteArray).toList == E.toList) = false := by rw [hnl, HE.out]; simpa using hn
                    have hm2 := hide (hmn.out.trans (if_neg hn))
                    clear hmn hnl hcell HA6 HMB HE hn
                    generalize (⟨(nameL (u + 1)).toArray⟩ : ByteArray) = NS at *
                    go_wp2_with fail
                    go_quiet (fail)
                    go_wp2_with fail
                    go_roundw
                    case rel => exact ⟨u + 1, by omega, by go_num, by rw [hm2.out], Dr.trans hDr.out ⟨_, rfl⟩⟩
                    case measure => simp [intOf]; omega
                · obtain rfl : u = 12 := by omega
                  have hk9 : Keeps [] w wr := (hkW.alloc namesO).trans (hDr.out).keeps
                  have hA5 := HA6.out
                  clear hcell hDr HA6 HMB HE hEE hlt hu
                  generalize monU P 12 = M at *
                  have TT := hide (fun zone w hz1 hz2 => timeOf_any (nmL (piece s.data.toList (k + 2 + 5) 4)) M (nmL (piece s.data.toList k 2)) (nmL (piece s.data.toList (k + 2 + 10) 2)) (nmL (piece s.data.toList (k + 2 + 13) 2)) (nmL (piece s.data.toList (k + 2 + 16) 2)) (T.extract 12 20) zone w hC b1 (by omega) b3 b4 b5 b6 hz1 hz2 c1 c2 c3)
                  unfold refZone at hA5
                  have zd0 : (T.extract 21 T.size).data.toList = s.data.toList.drop (k + 2 + 19) := by rw [Lib.extract_to_end, HTd.out, List.drop_drop]
                  have zs0 : (T.extract 21 T.size).size = T.size - 21 := by simp
                  have hfp := hide (fun w => form_any (T.extract 21 T.size) ⟨#[43, 100, 100, 100, 100]⟩ w (by decide))
                  have hfm := hide (fun w => form_any (T.extract 21 T.size) ⟨#[45, 100, 100, 100, 100]⟩ w (by decide))
                  rw [zd0, show (⟨#[43, 100, 100, 100, 100]⟩ : ByteArray).data.toList = [43, 100, 100, 100, 100] from rfl] at hfp
                  rw [zd0, show (⟨#[45, 100, 100, 100, 100]⟩ : ByteArray).data.toList = [45, 100, 100, 100, 100] from rfl] at hfm
                  have hz9 : (T.extract 21 T.size).toList = s.data.toList.drop (k + 2 + 19) := by rw [ByteArray.toList_eq]; exact zd0
                  have nz0 : ∀ a q, k + 2 + 19 + a = q → formL (piece s.data.toList q 2) [100, 100] = true → IsNo ((T.extract 21 T.size).extract a (a + 2)) (nmL (piece s.data.toList q 2)) := fun a q hq h => by
                    have e : piece (T.extract 21 T.size).data.toList a 2 = piece s.data.toList q 2 := by rw [zd0, piece_drop, hq]
                    have := no_piece (T.extract 21 T.size) a (a + 2) 2 (by omega) (by omega) (by rw [e]; exact h)
                    rw [e] at this
                    exact this
                  have hz00 : ∀ h : 0 < (T.extract 21 T.size).size, (T.extract 21 T.size)[0] = s.data.toList.getD (k + 2 + 19) 0 := fun h => by
                    have : (T.extract 21 T.size)[0] = (T.extract 21 T.size).data.toList.getD 0 0 := by
                      rw [List.getD_eq_getElem?_getD, List.getElem?_eq_getElem (by rw [len_size]; exact h)]
                      simp [ByteArray.getElem_eq_getElem_data]
                    rw [this, zd0]
                    simp [List.getD_eq_getElem?_getD, List.getElem?_drop]
                  have hsign0 : ∀ c : UInt8, c ≠ 100 → c ≠ 97 → formL (s.data.toList.drop (k + 2 + 19)) [c, 100, 100, 100, 100] = true → (T.extract 21 T.size).size = 5 ∧ (formL (piece s.data.toList (k + 2 + 19 + 1) 2) [100, 100] = true ∧ formL (piece s.data.toList (k + 2 + 19 + 3) 2) [100, 100] = true) := fun c h1 h2 h => by
                    have hlen2 := formL_len _ _ h
                    have hsz2 : (T.extract 21 T.size).size = 5 := by rw [← len_size, zd0, hlen2]; rfl
                    rw [List.length_drop] at hlen2
                    simp at hlen2
                    rw [sign_form _ _ c _ h1 h2 (by omega)] at h
                    simp only [Bool.and_eq_true, List.length_cons, List.length_nil, Nat.reduceAdd] at h
                    have s7 := form_split s.data.toList (k + 2 + 19 + 1) [100, 100] [100, 100] 2 2 rfl
                    simp only [List.cons_append, List.nil_append, Nat.reduceAdd, Nat.add_assoc] at s7
                    simp only [Nat.add_assoc, Nat.reduceAdd] at h
                    rw [s7] at h
                    simp only [Bool.and_eq_true] at h
                    exact ⟨hsz2, h.2.2.1, h.2.2.2⟩
                  generalize hZE : T.extract 21 T.size = Z at *
                  have NZ := hide nz0
                  have HZ0 := hide hz00
                  have HSG := hide hsign0
                  have HZ9 := hide hz9
                  clear nz0 hz00 hsign0 hz9 zd0 zs0 c1 c2 c3 tp noT HTd TS
                  cases hvp : formL (s.data.toList.drop (k + 2 + 19)) [43, 100, 100, 100, 100]
                  · rw [hvp] at hfp
                    cases hvm : formL (s.data.toList.drop (k + 2 + 19)) [45, 100, 100, 100, 100]
                    · rw [hvm] at hfm
                      rw [hvp, hvm, if_neg (show ¬ ((false || false) = true) from by simp)] at hA5
                      have HT := hide (fun w => TT.out 0 w (by omega) (by omega))
                      by_cases hG : s.data.toList.drop (k + 2 + 19) = [71, 77, 84]
                      · have tG : (Z.toList == [71, 77, 84]) = true := by rw [HZ9.out, hG]; rfl
                        rw [if_pos (show _ ∨ _ from .inl hG)] at hA5
                        clear hG hvp hvm TT HSG NZ HZ0 HZ9
                        by_cases hM0 : M = 0
                        · rw [if_pos hM0] at hA5
                          have HA := hide hA5
                          have tM : ((M : Int) == 0) = true := by rw [hM0]; rfl
                          clear hA5 hM0 HT
                          go_wp2_with fail
                          refine (hfp.out _).mono ?_
                          rintro e w2 ⟨rfl, hk2⟩
                          go_wp2_with fail
                          refine (hfm.out _).mono ?_
                          rintro e w3 ⟨rfl, hk3⟩
                          go_wp2_with fail
                          go_ret2
                          exact ⟨by rw [← HA.out]; rfl, ((hk9.trans (Dr.keeps hk2)).trans (Dr.keeps hk3))⟩
                        · rw [if_neg hM0] at hA5
                          have HA := hide hA5
                          have tM : ((M : Int) == 0) = false := by rw [beq_eq_false_iff_ne]; omega
                          rw [HA.out] at HT
                          clear hA5 hM0
                          go_wp2_with fail
                          refine (hfp.out _).mono ?_
                          rintro e w2 ⟨rfl, hk2⟩
                          go_wp2_with fail
                          refine (hfm.out _).mono ?_
                          rintro e w3 ⟨rfl, hk3⟩
                          go_wp2_with fail
                          go_quiet (first | (go_at_call 21; with_reducible exact Calls.quiet_of_same (N1.out _)) | (go_at_call 21; with_reducible exact Calls.quiet_of_same (N2.out _)) | (go_at_call 20; exact Calls.quiet_of (HT.out _)))
                          go_wp2_with fail
                          go_ret2
                          exact ⟨by rw [← HA.out]; rfl, (((hk9.trans (Dr.keeps hk2)).trans (Dr.keeps hk3))).drewN _⟩
                      · have tG : (Z.toList == [71, 77, 84]) = false := by rw [HZ9.out]; simpa using hG
                        by_cases hU : s.data.toList.drop (k + 2 + 19) = [85, 84]
                        · have tU : (Z.toList == [85, 84]) = true := by rw [HZ9.out, hU]; rfl
                          rw [if_pos (show _ ∨ _ from .inr hU)] at hA5
                          clear hG hU hvp hvm TT HSG NZ HZ0 HZ9
                          by_cases hM0 : M = 0
                          · rw [if_pos hM0] at hA5
                            have HA := hide hA5
                            have tM : ((M : Int) == 0) = true := by rw [hM0]; rfl
                            clear hA5 hM0 HT
                            go_wp2_with fail
                            refine (hfp.out _).mono ?_
                            rintro e w2 ⟨rfl, hk2⟩
                            go_wp2_with fail
                            refine (hfm.out _).mono ?_
                            rintro e w3 ⟨rfl, hk3⟩
                            go_wp2_with fail
                            go_ret2
                            exact ⟨by rw [← HA.out]; rfl, ((hk9.trans (Dr.keeps hk2)).trans (Dr.keeps hk3))⟩
                          · rw [if_neg hM0] at hA5
                            have HA := hide hA5
                            have tM : ((M : Int) == 0) = false := by rw [beq_eq_false_iff_ne]; omega
                            rw [HA.out] at HT
                            clear hA5 hM0
                            go_wp2_with fail
                            refine (hfp.out _).mono ?_
                            rintro e w2 ⟨rfl, hk2⟩
                            go_wp2_with fail
                            refine (hfm.out _).mono ?_
                            rintro e w3 ⟨rfl, hk3⟩
                            go_wp2_with fail
                            go_quiet (first | (go_at_call 21; with_reducible exact Calls.quiet_of_same (N1.out _)) | (go_at_call 21; with_reducible exact Calls.quiet_of_same (N2.out _)) | (go_at_call 20; exact Calls.quiet_of (HT.out _)))
                            go_wp2_with fail
                            go_ret2
                            exact ⟨by rw [← HA.out]; rfl, (((hk9.trans (Dr.keeps hk2)).trans (Dr.keeps hk3))).drewN _⟩
                        · have tU : (Z.toList == [85, 84]) = false := by rw [HZ9.out]; simpa using hU
                          rw [if_neg (fun h : _ ∨ _ => h.elim hG hU), ite_self] at hA5
                          have HA := hide hA5
                          clear hA5 hG hU hvp hvm TT HSG NZ HZ0 HZ9 HT
                          go_wp2_with fail
                          refine (hfp.out _).mono ?_
                          rintro e w2 ⟨rfl, hk2⟩
                          go_wp2_with fail
                          refine (hfm.out _).mono ?_
                          rintro e w3 ⟨rfl, hk3⟩
                          go_wp2_with fail
                          go_ret2
                          exact ⟨by rw [← HA.out]; rfl, ((hk9.trans (Dr.keeps hk2)).trans (Dr.keeps hk3))⟩
                    · rw [hvm] at hfm
                      rw [hvp, hvm, if_pos (show (false || true) = true from rfl)] at hA5
                      obtain ⟨z6, zq⟩ := HSG.out 45 (by decide) (by decide) hvm
                      have nz1 := NZ.out 1 (k + 2 + 19 + 1) (by omega) zq.1
                      have nz2 := NZ.out 3 (k + 2 + 19 + 3) (by omega) zq.2
                      have bz1 := nm_two _ _ zq.1
                      have bz2 := nm_two _ _ zq.2
                      have zpos : 0 < Z.size := by omega
                      have zcb := HZ0.out zpos
                      have HZ := hide (fun w => zoneOf_any Z[0] (Z.extract 1 3) (Z.extract 3 5) (nmL (piece s.data.toList (k + 2 + 19 + 1) 2)) (nmL (piece s.data.toList (k + 2 + 19 + 3) 2)) w nz1 nz2 bz1 bz2)
                      obtain ⟨zb1, zb2⟩ := zone_bound Z[0] (nmL (piece s.data.toList (k + 2 + 19 + 1) 2)) (nmL (piece s.data.toList (k + 2 + 19 + 3) 2)) bz1 bz2
                      have HT := hide (fun w => TT.out (zoneV Z[0] (nmL (piece s.data.toList (k + 2 + 19 + 1) 2)) (nmL (piece s.data.toList (k + 2 + 19 + 3) 2))) w zb1 zb2)
                      rw [← zcb] at hA5
                      have tG : (Z.toList == [71, 77, 84]) = false := by
                        rw [beq_eq_false_iff_ne]
                        intro h
                        have h2 := congrArg List.length h
                        rw [ByteArray.toList_eq, len_size, z6] at h2
                        simp at h2
                      have tU : (Z.toList == [85, 84]) = false := by
                        rw [beq_eq_false_iff_ne]
                        intro h
                        have h2 := congrArg List.length h
                        rw [ByteArray.toList_eq, len_size, z6] at h2
                        simp at h2
                      clear zcb HSG NZ HZ0 TT zq bz1 bz2 nz1 nz2 HZ9
                      generalize zoneV Z[0] (nmL (piece s.data.toList (k + 2 + 19 + 1) 2)) (nmL (piece s.data.toList (k + 2 + 19 + 3) 2)) = zz at *
                      cases hzb : zoneB (nmL (piece s.data.toList (k + 2 + 19 + 1) 2)) (nmL (piece s.data.toList (k + 2 + 19 + 3) 2))
                      · rw [hzb] at HZ hA5
                        have hAb : ((0 : Int), (1 : Int)) = A := by rw [if_neg (show ¬ (false = true) from by simp), ite_self] at hA5; exact hA5
                        have HA := hide hAb
                        clear hA5 hzb hAb HT
                        go_wp2_with fail
                        refine (hfp.out _).mono ?_
                        rintro e w2 ⟨rfl, hk2⟩
                        go_wp2_with fail
                        refine (hfm.out _).mono ?_
                        rintro e w3 ⟨rfl, hk3⟩
                        go_wp2_with fail
                        go_quiet ((go_at_call 19; with_reducible exact Calls.quiet_of_same (HZ.out _)))
                        generalize hWW : World.drewN w3 nq = W5 at *
                        have hk5 : Dr w3 W5 := ⟨nq, hWW.symm⟩
                        clear hWW
                        go_wp2_with fail
                        go_ret2
                        exact ⟨by rw [← HA.out]; rfl, (((hk9.trans (Dr.keeps hk2)).trans (Dr.keeps hk3)).trans (Dr.keeps hk5))⟩
                      · rw [hzb] at HZ hA5
                        rw [if_pos (show true = true from rfl)] at hA5
                        by_cases hM0 : M = 0
                        · rw [if_pos hM0] at hA5
                          have HA := hide hA5
                          have tM : ((M : Int) == 0) = true := by rw [hM0]; rfl
                          clear hA5 hzb hM0 HT
                          go_wp2_with fail
                          refine (hfp.out _).mono ?_
                          rintro e w2 ⟨rfl, hk2⟩
                          go_wp2_with fail
                          refine (hfm.out _).mono ?_
                          rintro e w3 ⟨rfl, hk3⟩
                          go_wp2_with fail
                          go_quiet ((go_at_call 19; with_reducible exact Calls.quiet_of_same (HZ.out _)))
                          generalize hWW : World.drewN w3 nq = W5 at *
                          have hk5 : Dr w3 W5 := ⟨nq, hWW.symm⟩
                          clear hWW
                          go_wp2_with fail
                          go_ret2
                          exact ⟨by rw [← HA.out]; rfl, (((hk9.trans (Dr.keeps hk2)).trans (Dr.keeps hk3)).trans (Dr.keeps hk5))⟩
                        · rw [if_neg hM0] at hA5
                          have HA := hide hA5
                          have tM : ((M : Int) == 0) = false := by rw [beq_eq_false_iff_ne]; omega
                          rw [HA.out] at HT
                          clear hA5 hzb hM0
                          go_wp2_with fail
                          refine (hfp.out _).mono ?_
                          rintro e w2 ⟨rfl, hk2⟩
                          go_wp2_with fail
                          refine (hfm.out _).mono ?_
                          rintro e w3 ⟨rfl, hk3⟩
                          go_wp2_with fail
                          go_quiet ((go_at_call 19; with_reducible exact Calls.quiet_of_same (HZ.out _)))
                          generalize hWW : World.drewN w3 nq = W5 at *
                          have hk5 : Dr w3 W5 := ⟨nq, hWW.symm⟩
                          clear hWW
                          go_wp2_with fail
                          go_quiet (first | (go_at_call 21; with_reducible exact Calls.quiet_of_same (N1.out _)) | (go_at_call 21; with_reducible exact Calls.quiet_of_same (N2.out _)) | (go_at_call 20; exact Calls.quiet_of (HT.out _)))
                          go_wp2_with fail
                          go_ret2
                          exact ⟨by rw [← HA.out]; rfl, ((((hk9.trans (Dr.keeps hk2)).trans (Dr.keeps hk3)).trans (Dr.keeps hk5))).drewN _⟩
                  · rw [hvp] at hfp
                    rw [hvp, if_pos (show (true || _) = true from rfl)] at hA5
                    obtain ⟨z6, zq⟩ := HSG.out 43 (by decide) (by decide) hvp
                    have nz1 := NZ.out 1 (k + 2 + 19 + 1) (by omega) zq.1
                    have nz2 := NZ.out 3 (k + 2 + 19 + 3) (by omega) zq.2
                    have bz1 := nm_two _ _ zq.1
                    have bz2 := nm_two _ _ zq.2
                    have zpos : 0 < Z.size := by omega
                    have zcb := HZ0.out zpos
                    have HZ := hide (fun w => zoneOf_any Z[0] (Z.extract 1 3) (Z.extract 3 5) (nmL (piece s.data.toList (k + 2 + 19 + 1) 2)) (nmL (piece s.data.toList (k + 2 + 19 + 3) 2)) w nz1 nz2 bz1 bz2)
                    obtain ⟨zb1, zb2⟩ := zone_bound Z[0] (nmL (piece s.data.toList (k + 2 + 19 + 1) 2)) (nmL (piece s.data.toList (k + 2 + 19 + 3) 2)) bz1 bz2
                    have HT := hide (fun w => TT.out (zoneV Z[0] (nmL (piece s.data.toList (k + 2 + 19 + 1) 2)) (nmL (piece s.data.toList (k + 2 + 19 + 3) 2))) w zb1 zb2)
                    rw [← zcb] at hA5
                    have tG : (Z.toList == [71, 77, 84]) = false := by
                      rw [beq_eq_false_iff_ne]
                      intro h
                      have h2 := congrArg List.length h
                      rw [ByteArray.toList_eq, len_size, z6] at h2
                      simp at h2
                    have tU : (Z.toList == [85, 84]) = false := by
                      rw [beq_eq_false_iff_ne]
                      intro h
                      have h2 := congrArg List.length h
                      rw [ByteArray.toList_eq, len_size, z6] at h2
                      simp at h2
                    clear zcb HSG NZ HZ0 TT zq bz1 bz2 nz1 nz2 HZ9
                    generalize zoneV Z[0] (nmL (piece s.data.toList (k + 2 + 19 + 1) 2)) (nmL (piece s.data.toList (k + 2 + 19 + 3) 2)) = zz at *
                    cases hzb : zoneB (nmL (piece s.data.toList (k + 2 + 19 + 1) 2)) (nmL (piece s.data.toList (k + 2 + 19 + 3) 2))
                    · rw [hzb] at HZ hA5
                      have hAb : ((0 : Int), (1 : Int)) = A := by rw [if_neg (show ¬ (false = true) from by simp), ite_self] at hA5; exact hA5
                      have HA := hide hAb
                      clear hA5 hzb hAb HT
                      go_wp2_with fail
                      refine (hfp.out _).mono ?_
                      rintro e w2 ⟨rfl, hk2⟩
                      go_wp2_with fail
                      go_quiet ((go_at_call 19; with_reducible exact Calls.quiet_of_same (HZ.out _)))
                      generalize hWW : World.drewN w2 nq = W5 at *
                      have hk5 : Dr w2 W5 := ⟨nq, hWW.symm⟩
                      clear hWW
                      go_wp2_with fail
                      go_ret2
                      exact ⟨by rw [← HA.out]; rfl, ((hk9.trans (Dr.keeps hk2)).trans (Dr.keeps hk5))⟩
                    · rw [hzb] at HZ hA5
                      rw [if_pos (show true = true from rfl)] at hA5
                      by_cases hM0 : M = 0
                      · rw [if_pos hM0] at hA5
                        have HA := hide hA5
                        have tM : ((M : Int) == 0) = true := by rw [hM0]; rfl
                        clear hA5 hzb hM0 HT
                        go_wp2_with fail
                        refine (hfp.out _).mono ?_
                        rintro e w2 ⟨rfl, hk2⟩
                        go_wp2_with fail
                        go_quiet ((go_at_call 19; with_reducible exact Calls.quiet_of_same (HZ.out _)))
                        generalize hWW : World.drewN w2 nq = W5 at *
                        have hk5 : Dr w2 W5 := ⟨nq, hWW.symm⟩
                        clear hWW
                        go_wp2_with fail
                        go_ret2
                        exact ⟨by rw [← HA.out]; rfl, ((hk9.trans (Dr.keeps hk2)).trans (Dr.keeps hk5))⟩
                      · rw [if_neg hM0] at hA5
                        have HA := hide hA5
                        have tM : ((M : Int) == 0) = false := by rw [beq_eq_false_iff_ne]; omega
                        rw [HA.out] at HT
                        clear hA5 hzb hM0
                        go_wp2_with fail
                        refine (hfp.out _).mono ?_
                        rintro e w2 ⟨rfl, hk2⟩
                        go_wp2_with fail
                        go_quiet ((go_at_call 19; with_reducible exact Calls.quiet_of_same (HZ.out _)))
                        generalize hWW : World.drewN w2 nq = W5 at *
                        have hk5 : Dr w2 W5 := ⟨nq, hWW.symm⟩
                        clear hWW
                        go_wp2_with fail
                        go_quiet (first | (go_at_call 21; with_reducible exact Calls.quiet_of_same (N1.out _)) | (go_at_call 21; with_reducible exact Calls.quiet_of_same (N2.out _)) | (go_at_call 20; exact Calls.quiet_of (HT.out _)))
                        go_wp2_with fail
                        go_ret2
                        exact ⟨by rw [← HA.out]; rfl, (((hk9.trans (Dr.keeps hk2)).trans (Dr.keeps hk5))).drewN _⟩
          --END2
        · have hAe : ((0 : Int), (1 : Int)) = A := by
            have h2 := HA2.out
            rw [if_pos (formL_ne _ _ (by
              unfold piece
              rw [List.length_take, List.length_drop, L1]
              have := TS.out
              simp [FM]
              omega))] at h2
            exact h2
          have HAe := hide hAe
          have wr21 : IntKind.i64.wrap 21 = 21 := wrap_in _ (by omega) (by omega)
          have l21 : decide ((T.size : Int) < 21) = true := decide_eq_true (by omega)
          have l22 : ¬ ((1 : Int) < (T.size : Int)) := by omega
          clear HA2 hd hdd hAe
          go_wp2_with fail
          go_quiet (fail)
          go_wp2_with fail
          go_ret2
          exact ⟨by rw [← HAe.out]; rfl, (hdx.keeps).drewN _⟩
end Go.Proofs.YtngojdajamgabadDoor
