/- The document's answer for dates: WebOf. -/
import Derived.Test.YtngojdajamgabadDoorDRefM
namespace Go.Proofs.YtngojdajamgabadDoor
open Go.RowKit

theorem ext_piece (s : ByteArray) (a b : Nat) : (s.extract a b).data.toList = piece s.data.toList a (b - a) := by
  rw [Lib.extract_data]
  rfl
theorem form_digits : ∀ (p : List UInt8) (n : Nat), formL p (List.replicate n 100) = true → ∀ c ∈ p, digB c = true
  | [], _, _, c, h => by simp at h
  | d :: p, 0, h, _, _ => by simp [formL] at h
  | d :: p, n + 1, h, c, hc => by
    rw [List.replicate_succ, formL, Bool.and_eq_true] at h
    rcases List.mem_cons.1 hc with rfl | hc
    · exact h.1
    · exact form_digits p n h.2 c hc
theorem no_piece (s : ByteArray) (a b n : Nat) (hn : b - a = n) (h4 : n ≤ 4) (h : formL (piece s.data.toList a n) (List.replicate n 100) = true) : IsNo (s.extract a b) (nmL (piece s.data.toList a n)) := by
  intro w
  have hd := ext_piece s a b
  rw [hn] at hd
  have hsz : (s.extract a b).size ≤ 4 := by
    rw [← len_size, hd]
    unfold piece
    rw [List.length_take]
    omega
  have := rnumber_any (s.extract a b) w hsz (by rw [hd]; exact form_digits _ _ h)
  rw [hd] at this
  exact this
theorem nm_two (l : List UInt8) (k : Nat) (h : formL (piece l k 2) [100, 100] = true) : nmL (piece l k 2) ≤ 99 := by
  have h1 := nmL_lt (piece l k 2) (form_digits _ 2 h)
  have h2 := formL_len _ _ h
  rw [h2] at h1
  simp at h1
  omega
theorem nm_four (l : List UInt8) (k : Nat) (h : formL (piece l k 4) [100, 100, 100, 100] = true) : nmL (piece l k 4) ≤ 9999 := by
  have h1 := nmL_lt (piece l k 4) (form_digits _ 4 h)
  have h2 := formL_len _ _ h
  rw [h2] at h1
  simp at h1
  omega
/-- The pieces of a text that has the form of a time. -/
theorem web_pieces (l : List UInt8) (h : formL (l.take 19) FW = true) : formL (piece l 0 4) [100, 100, 100, 100] = true ∧ formL (piece l 5 2) [100, 100] = true ∧ formL (piece l 8 2) [100, 100] = true ∧ formL (piece l 11 2) [100, 100] = true ∧ formL (piece l 14 2) [100, 100] = true ∧ formL (piece l 17 2) [100, 100] = true := by
  have s1 := form_split l 0 [100, 100, 100, 100] [45, 100, 100, 45, 100, 100, 84, 100, 100, 58, 100, 100, 58, 100, 100] 4 15 rfl
  have s2 := form_split l 4 [45] [100, 100, 45, 100, 100, 84, 100, 100, 58, 100, 100, 58, 100, 100] 1 14 rfl
  have s3 := form_split l 5 [100, 100] [45, 100, 100, 84, 100, 100, 58, 100, 100, 58, 100, 100] 2 12 rfl
  have s4 := form_split l 7 [45] [100, 100, 84, 100, 100, 58, 100, 100, 58, 100, 100] 1 11 rfl
  have s5 := form_split l 8 [100, 100] [84, 100, 100, 58, 100, 100, 58, 100, 100] 2 9 rfl
  have s6 := form_split l 10 [84] [100, 100, 58, 100, 100, 58, 100, 100] 1 8 rfl
  have s7 := form_split l 11 [100, 100] [58, 100, 100, 58, 100, 100] 2 6 rfl
  have s8 := form_split l 13 [58] [100, 100, 58, 100, 100] 1 5 rfl
  have s9 := form_split l 14 [100, 100] [58, 100, 100] 2 3 rfl
  have s10 := form_split l 16 [58] [100, 100] 1 2 rfl
  simp only [List.cons_append, List.nil_append, Nat.reduceAdd, Nat.zero_add] at s1 s2 s3 s4 s5 s6 s7 s8 s9 s10
  have e0 : piece l 0 19 = l.take 19 := by simp [piece]
  rw [← e0] at h
  unfold FW at h
  rw [s1, s2, s3, s4, s5, s6, s7, s8, s9, s10] at h
  simp only [Bool.and_eq_true] at h
  exact ⟨h.1, h.2.2.1, h.2.2.2.2.1, h.2.2.2.2.2.2.1, h.2.2.2.2.2.2.2.2.1, h.2.2.2.2.2.2.2.2.2.2⟩
theorem piece_drop (l : List UInt8) (a k n : Nat) : piece (l.drop a) k n = piece l (a + k) n := by
  unfold piece
  rw [List.drop_drop]
theorem zone_bound (c : UInt8) (h m : Nat) (h1 : h ≤ 99) (h2 : m ≤ 99) : -10000 ≤ zoneV c h m ∧ zoneV c h m ≤ 10000 := by
  unfold zoneV
  split <;> omega

/-- A world that has only drawn since. -/
def Dr (w w' : World) : Prop := ∃ k, w' = w.drewN k
theorem Dr.trans {a b c : World} (h : Dr a b) (h2 : Dr b c) : Dr a c := by
  obtain ⟨k, rfl⟩ := h
  obtain ⟨j, rfl⟩ := h2
  exact ⟨k + j, by simp⟩

def ansP (p : Int × Int) : Ending := .returned (.tuple #[.int .i64 p.1, .int .i64 p.2])
set_option maxRecDepth 8000 in
set_option maxHeartbeats 3000000 in
theorem WebOf_any (s : ByteArray) (w : World) (hsz : s.size ≤ 140737488351232) :
    Calls Tryd.prog 7 #[.string s] w fun e w' => e = ansP (refWeb s.data.toList) ∧ Dr w w' := by
  obtain ⟨A, hA⟩ : ∃ A, refWeb s.data.toList = A := ⟨_, rfl⟩
  rw [hA]
  have L1 := len_size s
  unfold refWeb at hA
  unfold ansP
  rw [L1] at hA
  by_cases hl : s.size < 20
  · rw [if_pos hl] at hA
    have HA := hide hA
    clear hA L1
    go_enter Tryd.func7, Tryd.ntmps7
    go_wp2_with fail
    go_ret2
    exact ⟨by rw [← HA.out]; rfl, 0, rfl⟩
  · rw [if_neg hl] at hA
    have hf := hide (fun w => form_any (s.extract 0 19) ⟨FW.toArray⟩ w (by decide))
    have e19 : (s.extract 0 19).data.toList = s.data.toList.take 19 := by rw [ext_piece]; simp [piece]
    rw [e19, show (⟨FW.toArray⟩ : ByteArray).data.toList = FW from rfl] at hf
    unfold FW at hf hA
    cases hfv : formL (s.data.toList.take 19) FW
    · unfold FW at hfv
      rw [hfv] at hf
      rw [hfv, if_pos rfl] at hA
      have HA := hide hA
      clear hA hfv e19 L1
      go_enter Tryd.func7, Tryd.ntmps7
      go_wp2_with fail
      refine (hf.out _).mono ?_
      rintro e w1 ⟨rfl, k1, rfl⟩
      go_wp2_with fail
      go_ret2
      exact ⟨by rw [← HA.out]; rfl, k1, rfl⟩
    · --MAIN
      rw [show ([100, 100, 100, 100, 45, 100, 100, 45, 100, 100, 84, 100, 100, 58, 100, 100, 58, 100, 100] : List UInt8) = FW from rfl, hfv] at hf hA
      rw [if_neg (show ¬ (true = false) from by simp)] at hA
      obtain ⟨p1, p2, p3, p4, p5, p6⟩ := web_pieces _ hfv
      have b1 := nm_four _ _ p1
      have b2 := nm_two _ _ p2
      have b3 := nm_two _ _ p3
      have b4 := nm_two _ _ p4
      have b5 := nm_two _ _ p5
      have b6 := nm_two _ _ p6
      have N1 := hide (fun w => no_piece s 0 4 4 rfl (by omega) p1 w)
      have N2 := hide (fun w => no_piece s 5 7 2 rfl (by omega) p2 w)
      have N3 := hide (fun w => no_piece s 8 10 2 rfl (by omega) p3 w)
      have cd := ext_piece s 11 19
      have hC : (s.extract 11 19).size = 8 := by simp; omega
      have cp : ∀ k, k + 2 ≤ 8 → piece (s.extract 11 19).data.toList k 2 = piece s.data.toList (11 + k) 2 := fun k hk => by
        rw [cd]
        unfold piece
        rw [List.drop_take, List.take_take, List.drop_drop, Nat.min_eq_left (by omega)]
      have c1 := no_piece (s.extract 11 19) 0 2 2 rfl (by omega) (by rw [cp 0 (by omega)]; exact p4)
      have c2 := no_piece (s.extract 11 19) 3 5 2 rfl (by omega) (by rw [cp 3 (by omega)]; exact p5)
      have c3 := no_piece (s.extract 11 19) 6 8 2 rfl (by omega) (by rw [cp 6 (by omega)]; exact p6)
      rw [cp 0 (by omega)] at c1
      rw [cp 3 (by omega)] at c2
      rw [cp 6 (by omega)] at c3
      have T := hide (fun zone w hz1 hz2 => timeOf_any (nmL (piece s.data.toList 0 4)) (nmL (piece s.data.toList 5 2)) (nmL (piece s.data.toList 8 2)) (nmL (piece s.data.toList 11 2)) (nmL (piece s.data.toList 14 2)) (nmL (piece s.data.toList 17 2)) (s.extract 11 19) zone w hC b1 b2 b3 b4 b5 b6 hz1 hz2 c1 c2 c3)
      -- what is at the end
      have zd0 : (s.extract 19 s.size).data.toList = s.data.toList.drop 19 := Lib.extract_to_end s 19
      have zs0 : (s.extract 19 s.size).size = s.size - 19 := by simp
      have hfp := hide (fun w => form_any (s.extract 19 s.size) ⟨#[43, 100, 100, 58, 100, 100]⟩ w (by decide))
      have hfm := hide (fun w => form_any (s.extract 19 s.size) ⟨#[45, 100, 100, 58, 100, 100]⟩ w (by decide))
      rw [zd0] at hfp hfm
      have hz9 : (s.extract 19 s.size).toList = s.data.toList.drop 19 := by rw [ByteArray.toList_eq]; exact zd0
      have nz0 : ∀ a k, 19 + a = k → formL (piece s.data.toList k 2) [100, 100] = true → IsNo ((s.extract 19 s.size).extract a (a + 2)) (nmL (piece s.data.toList k 2)) := fun a k hk h => by
        have e : piece (s.extract 19 s.size).data.toList a 2 = piece s.data.toList k 2 := by rw [zd0, piece_drop, hk]
        have := no_piece (s.extract 19 s.size) a (a + 2) 2 (by omega) (by omega) (by rw [e]; exact h)
        rw [e] at this
        exact this
      have hz00 : ∀ h : 0 < (s.extract 19 s.size).size, (s.extract 19 s.size)[0] = s.data.toList.getD 19 0 := fun h => by
        have : (s.extract 19 s.size)[0] = (s.extract 19 s.size).data.toList.getD 0 0 := by
          rw [List.getD_eq_getElem?_getD, List.getElem?_eq_getElem (by rw [len_size]; exact h)]
          simp [ByteArray.getElem_eq_getElem_data]
        rw [this, zd0]
        simp [List.getD_eq_getElem?_getD, List.getElem?_drop]
      have hsign0 : ∀ c : UInt8, c ≠ 100 → c ≠ 97 → formL (s.data.toList.drop 19) [c, 100, 100, 58, 100, 100] = true → (s.extract 19 s.size).size = 6 ∧ (formL (piece s.data.toList 20 2) [100, 100] = true ∧ formL (piece s.data.toList 23 2) [100, 100] = true) ∧ s.data.toList.getD 19 0 = c := fun c h1 h2 h => by
        have hlen := formL_len _ _ h
        rw [List.length_drop, L1] at hlen
        rw [sign_form _ 19 c _ h1 h2 (by rw [L1]; omega)] at h
        simp only [Bool.and_eq_true, List.length_cons, List.length_nil, Nat.reduceAdd] at h
        have s7 := form_split s.data.toList 20 [100, 100] [58, 100, 100] 2 3 rfl
        have s8 := form_split s.data.toList 22 [58] [100, 100] 1 2 rfl
        simp only [List.cons_append, List.nil_append, Nat.reduceAdd] at s7 s8
        rw [s7, s8] at h
        simp only [Bool.and_eq_true] at h
        simp at hlen
        exact ⟨by rw [zs0]; omega, ⟨h.2.2.1, h.2.2.2.2⟩, eq_of_beq h.1⟩
      generalize hZE : s.extract 19 s.size = Z at *
      have NZ := hide nz0
      have HZ0 := hide hz00
      have HSG := hide hsign0
      have HZ9 := hide hz9
      have ZS := hide zs0
      clear nz0 hz00 hsign0 hz9 zs0 zd0 cp cd c1 c2 c3 p1 p2 p3 p4 p5 p6 hfv e19
      cases hvp : formL (s.data.toList.drop 19) [43, 100, 100, 58, 100, 100]
      · rw [show (⟨#[43, 100, 100, 58, 100, 100]⟩ : ByteArray).data.toList = [43, 100, 100, 58, 100, 100] from rfl, hvp] at hfp
        cases hvm : formL (s.data.toList.drop 19) [45, 100, 100, 58, 100, 100]
        · rw [show (⟨#[45, 100, 100, 58, 100, 100]⟩ : ByteArray).data.toList = [45, 100, 100, 58, 100, 100] from rfl, hvm] at hfm
          rw [hvp, hvm, if_neg (show ¬ ((false || false) = true) from by simp)] at hA
          by_cases h90 : s.data.toList.drop 19 = [90]
          · rw [if_pos h90] at hA
            have t90 : (Z.toList == [90]) = true := by rw [HZ9.out, h90]; rfl
            have HA := hide hA
            have HT := hide (fun w => T.out 0 w (by omega) (by omega))
            rw [HA.out] at HT
            clear hA h90 hvp hvm T HSG NZ HZ0 HZ9 ZS L1 b1 b2 b3 b4 b5 b6 hC
            go_enter Tryd.func7, Tryd.ntmps7
            go_wp2_with fail
            refine (hf.out _).mono ?_
            rintro e w1 ⟨rfl, hk1⟩
            go_wp2_with fail
            refine (hfp.out _).mono ?_
            rintro e w2 ⟨rfl, hk2⟩
            go_wp2_with fail
            refine (hfm.out _).mono ?_
            rintro e w3 ⟨rfl, hk3⟩
            go_wp2_with fail
            go_quiet (first | (go_at_call 21; with_reducible exact Calls.quiet_of_same (N1.out _)) | (go_at_call 21; with_reducible exact Calls.quiet_of_same (N2.out _)) | (go_at_call 21; with_reducible exact Calls.quiet_of_same (N3.out _)) | (go_at_call 20; exact Calls.quiet_of (HT.out _)))
            go_wp2_with fail
            go_ret2
            exact ⟨by rw [← HA.out]; rfl, Dr.trans (Dr.trans (Dr.trans hk1 hk2) hk3) ⟨_, rfl⟩⟩
          · rw [if_neg h90] at hA
            have t90 : (Z.toList == [90]) = false := by rw [HZ9.out]; simpa using h90
            have HA := hide hA
            clear hA h90 hvp hvm T HSG NZ HZ0 HZ9 ZS L1 b1 b2 b3 b4 b5 b6 hC
            go_enter Tryd.func7, Tryd.ntmps7
            go_wp2_with fail
            refine (hf.out _).mono ?_
            rintro e w1 ⟨rfl, hk1⟩
            go_wp2_with fail
            refine (hfp.out _).mono ?_
            rintro e w2 ⟨rfl, hk2⟩
            go_wp2_with fail
            refine (hfm.out _).mono ?_
            rintro e w3 ⟨rfl, hk3⟩
            go_wp2_with fail
            go_ret2
            exact ⟨by rw [← HA.out]; rfl, Dr.trans (Dr.trans hk1 hk2) hk3⟩
        · rw [show (⟨#[45, 100, 100, 58, 100, 100]⟩ : ByteArray).data.toList = [45, 100, 100, 58, 100, 100] from rfl, hvm] at hfm
          rw [hvp, hvm, if_pos (show (false || true) = true from rfl)] at hA
          obtain ⟨z6, zq, zc⟩ := HSG.out 45 (by decide) (by decide) hvm
          have nz1 := NZ.out 1 20 (by omega) zq.1
          have nz2 := NZ.out 4 23 (by omega) zq.2
          have bz1 := nm_two _ _ zq.1
          have bz2 := nm_two _ _ zq.2
          have zpos : 0 < Z.size := by omega
          have zcb := HZ0.out zpos
          have HZ := hide (fun w => zoneOf_any Z[0] (Z.extract 1 3) (Z.extract 4 6) (nmL (piece s.data.toList 20 2)) (nmL (piece s.data.toList 23 2)) w nz1 nz2 bz1 bz2)
          obtain ⟨zb1, zb2⟩ := zone_bound Z[0] (nmL (piece s.data.toList 20 2)) (nmL (piece s.data.toList 23 2)) bz1 bz2
          have HT := hide (fun w => T.out (zoneV Z[0] (nmL (piece s.data.toList 20 2)) (nmL (piece s.data.toList 23 2))) w zb1 zb2)
          rw [← zcb] at hA
          have t90 : (Z.toList == [90]) = false := by
            rw [HZ9.out, beq_eq_false_iff_ne]
            intro h
            have h2 := congrArg List.length h
            rw [List.length_drop, L1] at h2
            have h3 := ZS.out
            rw [z6] at h3
            simp at h2
            omega
          clear HZ9 ZS HSG NZ HZ0 T hC b1 b2 b3 b4 b5 b6 zq bz1 bz2 nz1 nz2 L1 hvp hvm
          generalize zoneV Z[0] (nmL (piece s.data.toList 20 2)) (nmL (piece s.data.toList 23 2)) = zz at *
          clear zcb zc
          cases hzb : zoneB (nmL (piece s.data.toList 20 2)) (nmL (piece s.data.toList 23 2))
          · rw [hzb] at HZ hA
            rw [if_neg (by simp)] at hA
            have HA := hide hA
            clear hA hzb
            go_enter Tryd.func7, Tryd.ntmps7
            go_wp2_with fail
            refine (hf.out _).mono ?_
            rintro e w1 ⟨rfl, hk1⟩
            go_wp2_with fail
            refine (hfp.out _).mono ?_
            rintro e w2 ⟨rfl, hk2⟩
            go_wp2_with fail
            refine (hfm.out _).mono ?_
            rintro e w3 ⟨rfl, hk3⟩
            go_wp2_with fail
            go_quiet ((go_at_call 19; with_reducible exact Calls.quiet_of_same (HZ.out _)))
            generalize hWW : World.drewN w3 nq = W5 at *
            have hk5 : Dr w3 W5 := ⟨nq, hWW.symm⟩
            clear hWW
            go_wp2_with fail
            go_ret2
            exact ⟨by rw [← HA.out]; rfl, (Dr.trans (Dr.trans (Dr.trans hk1 hk2) hk3) hk5)⟩
          · rw [hzb] at HZ hA
            rw [if_pos rfl] at hA
            have HA := hide hA
            rw [HA.out] at HT
            clear hA hzb
            go_enter Tryd.func7, Tryd.ntmps7
            go_wp2_with fail
            refine (hf.out _).mono ?_
            rintro e w1 ⟨rfl, hk1⟩
            go_wp2_with fail
            refine (hfp.out _).mono ?_
            rintro e w2 ⟨rfl, hk2⟩
            go_wp2_with fail
            refine (hfm.out _).mono ?_
            rintro e w3 ⟨rfl, hk3⟩
            go_wp2_with fail
            go_quiet ((go_at_call 19; with_reducible exact Calls.quiet_of_same (HZ.out _)))
            generalize hWW : World.drewN w3 nq = W5 at *
            have hk5 : Dr w3 W5 := ⟨nq, hWW.symm⟩
            clear hWW
            go_wp2_with fail
            go_quiet (first | (go_at_call 21; with_reducible exact Calls.quiet_of_same (N1.out _)) | (go_at_call 21; with_reducible exact Calls.quiet_of_same (N2.out _)) | (go_at_call 21; with_reducible exact Calls.quiet_of_same (N3.out _)) | (go_at_call 20; exact Calls.quiet_of (HT.out _)))
            go_wp2_with fail
            go_ret2
            exact ⟨by rw [← HA.out]; rfl, Dr.trans (Dr.trans (Dr.trans (Dr.trans hk1 hk2) hk3) hk5) ⟨_, rfl⟩⟩
      · rw [show (⟨#[43, 100, 100, 58, 100, 100]⟩ : ByteArray).data.toList = [43, 100, 100, 58, 100, 100] from rfl, hvp] at hfp
        rw [hvp, if_pos (show (true || _) = true from rfl)] at hA
        obtain ⟨z6, zq, zc⟩ := HSG.out 43 (by decide) (by decide) hvp
        have nz1 := NZ.out 1 20 (by omega) zq.1
        have nz2 := NZ.out 4 23 (by omega) zq.2
        have bz1 := nm_two _ _ zq.1
        have bz2 := nm_two _ _ zq.2
        have zpos : 0 < Z.size := by omega
        have zcb := HZ0.out zpos
        have HZ := hide (fun w => zoneOf_any Z[0] (Z.extract 1 3) (Z.extract 4 6) (nmL (piece s.data.toList 20 2)) (nmL (piece s.data.toList 23 2)) w nz1 nz2 bz1 bz2)
        obtain ⟨zb1, zb2⟩ := zone_bound Z[0] (nmL (piece s.data.toList 20 2)) (nmL (piece s.data.toList 23 2)) bz1 bz2
        have HT := hide (fun w => T.out (zoneV Z[0] (nmL (piece s.data.toList 20 2)) (nmL (piece s.data.toList 23 2))) w zb1 zb2)
        rw [← zcb] at hA
        have t90 : (Z.toList == [90]) = false := by
          rw [HZ9.out, beq_eq_false_iff_ne]
          intro h
          have h2 := congrArg List.length h
          rw [List.length_drop, L1] at h2
          have h3 := ZS.out
          rw [z6] at h3
          simp at h2
          omega
        clear HZ9 ZS HSG NZ HZ0 T hC b1 b2 b3 b4 b5 b6 zq bz1 bz2 nz1 nz2 L1 hvp
        generalize zoneV Z[0] (nmL (piece s.data.toList 20 2)) (nmL (piece s.data.toList 23 2)) = zz at *
        clear zcb zc
        cases hzb : zoneB (nmL (piece s.data.toList 20 2)) (nmL (piece s.data.toList 23 2))
        · rw [hzb] at HZ hA
          rw [if_neg (by simp)] at hA
          have HA := hide hA
          clear hA hzb
          go_enter Tryd.func7, Tryd.ntmps7
          go_wp2_with fail
          refine (hf.out _).mono ?_
          rintro e w1 ⟨rfl, hk1⟩
          go_wp2_with fail
          refine (hfp.out _).mono ?_
          rintro e w2 ⟨rfl, hk2⟩
          go_wp2_with fail
          go_quiet ((go_at_call 19; with_reducible exact Calls.quiet_of_same (HZ.out _)))
          generalize hWW : World.drewN w2 nq = W5 at *
          have hk5 : Dr w2 W5 := ⟨nq, hWW.symm⟩
          clear hWW
          go_wp2_with fail
          go_ret2
          exact ⟨by rw [← HA.out]; rfl, (Dr.trans (Dr.trans hk1 hk2) hk5)⟩
        · rw [hzb] at HZ hA
          rw [if_pos rfl] at hA
          have HA := hide hA
          rw [HA.out] at HT
          clear hA hzb
          go_enter Tryd.func7, Tryd.ntmps7
          go_wp2_with fail
          refine (hf.out _).mono ?_
          rintro e w1 ⟨rfl, hk1⟩
          go_wp2_with fail
          refine (hfp.out _).mono ?_
          rintro e w2 ⟨rfl, hk2⟩
          go_wp2_with fail
          go_quiet ((go_at_call 19; with_reducible exact Calls.quiet_of_same (HZ.out _)))
          generalize hWW : World.drewN w2 nq = W5 at *
          have hk5 : Dr w2 W5 := ⟨nq, hWW.symm⟩
          clear hWW
          go_wp2_with fail
          go_quiet (first | (go_at_call 21; with_reducible exact Calls.quiet_of_same (N1.out _)) | (go_at_call 21; with_reducible exact Calls.quiet_of_same (N2.out _)) | (go_at_call 21; with_reducible exact Calls.quiet_of_same (N3.out _)) | (go_at_call 20; exact Calls.quiet_of (HT.out _)))
          go_wp2_with fail
          go_ret2
          exact ⟨by rw [← HA.out]; rfl, Dr.trans (Dr.trans (Dr.trans hk1 hk2) hk5) ⟨_, rfl⟩⟩
end Go.Proofs.YtngojdajamgabadDoor
