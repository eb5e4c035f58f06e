/- UrlSafe. -/
import Derived.Test.YtaeblkmkpfklkacUrlM
import Derived.Deep.DeepCutAuto
import Derived.BigRegion
namespace Go.Proofs.Ytaeblkmkpfklkac
open Go.RowKit

theorem enters11 : Enters 11 := enters_of Try.func11 (by kernel_rfl) (by kernel_rfl)

theorem app_lists (x y : List UInt8) : ((⟨x.toArray⟩ ++ ⟨y.toArray⟩ : ByteArray)) = ⟨(x ++ y).toArray⟩ := by
  apply WideShapes.bytes_inj
  show ((⟨x.toArray⟩ ++ ⟨y.toArray⟩ : ByteArray)).data.toList = _
  rw [ByteArray.data_append, Array.toList_append]

theorem conv_one (W : World) (c : UInt8) : (convert 36 9 (.slice (some ⟨W.heap.size, 0, none⟩) 1 1)).run Try.prog (W.alloc (.cells #[.int .u8 (c.toNat : Int)] 5)) = .ok (.string ⟨#[c]⟩) (W.alloc (.cells #[.int .u8 (c.toNat : Int)] 5)) :=
  run_convert_bytes_back _ 36 9 5 ⟨W.heap.size, 0, none⟩ 1 [c] Try.underlying36 Try.underlying5 Try.underlying9 (fun j hj => by
    have : j = 0 := by simp at hj; exact hj
    subst this
    rw [add_zero, Lib.cell_of_heap (heap_alloc_new W _)]
    rfl)

theorem up_val (c : UInt8) (h : smallB c = true) : ((upB c).toNat : Int) = (c.toNat : Int) - 32 := by
  have hb : 97 ≤ c.toNat ∧ c.toNat ≤ 122 := by simpa [smallB] using h
  unfold upB
  rw [if_pos h, UInt8.toNat_sub_of_le]
  · have : (32 : UInt8).toNat = 32 := rfl
    omega
  · rw [UInt8.le_iff_toNat_le]
    have : (32 : UInt8).toNat = 32 := rfl
    omega

theorem upper_take (l : List UInt8) (k : Nat) (h : k < l.length) : upperL (l.take (k + 1)) = upperL (l.take k) ++ [upB l[k]] := by
  unfold upperL
  rw [List.take_succ_eq_append_getElem h, List.map_append]
  rfl

set_option maxRecDepth 8000 in
set_option maxHeartbeats 40000000 in
theorem safeLaw_any (s : ByteArray) (at' : Int) (w : World) (h1 : s.size ≤ maxLen) (_ : (Lit.int .i64 at').wf = true) (hM : HasMax w) :
    Calls Try.prog 5 #[.string s, .int .i64 at'] w fun e w' => e = .returned (.bool true) ∧ Keeps [] w w' := by
  by_cases hs : 3000 < s.size
  · have sf := hide (fun w => safe_long s w h1 hs)
    go_enter Try.func5, Try.ntmps5
    go_wp2_with fail
    refine (sf.out _).mono ?_
    rintro e w1 ⟨rfl, rfl⟩
    go_wp2_with fail
    refine (urlBegun_any _ hM).mono ?_
    rintro e w2 ⟨rfl, hk2⟩
    go_wp2_with fail
    go_ret
    exact ⟨by simp, hk2⟩
  · have sf := hide (fun w hM => safe_any s w (by omega) hM)
    obtain ⟨ok, hok⟩ : ∃ ok, safeL s.data.toList = ok := ⟨_, rfl⟩
    rw [hok] at sf
    have HOK := hide hok
    clear hok
    by_cases ha : at' < 0
    · have hd : decide (at' < 0) = true := by simpa using ha
      go_enter Try.func5, Try.ntmps5
      go_wp2_with fail
      refine (sf.out _ hM).mono ?_
      rintro e w1 ⟨rfl, hk1⟩
      go_wp2_with fail
      refine (urlBegun_any _ (hM.keeps hk1 (by simp))).mono ?_
      rintro e w2 ⟨rfl, hk2⟩
      go_wp2_with fail
      go_ret
      exact ⟨by simp, hk1.trans hk2⟩
    · obtain ⟨k, rfl⟩ : ∃ k : Nat, at' = k := ⟨at'.toNat, by omega⟩
      have hd : decide ((k : Int) < 0) = false := by simp
      by_cases hk : s.size < k
      · have hd2 : decide ((s.size : Int) < (k : Int)) = true := by simpa using hk
        go_enter Try.func5, Try.ntmps5
        go_wp2_with fail
        refine (sf.out _ hM).mono ?_
        rintro e w1 ⟨rfl, hk1⟩
        go_wp2_with fail
        refine (urlBegun_any _ (hM.keeps hk1 (by simp))).mono ?_
        rintro e w2 ⟨rfl, hk2⟩
        go_wp2_with fail
        go_ret
        exact ⟨by simp, hk1.trans hk2⟩
      · have hd2 : decide ((s.size : Int) < (k : Int)) = false := by simp; omega
        by_cases hz : s.size = 3000
        · have hd3 : decide ((3000 : Int) ≤ (s.size : Int)) = true := by simp; omega
          have HZ := hide hz
          clear hz
          go_enter Try.func5, Try.ntmps5
          go_wp2_with fail
          refine (sf.out _ hM).mono ?_
          rintro e w1 ⟨rfl, hk1⟩
          go_wp2_with fail
          refine (urlBegun_any _ (hM.keeps hk1 (by simp))).mono ?_
          rintro e w2 ⟨rfl, hk2⟩
          go_wp2_with fail
          go_ret
          exact ⟨by simp, hk1.trans hk2⟩
        · have hd3 : decide ((3000 : Int) ≤ (s.size : Int)) = false := by simp; omega
          have hsz : s.size < 3000 := by omega
          have hkk : k ≤ s.size := by omega
          have sa : Hid (∀ w, HasMax w → Calls Try.prog 11 #[.string (s.extract 0 k ++ ⟨#[10]⟩ ++ s.extract k s.size)] w fun e w' => e = .returned (.tuple #[.bool ok, .int .i64 0]) ∧ Keeps [] w w') := fun w hM => by
            have hl : (s.extract 0 k ++ ⟨#[10]⟩ ++ s.extract k s.size).data.toList = s.data.toList.take k ++ 10 :: s.data.toList.drop k := by
              rw [ByteArray.data_append, ByteArray.data_append, Array.toList_append, Array.toList_append, Lib.extract_data, Lib.extract_to_end]
              simp
            have hsz2 : (s.extract 0 k ++ ⟨#[10]⟩ ++ s.extract k s.size).size ≤ 3000 := by
              rw [← len_size, hl]
              have := len_size s
              simp
              omega
            have := safe_any (s.extract 0 k ++ ⟨#[10]⟩ ++ s.extract k s.size) w hsz2 hM
            rw [hl, safe_blank, List.take_append_drop, HOK.out] at this
            exact this
          have sb : Hid (∀ w, HasMax w → Calls Try.prog 11 #[.string ⟨(upperL s.data.toList).toArray⟩] w fun e w' => e = .returned (.tuple #[.bool ok, .int .i64 0]) ∧ Keeps [] w w') := fun w hM => by
            have := safe_any ⟨(upperL s.data.toList).toArray⟩ w (by rw [str_size]; simp [upperL]; omega) hM
            rw [str_list, safe_upper, HOK.out] at this
            exact this
          have sc : Hid (∀ w, HasMax w → Calls Try.prog 11 #[.string (⟨#[47]⟩ ++ s)] w fun e w' => e = .returned (.tuple #[.bool false, .int .i64 0]) ∧ Keeps [] w w') := fun w hM => by
            have hl : ((⟨#[47]⟩ ++ s : ByteArray)).data.toList = 47 :: s.data.toList := by
              rw [ByteArray.data_append, Array.toList_append]
              rfl
            have := safe_any (⟨#[47]⟩ ++ s) w (by rw [← len_size, hl]; have := len_size s; simp; omega) hM
            rw [hl, safe_slash] at this
            exact this
          clear HOK
          go_enter Try.func5, Try.ntmps5
          go_wp2_with fail
          refine (sf.out _ hM).mono ?_
          rintro e w1 ⟨rfl, hk1⟩
          go_wp2_with fail
          refine (urlBegun_any _ (hM.keeps hk1 (by simp))).mono ?_
          rintro e w2 ⟨rfl, hk2⟩
          have hK2 := hk1.trans hk2
          have hM2 := hM.keeps hK2 (by simp)
          have hex : (s.extract 0 k).size = k := by simp; omega
          have hex2 : (s.extract k s.size).size = s.size - k := by simp
          have hs1 : ¬ 9223372036854775807 < k + 1 := by omega
          have hs2 : ¬ 9223372036854775807 < k + 1 + (s.size - k) := by omega
          go_upto_region 6 with fail
          go_cut [7, 8] from 46 to 57 (fun a f wc => a = .bool ok ∧ f = .int .i64 0 ∧ Keeps [] w wc)
          case first =>
            go_region_with (go_at_call 11; refine (sa.out _ (by exact hM2)).mono ?_; rintro e w3 ⟨rfl, hk3⟩)
            all_goals go_wp2
            all_goals go_meet
            all_goals exact ⟨rfl, rfl, hK2.trans (keeps_drew hk3)⟩
          case rest =>
            obtain ⟨rfl, rfl, hKc⟩ := hcut
            clear sf sa hK2 hM2
            have hMc := hM.keeps hKc (by simp)
            go_wp2_with fail
            go_loopw [9, 10] (fun u i wr => ∃ j : Nat, j ≤ s.size ∧ i = .int .i64 j ∧ u = .string ⟨(upperL (s.data.toList.take j)).toArray⟩ ∧ Keeps [] w wr) (fun _ i _ => s.size - (intOf i).toNat)
            case atStart => exact ⟨0, Nat.zero_le _, rfl, by simp [upperL], hKc⟩
            case round =>
              obtain ⟨j, hj, rfl, rfl, hKj⟩ := hrel
              by_cases hlt : j < s.size
              · have hlj : j < s.data.toList.length := by rw [len_size]; exact hlt
                have HU := hide (upper_take s.data.toList j hlj)
                have hul : (upperL (s.data.toList.take j)).length ≤ 3000 := by
                  have h1 : (s.data.toList.take j).length ≤ s.data.toList.length := (List.take_sublist _ _).length_le
                  have h2 := len_size s
                  unfold upperL
                  rw [List.length_map]
                  omega
                have hgj : s.data.toList[j] = s[j] := rfl
                rw [hgj] at HU
                have hcv := conv_one wr (upB s[j])
                have hap := app_lists (upperL (s.data.toList.take j)) [upB s[j]]
                have HAP := hide hap
                clear hgj hap
                generalize upperL (s.data.toList.take j) = Y at *
                have hsum : ¬ 9223372036854775807 < Y.length + 1 := by omega
                cases hsm : smallB s[j]
                · have hup : upB s[j] = s[j] := by unfold upB; rw [hsm]; rfl
                  rw [hup] at hcv HU HAP
                  have h97 : (97 ≤ s[j].toNat ∧ s[j].toNat ≤ 122) → False := fun hh => by
                    have : smallB s[j] = true := by simpa [smallB] using hh
                    rw [this] at hsm; simp at hsm
                  clear hup hsm
                  by_cases hge : 97 ≤ s[j].toNat
                  · have hgt : 122 < s[j].toNat := by
                      rcases Nat.lt_or_ge 122 s[j].toNat with h | h
                      · exact h
                      · exact absurd ⟨hge, h⟩ h97
                    have e1 : decide ((97 : Int) ≤ (s[j].toNat : Int)) = true := by simp; omega
                    have e2 : decide ((s[j].toNat : Int) ≤ 122) = false := by simp; omega
                    clear h97
                    go_wp2_with fail
                    go_roundw
                    case rel => exact ⟨j + 1, by omega, by go_num, by rw [HU.out, ← HAP.out], hKj.alloc _⟩
                    case measure => simp [intOf]; omega
                  · have e1 : decide ((97 : Int) ≤ (s[j].toNat : Int)) = false := by simp; omega
                    clear h97
                    go_wp2_with fail
                    go_roundw
                    case rel => exact ⟨j + 1, by omega, by go_num, by rw [HU.out, ← HAP.out], hKj.alloc _⟩
                    case measure => simp [intOf]; omega
                · have hv := up_val s[j] hsm
                  have h97 : 97 ≤ s[j].toNat ∧ s[j].toNat ≤ 122 := by simpa [smallB] using hsm
                  rw [hv] at hcv
                  generalize upB s[j] = d at *
                  have e1 : decide ((97 : Int) ≤ (s[j].toNat : Int)) = true := by simp; omega
                  have e2 : decide ((s[j].toNat : Int) ≤ 122) = true := by simp; omega
                  clear hsm hv
                  go_wp2_with fail
                  go_roundw
                  case rel => exact ⟨j + 1, by omega, by go_num, by rw [HU.out, ← HAP.out], hKj.alloc _⟩
                  case measure => simp [intOf]; omega
              · have he : s.data.toList.take j = s.data.toList := List.take_of_length_le (by rw [len_size]; omega)
                rw [he]
                have hMj := hM.keeps hKj (by simp)
                clear he
                generalize upperL s.data.toList = Y at *
                go_wp2_with fail
                refine (sb.out _ hMj).mono ?_
                rintro e w5 ⟨rfl, hk5⟩
                have hK5 := hKj.trans hk5
                go_wp2_with fail
                refine (sc.out _ (hM.keeps hK5 (by simp))).mono ?_
                rintro e w6 ⟨rfl, hk6⟩
                go_wp2_with fail
                go_ret
                exact ⟨by simp, hK5.trans hk6⟩
end Go.Proofs.Ytaeblkmkpfklkac
