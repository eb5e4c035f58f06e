/- TokenPlain: a text without < and & is a text by itself; a comment behind it is nothing. -/
import Derived.Test.YtaeblkmkpfklkaaPlainMath
namespace Go.Proofs.Ytaeblkmkpfklkaa
open Go.RowKit Go.Maps

theorem str_back (s : ByteArray) : (⟨s.data.toList.toArray⟩ : ByteArray) = s := WideShapes.bytes_inj (by simp)

theorem read_want (x : ByteArray) (w : World) (hl : x.size ≤ 3000) (hM : HasMax w) (ts : List Tok) (h : readL x.data.toList = ts) :
    Calls Try.prog 16 #[.string x] w fun e w' => ∃ v, e = .returned (.tuple #[v, .int .i64 0]) ∧ Toks w' v ts ∧ Keeps [] w w' := by
  refine (read_some x w hl hM).mono ?_
  rintro e w' ⟨v, he, ht, hk⟩
  rw [h] at ht
  exact ⟨v, he, ht.toks, hk⟩

theorem mem_byte {s : ByteArray} {P : UInt8 → Prop} (h : ∀ j, j < s.size → P (byteAt s j)) : ∀ x ∈ s.data.toList, P x := by
  intro x hx
  obtain ⟨i, hi, rfl⟩ := List.getElem_of_mem hx
  have hi' : i < s.size := by simpa using hi
  have := h i hi'
  rw [byteAt_eq s i hi'] at this
  exact this

theorem want_some (w1 : World) (s : ByteArray) (h : s.data.toList ≠ []) : Toks (w1.alloc (.cells #[.int .i64 1, .string ⟨#[]⟩, .slice none 0 0, .string s] 43)) (.slice (some ⟨w1.heap.size, 0, none⟩) 1 1) (wantL s.data.toList) := by
  have hL := lies_new w1 #[.int .i64 1, .string ⟨#[]⟩, .slice none 0 0, .string s] 43 1 4 (by decide) rfl
  refine ⟨[(textTok s.data.toList, .slice none 0 0)], by unfold wantL; rw [if_neg h]; rfl, ?_, by intro p hp; simp at hp; subst hp; exact ⟨rfl, .inl ⟨rfl, rfl⟩⟩⟩
  have e : outCells [(textTok s.data.toList, .slice none 0 0)] = [.int .i64 1, .string ⟨#[]⟩, .slice none 0 0, .string s] := by
    simp [outCells, tokCells, textTok]
  rw [e]
  exact hL

set_option maxRecDepth 8000 in
set_option maxHeartbeats 8000000 in
theorem plain_any (s c : ByteArray) (hs : s.size ≤ 140737488351232) (hc : c.size ≤ 140737488351232) (w : World) (hM : HasMax w) :
    Calls Try.prog 8 #[.string s, .string c] w fun e w' => e = .returned (.bool true) ∧ Keeps [] w w' := by
  go_enter Try.func8, Try.ntmps8
  go_wp2_with fail
  refine (tokenBegun_any _ hM).mono ?_
  rintro e w1 ⟨rfl, hk1⟩
  have hM1 := hM.keeps hk1 List.not_mem_nil
  clear hM
  go_wp2_with fail
  go_loop [5] (fun i => ∃ k : Nat, k ≤ s.size ∧ i = .int .i64 k ∧ Hid (∀ j, j < k → byteAt s j ≠ 60 ∧ byteAt s j ≠ 38)) (fun i => s.size - (intOf i).toNat)
  case atStart => exact ⟨0, Nat.zero_le _, rfl, fun j hj => absurd hj (Nat.not_lt_zero _)⟩
  case round =>
    obtain ⟨k, hk, rfl, hH⟩ := hrel
    by_cases hlt : k < s.size
    · by_cases h60 : byteAt s k = 60
      · have e60 : ((s[k].toNat : Int) == 60) = true := by rw [← byteAt_eq s k hlt, h60]; rfl
        go_wp2_with fail
        go_ret
        exact ⟨rfl, hk1⟩
      · have e60 : ((s[k].toNat : Int) == 60) = false := by rw [← byteAt_eq s k hlt]; exact byte_no (d := 60) rfl h60
        by_cases h38 : byteAt s k = 38
        · have e38 : ((s[k].toNat : Int) == 38) = true := by rw [← byteAt_eq s k hlt, h38]; rfl
          go_wp2_with fail
          go_ret
          exact ⟨rfl, hk1⟩
        · have e38 : ((s[k].toNat : Int) == 38) = false := by rw [← byteAt_eq s k hlt]; exact byte_no (d := 38) rfl h38
          have hH' : Hid (∀ j, j < k + 1 → byteAt s j ≠ 60 ∧ byteAt s j ≠ 38) := fun j hj => by
            by_cases hjk : j = k
            · subst hjk; exact ⟨h60, h38⟩
            · exact hH.out j (by omega)
          go_wp2_with fail
          go_round
          case rel => exact ⟨k + 1, by omega, by go_num, hH'⟩
          case measure => simp [intOf]; omega
    · have hS := hide (fun j (hj : j < s.size) => hH.out j (by omega))
      clear hH
      go_wp2_with fail
      go_loop [6] (fun i => ∃ k : Nat, k ≤ c.size ∧ i = .int .i64 k ∧ Hid (∀ j, j < k → byteAt c j ≠ 62)) (fun i => c.size - (intOf i).toNat)
      case atStart => exact ⟨0, Nat.zero_le _, rfl, fun j hj => absurd hj (Nat.not_lt_zero _)⟩
      case round =>
        obtain ⟨m, hm, rfl, hH2⟩ := hrel
        by_cases hlt2 : m < c.size
        · by_cases h62 : byteAt c m = 62
          · have e62 : ((c[m].toNat : Int) == 62) = true := by rw [← byteAt_eq c m hlt2, h62]; rfl
            go_wp2_with fail
            go_ret
            exact ⟨rfl, hk1⟩
          · have e62 : ((c[m].toNat : Int) == 62) = false := by rw [← byteAt_eq c m hlt2]; exact byte_no (d := 62) rfl h62
            have hH' : Hid (∀ j, j < m + 1 → byteAt c j ≠ 62) := fun j hj => by
              by_cases hjk : j = m
              · subst hjk; exact h62
              · exact hH2.out j (by omega)
            go_wp2_with fail
            go_round
            case rel => exact ⟨m + 1, by omega, by go_num, hH'⟩
            case measure => simp [intOf]; omega
        · have hC := hide (fun j (hj : j < c.size) => hH2.out j (by omega))
          clear hH2
          by_cases hbig : 3000 < s.size + c.size + 7
          · have hgt : decide ((3000 : Int) < (s.size : Int) + (c.size : Int) + 7) = true := by simp; omega
            go_wp2_with fail
            go_ret
            exact ⟨rfl, hk1⟩
          · have hgt : decide ((3000 : Int) < (s.size : Int) + (c.size : Int) + 7) = false := by simp; omega
            have m60 : ∀ x ∈ s.data.toList, x ≠ 60 := mem_byte (fun j hj => (hS.out j hj).1)
            have m38 : ∀ x ∈ s.data.toList, x ≠ 38 := mem_byte (fun j hj => (hS.out j hj).2)
            have m62 : ∀ x ∈ c.data.toList, x ≠ 62 := mem_byte (fun j hj => hC.out j hj)
            have htk : (takeL s.data.toList).1 = s.data.toList := by rw [takeL_plain _ m38]
            have rA := hide (fun (w : World) hM => read_want s w (by omega) hM _ (read_plain _ m60 htk))
            have rB := hide (fun (w : World) hM => read_want (s ++ ⟨#[60, 33, 45, 45]⟩ ++ c ++ ⟨#[45, 45, 62]⟩) w (by have a : (⟨#[60, 33, 45, 45]⟩ : ByteArray).size = 4 := rfl; have b : (⟨#[45, 45, 62]⟩ : ByteArray).size = 3 := rfl; simp only [ByteArray.size_append]; omega) hM (wantL s.data.toList) (by simpa using read_comment _ _ m60 htk m62))
            have rC := hide (fun (w : World) hM => read_want (⟨#[60, 63]⟩ ++ c ++ ⟨#[62]⟩ ++ s) w (by have a : (⟨#[60, 63]⟩ : ByteArray).size = 2 := rfl; have b : (⟨#[62]⟩ : ByteArray).size = 1 := rfl; simp only [ByteArray.size_append]; omega) hM (wantL s.data.toList) (by simpa using read_decl _ _ m60 htk m62))
            have z1 : ¬ 9223372036854775807 < s.size + 4 := by omega
            have z2 : ¬ 9223372036854775807 < s.size + 4 + c.size := by omega
            have z3 : ¬ 9223372036854775807 < s.size + 4 + c.size + 3 := by omega
            have z4 : ¬ 9223372036854775807 < 2 + c.size := by omega
            have z5 : ¬ 9223372036854775807 < 2 + c.size + 1 := by omega
            have z6 : ¬ 9223372036854775807 < 2 + c.size + 1 + s.size := by omega
            clear m60 m38 m62 htk hS hC
            by_cases hemp : s.data.toList = []
            · have hE : s.toList.isEmpty = true := by rw [ByteArray.toList_eq, hemp]; rfl
              have htw : Toks w1 (.slice none 0 0) (wantL s.data.toList) := by
                rw [hemp]
                exact ⟨[], rfl, ⟨rfl, .inl ⟨rfl, rfl⟩⟩, by simp⟩
              have hMW := hM1
              have hkW := hk1
              generalize wantL s.data.toList = T at *
              clear hemp
              go_wp2_with fail
              refine (rA.out _ hMW).mono ?_
              rintro e w2 ⟨v2, rfl, ht2, hk2⟩
              have hM2 := hMW.keeps hk2 List.not_mem_nil
              go_wp2_with fail
              refine (rB.out _ hM2).mono ?_
              rintro e w3 ⟨v3, rfl, ht3, hk3⟩
              have hM3 := hM2.keeps hk3 List.not_mem_nil
              go_wp2_with fail
              refine (rC.out _ hM3).mono ?_
              rintro e w4 ⟨v4, rfl, ht4, hk4⟩
              have htw4 := ((htw.keeps hk2).keeps hk3).keeps hk4
              have ht2' := (ht2.keeps hk3).keeps hk4
              have ht3' := ht3.keeps hk4
              go_wp2_with fail
              refine (sameTokens_eq _ v2 _ _ ht2' htw4).mono ?_
              rintro e w5 ⟨rfl, n5, rfl⟩
              have kd5 := (Keeps.refl [] w4).drewN n5
              go_wp2_with fail
              refine (sameTokens_eq _ v3 _ _ (ht3'.keeps kd5) (htw4.keeps kd5)).mono ?_
              rintro e w6 ⟨rfl, n6, rfl⟩
              have kd6 := (Keeps.refl [] w4).drewN (n5 + n6)
              go_wp2_with fail
              refine (sameTokens_eq _ v4 _ _ (ht4.keeps kd6) (htw4.keeps kd6)).mono ?_
              rintro e w7 ⟨rfl, n7, rfl⟩
              go_wp2_with fail
              go_ret
              exact ⟨rfl, (((hkW.trans hk2).trans hk3).trans hk4).trans ((Keeps.refl _ _).drewN _)⟩
            · have hE : s.toList.isEmpty = false := by
                rw [ByteArray.toList_eq]
                cases hq : s.data.toList with
                | nil => exact absurd hq hemp
                | cons a b => rfl
              have htw := want_some w1 s hemp
              have hkW : Keeps [] w (w1.alloc (.cells #[.int .i64 1, .string ⟨#[]⟩, .slice none 0 0, .string s] 43)) := hk1.alloc _
              have hMW := hM1.keeps ((Keeps.refl [] w1).alloc (.cells #[.int .i64 1, .string ⟨#[]⟩, .slice none 0 0, .string s] 43)) List.not_mem_nil
              generalize wantL s.data.toList = T at *
              clear hemp
              go_wp2_with fail
              refine (rA.out _ hMW).mono ?_
              rintro e w2 ⟨v2, rfl, ht2, hk2⟩
              have hM2 := hMW.keeps hk2 List.not_mem_nil
              go_wp2_with fail
              refine (rB.out _ hM2).mono ?_
              rintro e w3 ⟨v3, rfl, ht3, hk3⟩
              have hM3 := hM2.keeps hk3 List.not_mem_nil
              go_wp2_with fail
              refine (rC.out _ hM3).mono ?_
              rintro e w4 ⟨v4, rfl, ht4, hk4⟩
              have htw4 := ((htw.keeps hk2).keeps hk3).keeps hk4
              have ht2' := (ht2.keeps hk3).keeps hk4
              have ht3' := ht3.keeps hk4
              go_wp2_with fail
              refine (sameTokens_eq _ v2 _ _ ht2' htw4).mono ?_
              rintro e w5 ⟨rfl, n5, rfl⟩
              have kd5 := (Keeps.refl [] w4).drewN n5
              go_wp2_with fail
              refine (sameTokens_eq _ v3 _ _ (ht3'.keeps kd5) (htw4.keeps kd5)).mono ?_
              rintro e w6 ⟨rfl, n6, rfl⟩
              have kd6 := (Keeps.refl [] w4).drewN (n5 + n6)
              go_wp2_with fail
              refine (sameTokens_eq _ v4 _ _ (ht4.keeps kd6) (htw4.keeps kd6)).mono ?_
              rintro e w7 ⟨rfl, n7, rfl⟩
              go_wp2_with fail
              go_ret
              exact ⟨rfl, (((hkW.trans hk2).trans hk3).trans hk4).trans ((Keeps.refl _ _).drewN _)⟩
end Go.Proofs.Ytaeblkmkpfklkaa
