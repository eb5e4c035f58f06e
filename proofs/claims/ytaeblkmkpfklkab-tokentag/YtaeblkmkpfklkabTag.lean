/- TokenTag: a tag whose attributes are written plainly is read as it was, letters small or not, with quotes of either kind. -/
import Derived.Test.YtaeblkmkpfklkabTagMath
import Derived.Test.YtaeblkmkpfklkabBegun
namespace Go.Proofs.Ytaeblkmkpfklkab
open Go.RowKit Go.Maps

/-- In what is put no sign stands that would begin a tag, or end a value. -/
theorem putB_signs (c d : UInt8) (h : d ∈ putB c) : d ≠ 60 ∧ d ≠ 62 ∧ d ≠ 34 := by
  unfold putB at h
  split at h
  · simp at h; rcases h with h | h | h | h | h <;> subst h <;> decide
  · split at h
    · simp at h; rcases h with h | h | h | h <;> subst h <;> decide
    · split at h
      · simp at h; rcases h with h | h | h | h <;> subst h <;> decide
      · split at h
        · simp at h; rcases h with h | h | h | h | h | h <;> subst h <;> decide
        · rename_i h1 h2 h3 h4
          simp at h; subst h; exact ⟨h2, h3, h4⟩

theorem putL_signs (l : List UInt8) (d : UInt8) (h : d ∈ putL l) : d ≠ 60 ∧ d ≠ 62 ∧ d ≠ 34 := by
  simp only [putL, List.mem_flatMap] at h
  obtain ⟨c, _, hc⟩ := h
  exact putB_signs c d hc

theorem str_back (s : ByteArray) : (⟨s.data.toList.toArray⟩ : ByteArray) = s := WideShapes.bytes_inj (by simp)

theorem read_want (x : ByteArray) (w : World) (hl : x.size ≤ 3000) (hM : HasMax w) (ts : List Tok) (h : readL x.data.toList = ts) :
    Calls Try.prog 9 #[.string x] w fun e w' => ∃ v, e = .returned (.tuple #[v, .int .i64 0]) ∧ Toks w' v ts ∧ Keeps [] w w' := by
  refine (read_some x w hl hM).mono ?_
  rintro e w' ⟨v, he, ht, hk⟩
  rw [h] at ht
  exact ⟨v, he, ht.toks, hk⟩

theorem mem_byte {s : ByteArray} {P : UInt8 → Prop} (h : ∀ j, j < s.size → P (byteAt s j)) : ∀ x ∈ s.data.toList, P x := by
  intro x hx
  obtain ⟨i, hi, rfl⟩ := List.getElem_of_mem hx
  have hi' : i < s.size := by simpa using hi
  have := h i hi'
  rw [byteAt_eq s i hi'] at this
  exact this

theorem want_tag (w1 : World) (s : ByteArray) :
    Toks ((w1.alloc (.cells #[.string ⟨#[107]⟩, .string s, .string ⟨#[98]⟩, .string ⟨#[]⟩] 27)).alloc (.cells #[.int .i64 2, .string ⟨#[120]⟩, .slice (some ⟨w1.heap.size, 0, none⟩) 2 2, .string ⟨#[]⟩] 30)) (.slice (some ⟨w1.heap.size + 1, 0, none⟩) 1 1) (tagW s.data.toList) := by
  have h1 := lies_new w1 #[.string ⟨#[107]⟩, .string s, .string ⟨#[98]⟩, .string ⟨#[]⟩] 27 2 2 (by decide) rfl
  have h2 := lies_new (w1.alloc (.cells #[.string ⟨#[107]⟩, .string s, .string ⟨#[98]⟩, .string ⟨#[]⟩] 27)) #[.int .i64 2, .string ⟨#[120]⟩, .slice (some ⟨w1.heap.size, 0, none⟩) 2 2, .string ⟨#[]⟩] 30 1 4 (by decide) rfl
  rw [show (w1.alloc (.cells #[.string ⟨#[107]⟩, .string s, .string ⟨#[98]⟩, .string ⟨#[]⟩] 27)).heap.size = w1.heap.size + 1 from by simp] at h2
  refine ⟨[(⟨2, [120], [([107], s.data.toList), ([98], [])], []⟩, .slice (some ⟨w1.heap.size, 0, none⟩) 2 2)], rfl, h2, ?_⟩
  intro p hp
  simp at hp
  subst hp
  have e : pairCells [([107], s.data.toList), ([98], [])] = [.string ⟨#[107]⟩, .string s, .string ⟨#[98]⟩, .string ⟨#[]⟩] := by simp [pairCells]
  show Lies _ _ 2 2 (pairCells [([107], s.data.toList), ([98], [])])
  rw [e]
  exact h1.keeps ((Keeps.refl [] _).alloc _)

set_option maxRecDepth 8000 in
set_option maxHeartbeats 8000000 in
theorem tag_law (s : ByteArray) (hs : s.size ≤ 140737488351232) (w : World) (hM : HasMax w) :
    Calls Try.prog 3 #[.string s] w fun e w' => e = .returned (.bool true) ∧ Keeps [] w w' := by
  have hput := hide (fun w => put_any s w (by unfold maxLen; omega))
  unfold putAns two at hput
  rw [len_size] at hput
  by_cases hbig : 3000 < s.size
  · simp only [if_pos hbig] at hput
    go_enter Try.func3, Try.ntmps3
    go_wp2_with fail
    refine (tokenBegun_any _ hM).mono ?_
    rintro e w1 ⟨rfl, hk1⟩
    go_wp2_with fail
    refine (begun_any _).mono ?_
    rintro e w2 ⟨rfl, hk2⟩
    go_wp2_with fail
    refine (hput.out _).mono ?_
    rintro e w3 ⟨rfl, hk3⟩
    go_wp2_with fail
    go_ret
    exact ⟨rfl, (hk1.trans hk2).trans hk3⟩
  · simp only [if_neg hbig] at hput
    obtain ⟨V, hV⟩ : ∃ V : ByteArray, V = ⟨(putL s.data.toList).toArray⟩ := ⟨_, rfl⟩
    rw [← hV] at hput
    have hVd : V.data.toList = putL s.data.toList := by rw [hV]
    have hVs : V.size ≤ 18000 := by
      have h1 := putL_le s.data.toList
      have h2 := len_size s
      have h3 := len_size V
      rw [hVd] at h3
      omega
    have htk : (takeL V.data.toList).1 = s.data.toList := by rw [hVd, takeL_putL]
    have h34 : ∀ c ∈ V.data.toList, c ≠ 34 := fun c hc => (putL_signs _ c (by rw [← hVd]; exact hc)).2.2
    clear hV hVd
    by_cases hlong : 2970 < V.size
    · have hgt : decide ((2970 : Int) < (V.size : Int)) = true := by simp; omega
      go_enter Try.func3, Try.ntmps3
      go_wp2_with fail
      refine (tokenBegun_any _ hM).mono ?_
      rintro e w1 ⟨rfl, hk1⟩
      go_wp2_with fail
      refine (begun_any _).mono ?_
      rintro e w2 ⟨rfl, hk2⟩
      go_wp2_with fail
      refine (hput.out _).mono ?_
      rintro e w3 ⟨rfl, hk3⟩
      go_wp2_with fail
      go_ret
      exact ⟨rfl, (hk1.trans hk2).trans hk3⟩
    · have hgt : decide ((2970 : Int) < (V.size : Int)) = false := by simp; omega
      have rA := hide (fun (w : World) hM => read_want (⟨#[60, 120, 32, 107, 61, 34]⟩ ++ V ++ ⟨#[34, 32, 98, 62]⟩) w (by have a : (⟨#[60, 120, 32, 107, 61, 34]⟩ : ByteArray).size = 6 := rfl; have b : (⟨#[34, 32, 98, 62]⟩ : ByteArray).size = 4 := rfl; simp only [ByteArray.size_append]; omega) hM (tagW s.data.toList) (by simpa [tagA] using read_tagA _ _ h34 htk))
      have rB := hide (fun (w : World) hM => read_want (⟨#[60, 88, 32, 32, 75, 32, 61, 32, 34]⟩ ++ V ++ ⟨#[34, 32, 66, 47, 62]⟩) w (by have a : (⟨#[60, 88, 32, 32, 75, 32, 61, 32, 34]⟩ : ByteArray).size = 9 := rfl; have b : (⟨#[34, 32, 66, 47, 62]⟩ : ByteArray).size = 5 := rfl; simp only [ByteArray.size_append]; omega) hM (tagW s.data.toList) (by simpa [tagB] using read_tagB _ _ h34 htk))
      have rC := hide (fun (h39 : ∀ c ∈ V.data.toList, c ≠ 39) (w : World) hM => read_want (⟨#[60, 120, 32, 107, 61, 39]⟩ ++ V ++ ⟨#[39, 32, 98, 61, 39, 39, 62]⟩) w (by have a : (⟨#[60, 120, 32, 107, 61, 39]⟩ : ByteArray).size = 6 := rfl; have b : (⟨#[39, 32, 98, 61, 39, 39, 62]⟩ : ByteArray).size = 7 := rfl; simp only [ByteArray.size_append]; omega) hM (tagW s.data.toList) (by simpa [tagC] using read_tagC _ _ h39 htk))
      have z1 : ¬ 9223372036854775807 < 6 + V.size := by omega
      have z2 : ¬ 9223372036854775807 < 6 + V.size + 4 := by omega
      have z3 : ¬ 9223372036854775807 < 9 + V.size := by omega
      have z4 : ¬ 9223372036854775807 < 9 + V.size + 5 := by omega
      have z5 : ¬ 9223372036854775807 < 6 + V.size + 7 := by omega
      clear htk h34
      go_enter Try.func3, Try.ntmps3
      go_wp2_with fail
      refine (tokenBegun_any _ hM).mono ?_
      rintro e w1 ⟨rfl, hk1⟩
      go_wp2_with fail
      refine (begun_any _).mono ?_
      rintro e w2 ⟨rfl, hk2⟩
      go_wp2_with fail
      refine (hput.out _).mono ?_
      rintro e w3 ⟨rfl, hk3⟩
      have hk03 : Keeps [] w w3 := (hk1.trans hk2).trans hk3
      have htw := want_tag w3 s
      have hkW : Keeps [] w ((w3.alloc (.cells #[.string ⟨#[107]⟩, .string s, .string ⟨#[98]⟩, .string ⟨#[]⟩] 27)).alloc (.cells #[.int .i64 2, .string ⟨#[120]⟩, .slice (some ⟨w3.heap.size, 0, none⟩) 2 2, .string ⟨#[]⟩] 30)) := (hk03.alloc _).alloc _
      have hMW := hM.keeps hkW List.not_mem_nil
      generalize tagW s.data.toList = T at *
      clear hM hput
      go_wp2_with fail
      refine (rA.out _ hMW).mono ?_
      rintro e w4 ⟨v4, rfl, ht4, hk4⟩
      have hM4 := hMW.keeps hk4 List.not_mem_nil
      go_wp2_with fail
      refine (rB.out _ hM4).mono ?_
      rintro e w5 ⟨v5, rfl, ht5, hk5⟩
      have hM5 := hM4.keeps hk5 List.not_mem_nil
      have htw5 := (htw.keeps hk4).keeps hk5
      go_wp2_with fail
      refine (sameTokens_eq _ v4 _ _ (ht4.keeps hk5) htw5).mono ?_
      rintro e w6 ⟨rfl, n6, rfl⟩
      have kd6 := (Keeps.refl [] w5).drewN n6
      go_wp2_with fail
      refine (sameTokens_eq _ v5 _ _ (ht5.keeps kd6) (htw5.keeps kd6)).mono ?_
      rintro e w7 ⟨rfl, n7, hw7⟩
      have hk7 : Keeps [] w5 w7 := by rw [hw7]; exact kd6.drewN n7
      clear hw7
      have hM7 := hM5.keeps hk7 List.not_mem_nil
      have htw7 := htw5.keeps hk7
      have hkw7 : Keeps [] w w7 := ((hkW.trans hk4).trans hk5).trans hk7
      clear htw htw5 ht4 ht5 hMW hM4 hM5
      go_wp2_with fail
      go_loop [9] (fun i => ∃ k : Nat, k ≤ V.size ∧ i = .int .i64 k ∧ Hid (∀ j, j < k → byteAt V j ≠ 39)) (fun i => V.size - (intOf i).toNat)
      case atStart => exact ⟨0, Nat.zero_le _, rfl, fun j hj => absurd hj (Nat.not_lt_zero _)⟩
      case round =>
        obtain ⟨m, hm, rfl, hH2⟩ := hrel
        by_cases hlt2 : m < V.size
        · by_cases h39 : byteAt V m = 39
          · have e39 : ((V[m].toNat : Int) == 39) = true := by rw [← byteAt_eq V m hlt2, h39]; rfl
            go_wp2_with fail
            go_ret
            exact ⟨rfl, hkw7⟩
          · have e39 : ((V[m].toNat : Int) == 39) = false := by rw [← byteAt_eq V m hlt2]; exact byte_no (d := 39) rfl h39
            have hH' : Hid (∀ j, j < m + 1 → byteAt V j ≠ 39) := fun j hj => by
              by_cases hjk : j = m
              · subst hjk; exact h39
              · exact hH2.out j (by omega)
            go_wp2_with fail
            go_round
            case rel => exact ⟨m + 1, by omega, by go_num, hH'⟩
            case measure => simp [intOf]; omega
        · have hC := rC.out (mem_byte (fun j hj => hH2.out j (by omega)))
          have HC := hide hC
          clear hH2 hC
          go_wp2_with fail
          refine (HC.out _ hM7).mono ?_
          rintro e w8 ⟨v8, rfl, ht8, hk8⟩
          go_wp2_with fail
          refine (sameTokens_eq _ v8 _ _ ht8 (htw7.keeps hk8)).mono ?_
          rintro e w9 ⟨rfl, n9, rfl⟩
          go_wp2_with fail
          go_ret
          exact ⟨rfl, (hkw7.trans hk8).drewN _⟩
end Go.Proofs.Ytaeblkmkpfklkab
