/- TakeOf: the document's answer is what Take answers. -/
import Derived.Test.YtaeblkmkpfklkaaSignAt
namespace Go.Proofs.Ytaeblkmkpfklkaa
open Go.RowKit

theorem signAt_any (s : ByteArray) (k : Nat) (hs : s.size ≤ 3000) (hk : k < s.size) (hc : byteAt s k = 38) (w : World) :
    Calls Try.prog 26 #[.string s, .int .i64 k] w fun e w' => e = three (refT (s.data.toList.drop (k + 1))) ∧ Keeps [] w w' := by
  have e1 := stAt_and s k hk hc [97, 109, 112, 59]
  have e2 := stAt_and s k hk hc [108, 116, 59]
  have e3 := stAt_and s k hk hc [103, 116, 59]
  have e4 := stAt_and s k hk hc [113, 117, 111, 116, 59]
  have e5 := stAt_and s k hk hc [97, 112, 111, 115, 59]
  have e6 := stAt_and s k hk hc [35]
  have e7 := stAt_and s k hk hc [35, 120]
  cases b1 : stAt s k [38, 97, 109, 112, 59] with
  | true =>
    rw [e1] at b1
    rw [refT_named (p := [97, 109, 112]) (n := 38) b1 (by decide) (by decide) (by decide)]
    rw [← e1] at b1
    exact sign_c1 s k hs hk b1 w
  | false =>
  cases b2 : stAt s k [38, 108, 116, 59] with
  | true =>
    rw [e2] at b2
    rw [refT_named (p := [108, 116]) (n := 60) b2 (by decide) (by decide) (by decide)]
    rw [← e2] at b2
    exact sign_c2 s k hs hk b1 b2 w
  | false =>
  cases b3 : stAt s k [38, 103, 116, 59] with
  | true =>
    rw [e3] at b3
    rw [refT_named (p := [103, 116]) (n := 62) b3 (by decide) (by decide) (by decide)]
    rw [← e3] at b3
    exact sign_c3 s k hs hk b1 b2 b3 w
  | false =>
  cases b4 : stAt s k [38, 113, 117, 111, 116, 59] with
  | true =>
    rw [e4] at b4
    rw [refT_named (p := [113, 117, 111, 116]) (n := 34) b4 (by decide) (by decide) (by decide)]
    rw [← e4] at b4
    exact sign_c4 s k hs hk b1 b2 b3 b4 w
  | false =>
  cases b5 : stAt s k [38, 97, 112, 111, 115, 59] with
  | true =>
    rw [e5] at b5
    rw [refT_named (p := [97, 112, 111, 115]) (n := 39) b5 (by decide) (by decide) (by decide)]
    rw [← e5] at b5
    exact sign_c5 s k hs hk b1 b2 b3 b4 b5 w
  | false =>
  cases b6 : stAt s k [38, 35] with
  | false =>
    rw [refT_none (signL_none (e1 ▸ b1) (e2 ▸ b2) (e3 ▸ b3) (e4 ▸ b4) (e5 ▸ b5) (e6 ▸ b6))]
    exact sign_c6 s k hs hk b1 b2 b3 b4 b5 b6 w
  | true =>
  cases b7 : stAt s k [38, 35, 120] with
  | true =>
    have hz : k + 3 ≤ s.size := by
      have := (List.isPrefixOf_iff_prefix.1 b7).length_le
      rw [List.length_drop, len_size] at this
      simp at this
      omega
    exact sign_n16 s k hs b1 b2 b3 b4 b5 b6 b7 hz (num16 s k (e7 ▸ b7)) _ rfl w
  | false =>
    have hz : k + 2 ≤ s.size := by
      have := (List.isPrefixOf_iff_prefix.1 b6).length_le
      rw [List.length_drop, len_size] at this
      simp at this
      omega
    exact sign_n10 s k hs b1 b2 b3 b4 b5 b6 b7 hz (num10 s k (e6 ▸ b6) (e7 ▸ b7)) _ rfl w

theorem done_other {s : ByteArray} {k : Nat} {o : List UInt8} {r : Bool} (h : Done s k o r) (hk : k < s.size) (hc : byteAt s k ≠ 38) : Done s (k + 1) (o ++ [s[k]]) r := by
  have e := takeL_other (byteAt s k) (s.data.toList.drop (k + 1)) hc
  rw [← drop_byteAt s k hk] at e
  refine ⟨?_, ?_⟩
  · rw [h.1, e, byteAt_eq s k hk]
    simp
  · have := h.2
    simp only [List.length_append, List.length_cons, List.length_nil]
    omega

theorem takeOne_ref {s : ByteArray} {k : Nat} (hk : k < s.size) (hc : byteAt s k = 38) :
    takeOne (s.data.toList.drop k) = if (refT (s.data.toList.drop (k + 1))).2.1 = 0 then ([38], 1, false) else refT (s.data.toList.drop (k + 1)) := by
  unfold takeOne refT
  rw [List.drop_drop]
  cases hs : signL (s.data.toList.drop (k + 1)) with
  | none => simp; rw [drop_byteAt s k hk, hc]; simp
  | some x =>
    obtain ⟨n, m⟩ := x
    have e : Lib.encodeRune 65533 = [239, 191, 189] := by decide
    cases hst : standsL n
    · simp [hst, e]
    · simp [hst]

theorem refT_zero (l : List UInt8) (h : (refT l).2.1 = 0) : (refT l).2.2 = false := by
  unfold refT at h ⊢
  cases hs : signL l with
  | none => rfl
  | some x =>
    obtain ⟨n, m⟩ := x
    rw [hs] at h
    cases hst : standsL n <;> simp [hst] at h

set_option maxHeartbeats 2000000 in
theorem takeOf_any (s : ByteArray) (w : World) (hs : s.size ≤ 3000) :
    Calls Try.prog 14 #[.string s] w fun e w' => e = .returned (.tuple #[.string ⟨(takeL s.data.toList).1.toArray⟩, .bool (takeL s.data.toList).2]) ∧ Keeps [] w w' := by
  obtain ⟨T, hTk⟩ : ∃ T, takeL s.data.toList = T := ⟨_, rfl⟩
  rw [hTk]
  have HT := hide hTk
  clear hTk
  go_enter Try.func14, Try.ntmps14
  go_wp2_with fail
  go_loopw [4, 5, 6] (fun u v t wr => ∃ (k : Nat) (o : List UInt8) (rt : Bool), k ≤ s.size ∧ u = .string ⟨o.toArray⟩ ∧ v = .bool rt ∧ t = .int .i64 k ∧ Keeps [] w wr ∧ Hid (Done s k o rt))
    (fun _ _ t _ => s.size - (intOf t).toNat)
  case atStart => exact ⟨0, [], true, Nat.zero_le _, rfl, rfl, rfl, Keeps.refl _ _, done_start s⟩
  case round =>
    obtain ⟨k, o, rt, hk, rfl, rfl, rfl, hkp, hD⟩ := hrel
    have hol : (⟨o.toArray⟩ : ByteArray).size = o.length := by simp [ByteArray.size]
    have hon : o.length ≤ 100000 := by have := hD.out.2; omega
    by_cases hlt : k < s.size
    · by_cases hc : byteAt s k = 38
      · have HS := done_sign hD.out hlt hc
        rw [takeOne_ref hlt hc] at HS
        have hc' : ((s[k].toNat : Int) != 38) = false := by rw [← byteAt_eq s k hlt, hc]; rfl
        have hsig := hide (fun w => signAt_any s k hs hlt hc w)
        have hzero := refT_zero (s.data.toList.drop (k + 1))
        clear hD hc
        generalize refT (s.data.toList.drop (k + 1)) = R at *
        obtain ⟨t, c, ok⟩ := R
        have htl : (⟨t.toArray⟩ : ByteArray).size = t.length := by simp [ByteArray.size]
        by_cases h0 : c = 0
        · subst h0
          have hok : ok = false := hzero rfl
          subst hok
          clear hzero
          simp only [if_true] at HS
          obtain ⟨HD0, hp1, hp2⟩ := HS
          have HD := hide HD0
          clear HD0 hp1
          cases rt
          all_goals
            go_wp2_with fail
            refine (hsig.out _).mono ?_
            unfold three
            rintro e w1 ⟨rfl, hk1⟩
            go_wp2_with fail
            go_roundw
            case rel => exact ⟨k + 1, o ++ [38], _, by omega, app_eq _ _ _ rfl, rfl, by go_num, hkp.trans hk1, HD⟩
            case measure => simp [intOf]; omega
        · rw [if_neg h0] at HS
          obtain ⟨HD0, hp1, hp2⟩ := HS
          have HD := hide HD0
          have h0' : ((c : Int) == 0) = false := by simp; omega
          have htn : t.length ≤ 20000 := by
            have := HD0.2
            simp only [List.length_append] at this hp2
            omega
          clear HD0 h0 hzero
          simp only at hp1 hp2
          cases rt
          all_goals
            go_wp2_with fail
            refine (hsig.out _).mono ?_
            unfold three
            rintro e w1 ⟨rfl, hk1⟩
            go_wp2_with fail
            go_roundw
            case rel => exact ⟨k + c, o ++ t, _, by omega, app_eq _ _ _ rfl, rfl, by go_num, hkp.trans hk1, HD⟩
            case measure => simp [intOf]; omega
      · have hD' := hide (done_other hD.out hlt hc)
        have hne : ((s[k].toNat : Int) != 38) = true := by
          rw [← byteAt_eq s k hlt]
          have := byte_bne (byteAt s k) 38
          rw [show ((38 : UInt8).toNat : Int) = 38 from rfl] at this
          rw [this]; simpa using hc
        clear hD hc
        go_wp2
        go_roundw
        case rel => exact ⟨k + 1, o ++ [s[k]], rt, by omega, app_eq _ _ _ (by rw [one_byte s k hlt]), rfl, by go_num, hkp, hD'⟩
        case measure => simp [intOf]; omega
    · have HE := hide (HT.out.symm.trans (done_end hD.out (by omega)))
      go_wp2
      go_ret2
      rw [HE.out]
      exact ⟨rfl, hkp⟩
end Go.Proofs.Ytaeblkmkpfklkaa
