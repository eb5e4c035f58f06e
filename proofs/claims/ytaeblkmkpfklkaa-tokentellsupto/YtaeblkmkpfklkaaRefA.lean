/- The small calls of the document's answer for tokens: IsWhite, isLetter, FoldOf, nextOf. IsName of the document's answer. Attributes, as the document's answer goes through them: the functions. -/
import Derived.Test.YtaeblkmkpfklkaaRef
import Derived.Test.YtaeblkmkpfklkaaTokMath
import Derived.Test.YtaeblkmkpfklkaaAttrs
namespace Go.Proofs.Ytaeblkmkpfklkaa
open Go.RowKit

theorem all_bytesR {p : UInt8 → Prop} [DecidablePred p] (h : ∀ n : Fin 256, p ⟨⟨n⟩⟩) (c : UInt8) : p c := by
  have := h c.toBitVec.toFin
  exact this

theorem white_eqR : ∀ c : UInt8, whiteB c = (((c.toNat : Int) == 32) || ((decide ((9 : Int) ≤ (c.toNat : Int)) && decide ((c.toNat : Int) ≤ 13)) && ((c.toNat : Int) != 11))) := all_bytesR (by decide +kernel)
theorem letter_eqR : ∀ c : UInt8, letterB c = ((decide ((97 : Int) ≤ (c.toNat : Int)) && decide ((c.toNat : Int) ≤ 122)) || (decide ((65 : Int) ≤ (c.toNat : Int)) && decide ((c.toNat : Int) ≤ 90))) := all_bytesR (by decide +kernel)

set_option maxHeartbeats 1000000 in
theorem isWhite_any (c : UInt8) (w : World) : Calls Try.prog 43 #[.int .u8 c.toNat] w fun e w' => e = .returned (.bool (whiteB c)) ∧ w' = w := by
  rw [white_eqR]
  have hb := hide (fun w => between_any (c.toNat : Int) 9 13 w)
  have hc : c.toNat < 256 := UInt8.toNat_lt c
  generalize (decide ((9 : Int) ≤ (c.toNat : Int)) && decide ((c.toNat : Int) ≤ 13)) = b at *
  generalize c.toNat = n at *
  cases h1 : ((n : Int) == 32) <;> cases b <;> cases h2 : ((n : Int) != 11)
  all_goals
    go_enter Try.func43, Try.ntmps43
    go_wp2_with (go_at_call 37; refine (hb.out _).mono ?_; rintro e w' ⟨rfl, rfl⟩)
    go_ret
    exact ⟨rfl, rfl⟩

set_option maxHeartbeats 1000000 in
theorem isLetter_any (c : UInt8) (w : World) : Calls Try.prog 41 #[.int .u8 c.toNat] w fun e w' => e = .returned (.bool (letterB c)) ∧ w' = w := by
  rw [letter_eqR]
  have hb := hide (fun w => between_any (c.toNat : Int) 97 122 w)
  have hb2 := hide (fun w => between_any (c.toNat : Int) 65 90 w)
  have hc : c.toNat < 256 := UInt8.toNat_lt c
  generalize (decide ((97 : Int) ≤ (c.toNat : Int)) && decide ((c.toNat : Int) ≤ 122)) = b at *
  generalize (decide ((65 : Int) ≤ (c.toNat : Int)) && decide ((c.toNat : Int) ≤ 90)) = b2 at *
  generalize c.toNat = n at *
  cases b
  · go_enter Try.func41, Try.ntmps41
    go_wp2_with fail
    refine (hb.out _).mono ?_
    rintro e w' ⟨rfl, rfl⟩
    go_wp2_with fail
    refine (hb2.out _).mono ?_
    rintro e w' ⟨rfl, rfl⟩
    go_wp2_with fail
    go_ret
    exact ⟨by simp, rfl⟩
  · go_enter Try.func41, Try.ntmps41
    go_wp2_with fail
    refine (hb.out _).mono ?_
    rintro e w' ⟨rfl, rfl⟩
    go_wp2_with fail
    go_ret
    exact ⟨by simp, rfl⟩

/-- Where a mark stands, from a place on. -/
theorem index_stepR (s : ByteArray) (k : Nat) (p : List UInt8) (hk : k < s.size) (h : stAt s k p = false) : Lib.index (s.data.toList.drop k) p = if Lib.index (s.data.toList.drop (k + 1)) p < 0 then -1 else Lib.index (s.data.toList.drop (k + 1)) p + 1 := by
  have hk' : k < s.data.toList.length := by rw [len_size]; exact hk
  rw [List.drop_eq_getElem_cons hk']
  rw [Lib.index]
  have h' : p.isPrefixOf (s.data.toList[k] :: s.data.toList.drop (k + 1)) = false := by
    unfold stAt at h
    rwa [List.drop_eq_getElem_cons hk'] at h
  have hge := Lib.index_ge (s.data.toList.drop (k + 1)) p
  rw [h']
  simp only [Bool.false_eq_true, if_false]
  by_cases hn : Lib.index (s.data.toList.drop (k + 1)) p < 0
  · have : Lib.index (s.data.toList.drop (k + 1)) p = -1 := by omega
    rw [this]; rfl
  · rw [if_neg hn]
    have : (Lib.index (s.data.toList.drop (k + 1)) p == -1) = false := by simp; omega
    rw [this]
    rfl

theorem index_atR {s : ByteArray} {k : Nat} {p : List UInt8} (h : stAt s k p = true) (hk : k < s.size) : Lib.index (s.data.toList.drop k) p = 0 := by
  have hk' : k < s.data.toList.length := by rw [len_size]; exact hk
  unfold stAt at h
  rw [List.drop_eq_getElem_cons hk'] at h ⊢
  rw [Lib.index, if_pos h]

theorem index_len' : ∀ (l p : List UInt8), 0 ≤ Lib.index l p → Lib.index l p + p.length ≤ l.length
  | [], p => by
    unfold Lib.index
    intro h
    cases p with
    | nil => simp
    | cons c p => simp at h
  | c :: l, p => by
    have ih := index_len' l p
    have hge := Lib.index_ge l p
    unfold Lib.index
    split
    · rename_i h
      intro _
      have : p <+: c :: l := by simpa using h
      have := this.length_le
      omega
    · split
      · intro h; omega
      · rename_i h
        intro _
        have h' : Lib.index l p ≠ -1 := by simpa using h
        have := ih (by omega)
        simp only [List.length_cons]
        omega

/-- nextOf: the place of a mark from a place on, or -1. -/
def nextIR (l p : List UInt8) (k : Nat) : Int := if Lib.index (l.drop k) p < 0 then -1 else (k : Int) + Lib.index (l.drop k) p

theorem index_shortR (s : ByteArray) (k : Nat) (p : List UInt8) (h : s.size < k + p.length) (hp : 0 < p.length) : Lib.index (s.data.toList.drop k) p < 0 := by
  by_cases h' : Lib.index (s.data.toList.drop k) p < 0
  · exact h'
  · have h2 := index_len' (s.data.toList.drop k) p (by omega)
    rw [List.length_drop, len_size] at h2
    omega

set_option maxHeartbeats 2000000 in
theorem nextOf_any (s p : ByteArray) (k0 : Nat) (w : World) (hs : s.size ≤ 3000) (hp : p.size ≤ 3000) (hp0 : 0 < p.size) (hk0 : k0 ≤ s.size) :
    Calls Try.prog 46 #[.string s, .int .i64 k0, .string p] w fun e w' => e = .returned (.int .i64 (nextIR s.data.toList p.data.toList k0)) ∧ w' = w := by
  obtain ⟨R, hR⟩ : ∃ R, nextIR s.data.toList p.data.toList k0 = R := ⟨_, rfl⟩
  rw [hR]
  have hpl := len_size p
  have HR := hide hR
  clear hR
  go_enter Try.func46, Try.ntmps46
  go_wp2_with fail
  go_loopw [1] (fun i wr => ∃ k : Nat, k ≤ s.size ∧ i = .int .i64 k ∧ wr = w ∧ Hid (nextIR s.data.toList p.data.toList k = R)) (fun i _ => s.size - (intOf i).toNat)
  case atStart => exact ⟨k0, hk0, rfl, rfl, HR.out⟩
  case round =>
    obtain ⟨k, hk, rfl, rfl, hH⟩ := hrel
    clear HR
    by_cases hle : k + p.size ≤ s.size
    · have hst := hide (fun w => startsAt_any s k p hs (by omega) hp w)
      have hin : (k : Int) + (p.size : Int) ≤ (s.size : Int) := by omega
      cases hb : stAt s k p.data.toList
      · rw [hb] at hst
        have hstep := index_stepR s k p.data.toList (by omega) hb
        have hN : Hid (nextIR s.data.toList p.data.toList (k + 1) = R) := by
          rw [← hH.out]
          unfold nextIR
          rw [hstep]
          have hge := Lib.index_ge (s.data.toList.drop (k + 1)) p.data.toList
          by_cases hn : Lib.index (s.data.toList.drop (k + 1)) p.data.toList < 0
          · rw [if_pos hn, if_pos hn]; rfl
          · rw [if_neg hn, if_neg hn, if_neg (by omega)]
            show _ = _
            omega
        clear hb hstep
        go_wp2_with (go_at_call 42; refine (hst.out _).mono ?_; rintro e w' ⟨rfl, rfl⟩)
        go_roundw
        case rel => exact ⟨k + 1, by omega, by go_num, by first | rfl | trivial, hN⟩
        case measure => simp [intOf]; omega
      · rw [hb] at hst
        have hx : R = (k : Int) := by
          rw [← hH.out]
          unfold nextIR
          have : Lib.index (s.data.toList.drop k) p.data.toList = 0 := index_atR hb (by omega)
          rw [this]
          simp
        subst hx
        clear hb hH
        go_wp2_with (go_at_call 42; refine (hst.out _).mono ?_; rintro e w' ⟨rfl, rfl⟩)
        go_ret
        exact ⟨by simp, rfl⟩
    · have hin : ¬ (k : Int) + (p.size : Int) ≤ (s.size : Int) := by omega
      have hx : R = -1 := by
        rw [← hH.out]
        unfold nextIR
        rw [if_pos (index_shortR s k _ (by omega) (by omega))]
      subst hx
      clear hH
      go_wp2_with fail
      go_ret
      exact ⟨by simp, rfl⟩

theorem row_form' {w : World} {B : Nat} {e : TypeId} {z : Nat} {v : Value} {n : Nat} {xs : List Value} (h : w.ownsRow B e z v n xs) : ∃ o c, v = .slice o n c := by
  rcases h.2 with ⟨rfl, h0⟩ | ⟨g, cap, cur, rfl, _⟩
  · exact ⟨none, 0, by rw [h0]⟩
  · exact ⟨_, _, rfl⟩

theorem lower_takeR (l : List UInt8) (k : Nat) (h : k < l.length) : lowerL (l.take (k + 1)) = lowerL (l.take k) ++ [lowB l[k]] := by
  unfold lowerL
  rw [List.take_succ_eq_append_getElem h, List.map_append]
  rfl
theorem big_eqR : ∀ c : UInt8, bigB c = (decide ((65 : Int) ≤ (c.toNat : Int)) && decide ((c.toNat : Int) ≤ 90)) := all_bytesR (by decide +kernel)
theorem low_addR : ∀ c : UInt8, bigB c = true → ((lowB c).toNat : Int) = (c.toNat : Int) + 32 := all_bytesR (by decide +kernel)

set_option maxHeartbeats 2000000 in
theorem fold_any (s : ByteArray) (w : World) (hs : s.size ≤ 3000) :
    Calls Try.prog 44 #[.string s] w fun e w' => e = .returned (.string ⟨(lowerL s.data.toList).toArray⟩) ∧ Keeps [] w w' := by
  obtain ⟨i0, hi, hz0, hz1, hz2⟩ := info_parts Try.info5
  have hln := len_size s
  go_enter Try.func44, Try.ntmps44
  go_wp2_with fail
  go_loopw [3, 4] (fun v i wr => ∃ j : Nat, j ≤ s.size ∧ i = .int .i64 j ∧ wr.ownsRow w.heap.size 5 1 v (lowerL (s.data.toList.take j)).length (Lib.byteCells (lowerL (s.data.toList.take j))) ∧ Keeps [] w wr) (fun _ i _ => s.size - (intOf i).toNat)
  case atStart => exact ⟨0, Nat.zero_le _, rfl, World.ownsRow_nil _ _ _ _, Keeps.refl _ _⟩
  case round =>
    obtain ⟨j, hj, rfl, ho, hk⟩ := hrel
    have hll : (lowerL (s.data.toList.take j)).length ≤ 3000 := by
      have h1 : (s.data.toList.take j).length ≤ s.data.toList.length := (List.take_sublist _ _).length_le
      unfold lowerL
      rw [List.length_map]
      omega
    by_cases hlt : j < s.size
    · have hlj : j < s.data.toList.length := by rw [hln]; exact hlt
      have HL := hide (lower_takeR s.data.toList j hlj)
      rw [show s.data.toList[j] = s[j] from rfl] at HL
      generalize lowerL (s.data.toList.take j) = Y at *
      have hb := hide (fun w => between_any (s[j].toNat : Int) 65 90 w)
      rw [← big_eqR] at hb
      have hsz := hk.size
      have hc256 : s[j].toNat < 256 := UInt8.toNat_lt s[j]
      cases hbig : bigB s[j]
      · have hlow : lowB s[j] = s[j] := by unfold lowB; rw [hbig]; rfl
        rw [hbig] at hb
        rw [hlow] at HL
        clear hlow hbig
        go_wp2_with fail
        refine (hb.out _).mono ?_
        rintro e w1 ⟨rfl, rfl⟩
        go_wp2_with (at_builtin; refine wpList_append_own _ rfl _ _ 44 rfl w.heap.size 5 i0 (.int .u8 0) 1 1 Try.underlying44 hi hz0 hz1 hz2 rfl (by decide) _ _ _ rfl (ho.alloc _) ⟨w1.heap.size, 0, none⟩ 1 1 [.int .u8 s[j].toNat] rfl rfl ?c1 ?c2 ?c3 ?c4 ?c5 ?_)
        case c1 =>
          intro j u hj
          match j, hj with
          | 0, hj => simp at hj; subst hj; simp [Addr.add]
        case c2 => intro u hu; simp at hu; subst hu; rfl
        case c3 => unfold maxLen; omega
        case c4 => omega
        case c5 => simp; omega
        intro v' w2 ho1 hg1 _
        have ho2 := own_bytes (t := [s[j]]) ho1
        rw [← HL.out] at ho2
        have hk2 : Keeps [] w w2 := (hk.alloc _).grown hg1 fun k e => .inr (ho.lt k e).1
        go_wp2_with fail
        go_roundw
        case rel => exact ⟨j + 1, by omega, by go_num, ho2, hk2⟩
        case measure => simp [intOf]; omega
      · have hv := low_addR s[j] hbig
        rw [hbig] at hb
        have h90 : 65 ≤ s[j].toNat ∧ s[j].toNat ≤ 90 := by simpa [bigB] using hbig
        clear hbig
        generalize lowB s[j] = d at *
        go_wp2_with fail
        refine (hb.out _).mono ?_
        rintro e w1 ⟨rfl, rfl⟩
        go_wp2_with (at_builtin; refine wpList_append_own _ rfl _ _ 44 rfl w.heap.size 5 i0 (.int .u8 0) 1 1 Try.underlying44 hi hz0 hz1 hz2 rfl (by decide) _ _ _ rfl (ho.alloc _) ⟨w1.heap.size, 0, none⟩ 1 1 [.int .u8 ((s[j].toNat : Int) + 32)] rfl rfl ?c1 ?c2 ?c3 ?c4 ?c5 ?_)
        case c1 =>
          intro j u hj
          match j, hj with
          | 0, hj => simp at hj; subst hj; simp [Addr.add]
        case c2 => intro u hu; simp at hu; subst hu; rfl
        case c3 => unfold maxLen; omega
        case c4 => omega
        case c5 => simp; omega
        intro v' w2 ho1 hg1 _
        rw [← hv] at ho1
        have ho2 := own_bytes (t := [d]) ho1
        rw [← HL.out] at ho2
        have hk2 : Keeps [] w w2 := (hk.alloc _).grown hg1 fun k e => .inr (ho.lt k e).1
        go_wp2_with fail
        go_roundw
        case rel => exact ⟨j + 1, by omega, by go_num, ho2, hk2⟩
        case measure => simp [intOf]; omega
    · have he : s.data.toList.take j = s.data.toList := List.take_of_length_le (by rw [hln]; omega)
      rw [he] at ho
      have hcv := own_string ho 0
      rw [show wr.drewN 0 = wr from rfl] at hcv
      obtain ⟨oo, cc, hrow⟩ := row_form' ho
      subst hrow
      clear he
      obtain ⟨Y, hY⟩ : ∃ Y, lowerL s.data.toList = Y := ⟨_, rfl⟩
      rw [hY] at ho hcv ⊢
      have HY := hide hY
      clear hY hll
      go_wp2_with fail
      go_ret
      exact ⟨by first | (rw [HY.out]; simp; done) | simp, hk⟩
end Go.Proofs.Ytaeblkmkpfklkaa

namespace Go.Proofs.Ytaeblkmkpfklkaa
open Go.RowKit

def okAtR (i : Nat) (c : UInt8) : Bool := if i = 0 then smallB c else nameB c

theorem small_nameR : ∀ c : UInt8, smallB c = true → nameB c = true := all_bytesR (by decide +kernel)
theorem small_eqR : ∀ c : UInt8, smallB c = (decide ((97 : Int) ≤ (c.toNat : Int)) && decide ((c.toNat : Int) ≤ 122)) := all_bytesR (by decide +kernel)
theorem dig_eqR : ∀ c : UInt8, digB c = (decide ((48 : Int) ≤ (c.toNat : Int)) && decide ((c.toNat : Int) ≤ 57)) := all_bytesR (by decide +kernel)
theorem dash_eqR : ∀ c : UInt8, (c == 45) = !((c.toNat : Int) != 45) := all_bytesR (by decide +kernel)

theorem name_yesR (l : List UInt8) (h1 : 1 ≤ l.length) (h2 : l.length ≤ 20) (h : ∀ i (hi : i < l.length), okAtR i l[i] = true) : isNameL l = true := by
  unfold isNameL
  have h0 := h 0 (by omega)
  have e0 : l.getD 0 0 = l[0] := by rw [List.getD_eq_getElem?_getD, List.getElem?_eq_getElem (by omega)]; rfl
  rw [e0]
  have hs : smallB l[0] = true := by simpa [okAtR] using h0
  rw [hs]
  simp only [Bool.and_eq_true, decide_eq_true_eq, List.all_eq_true]
  refine ⟨⟨⟨h1, h2⟩, trivial⟩, fun c hc => ?_⟩
  obtain ⟨i, hi, rfl⟩ := List.getElem_of_mem hc
  have := h i hi
  unfold okAtR at this
  split at this
  · exact small_nameR _ this
  · exact this
theorem name_noR (l : List UInt8) (i : Nat) (hi : i < l.length) (h : okAtR i l[i] = false) : isNameL l = false := by
  rw [Bool.eq_false_iff]
  intro hn
  unfold isNameL at hn
  simp only [Bool.and_eq_true, decide_eq_true_eq, List.all_eq_true] at hn
  obtain ⟨⟨⟨h1, _⟩, h3⟩, h4⟩ := hn
  unfold okAtR at h
  split at h
  · rename_i h0
    subst h0
    have e0 : l.getD 0 0 = l[0] := by rw [List.getD_eq_getElem?_getD, List.getElem?_eq_getElem hi]; rfl
    rw [e0, h] at h3
    simp at h3
  · rw [h4 _ (List.getElem_mem hi)] at h
    simp at h

set_option maxHeartbeats 4000000 in
theorem isNameR_any (s : ByteArray) (w : World) (hs : s.size ≤ maxLen) :
    Calls Try.prog 38 #[.string s] w fun e w' => e = .returned (.bool (isNameL s.data.toList)) ∧ w' = w := by
  unfold maxLen at hs
  have hln := len_size s
  have hb := hide (fun w => between_any (s.size : Int) 1 20 w)
  by_cases hr : 1 ≤ s.size ∧ s.size ≤ 20
  · obtain ⟨R, hR⟩ : ∃ R, isNameL s.data.toList = R := ⟨_, rfl⟩
    rw [hR]
    have HR := hide hR
    clear hR
    have e1 : (decide ((1 : Int) ≤ (s.size : Int)) && decide ((s.size : Int) ≤ 20)) = true := by simp; omega
    rw [e1] at hb
    clear e1
    go_enter Try.func38, Try.ntmps38
    go_wp2_with fail
    refine (hb.out _).mono ?_
    rintro e w1 ⟨rfl, rfl⟩
    go_wp2_with fail
    go_loopw [3] (fun i wr => ∃ j : Nat, j ≤ s.size ∧ i = .int .i64 j ∧ wr = w1 ∧ Hid (∀ i (hi : i < s.data.toList.length), i < j → okAtR i s.data.toList[i] = true)) (fun i _ => s.size - (intOf i).toNat)
    case atStart => exact ⟨0, Nat.zero_le _, rfl, rfl, fun i hi h => by omega⟩
    case round =>
      obtain ⟨j, hj, rfl, rfl, hH⟩ := hrel
      by_cases hlt : j < s.size
      · have hlj : j < s.data.toList.length := by rw [hln]; exact hlt
        have hc256 : s[j].toNat < 256 := UInt8.toNat_lt s[j]
        have b1 := hide (fun w => between_any (s[j].toNat : Int) 97 122 w)
        have b2 := hide (fun w => between_any (s[j].toNat : Int) 48 57 w)
        rw [← small_eqR] at b1
        rw [← dig_eqR] at b2
        have hda := dash_eqR s[j]
        have hok : Hid (okAtR j s.data.toList[j] = if j = 0 then smallB s[j] else (smallB s[j] || digB s[j] || s[j] == 45)) := by
          show okAtR j s[j] = _
          unfold okAtR nameB; rfl
        have next : Hid (okAtR j s.data.toList[j] = true → ∀ i (hi : i < s.data.toList.length), i < j + 1 → okAtR i s.data.toList[i] = true) := fun h i hi hij => by
          rcases Nat.lt_or_ge i j with h' | h'
          · exact hH.out i hi h'
          · have : i = j := by omega
            subst this
            exact h
        have bad : Hid (okAtR j s.data.toList[j] = false → R = false) := fun h => HR.out.symm.trans (name_noR _ j hlj h)
        clear hH HR
        cases h1 : smallB s[j]
        · by_cases h0 : j = 0
          · have hRf := bad.out (by rw [hok.out, if_pos h0]; exact h1)
            subst hRf
            rw [h1] at b1
            subst h0
            clear h1 hok next bad b2 hda
            go_wp2_with fail
            refine (b1.out _).mono ?_
            rintro e w2 ⟨rfl, rfl⟩
            go_wp2_with fail
            go_ret
            exact ⟨by simp, rfl⟩
          · have h0b : ((j : Int) == 0) = false := by simpa using h0
            cases h2 : digB s[j]
            · cases h3 : ((s[j].toNat : Int) != 45)
              · have hn := next.out (by rw [hok.out, if_neg h0, hda, h1, h2, h3]; rfl)
                have HN := hide hn
                rw [h1] at b1
                rw [h2] at b2
                clear h1 h2 hok next bad hda hn
                go_wp2_with fail
                refine (b1.out _).mono ?_
                rintro e w2 ⟨rfl, rfl⟩
                go_wp2_with fail
                refine (b2.out _).mono ?_
                rintro e w3 ⟨rfl, rfl⟩
                go_wp2_with fail
                go_roundw
                case rel => exact ⟨j + 1, by omega, by go_num, by first | rfl | trivial, HN.out⟩
                case measure => simp [intOf]; omega
              · have hRf := bad.out (by rw [hok.out, if_neg h0, hda, h1, h2, h3]; rfl)
                subst hRf
                rw [h1] at b1
                rw [h2] at b2
                clear h1 h2 hok next bad hda
                go_wp2_with fail
                refine (b1.out _).mono ?_
                rintro e w2 ⟨rfl, rfl⟩
                go_wp2_with fail
                refine (b2.out _).mono ?_
                rintro e w3 ⟨rfl, rfl⟩
                go_wp2_with fail
                go_ret
                exact ⟨by simp, rfl⟩
            · have hn := next.out (by rw [hok.out, if_neg h0, h1, h2]; rfl)
              have HN := hide hn
              rw [h1] at b1
              rw [h2] at b2
              clear h1 h2 hok next bad hda hn
              go_wp2_with fail
              refine (b1.out _).mono ?_
              rintro e w2 ⟨rfl, rfl⟩
              go_wp2_with fail
              refine (b2.out _).mono ?_
              rintro e w3 ⟨rfl, rfl⟩
              go_wp2_with fail
              go_roundw
              case rel => exact ⟨j + 1, by omega, by go_num, by first | rfl | trivial, HN.out⟩
              case measure => simp [intOf]; omega
        · have hn := next.out (by rw [hok.out, h1]; split <;> rfl)
          have HN := hide hn
          rw [h1] at b1
          clear h1 hok next bad hda hn b2
          go_wp2_with fail
          refine (b1.out _).mono ?_
          rintro e w2 ⟨rfl, rfl⟩
          go_wp2_with fail
          go_roundw
          case rel => exact ⟨j + 1, by omega, by go_num, by first | rfl | trivial, HN.out⟩
          case measure => simp [intOf]; omega
      · have hRt : R = true := by
          rw [← HR.out]
          exact name_yesR _ (by omega) (by omega) fun i hi => hH.out i hi (by omega)
        subst hRt
        clear hH HR
        go_wp2_with fail
        go_ret
        exact ⟨by simp, rfl⟩
  · have hf : isNameL s.data.toList = false := by
      unfold isNameL
      rw [hln]
      rcases (show s.size < 1 ∨ 20 < s.size from by omega) with h | h
      · simp; omega
      · have : decide (s.size ≤ 20) = false := by simp; omega
        rw [this]; simp
    have e1 : (decide ((1 : Int) ≤ (s.size : Int)) && decide ((s.size : Int) ≤ 20)) = false := by
      rw [Bool.eq_false_iff]; simp; omega
    rw [hf]
    rw [e1] at hb
    clear hf e1
    go_enter Try.func38, Try.ntmps38
    go_wp2_with fail
    refine (hb.out _).mono ?_
    rintro e w1 ⟨rfl, rfl⟩
    go_wp2_with fail
    go_ret
    exact ⟨by simp, rfl⟩
end Go.Proofs.Ytaeblkmkpfklkaa

namespace Go.Proofs.Ytaeblkmkpfklkaa
open Go.RowKit Go.Maps

theorem drop_get (s : ByteArray) (k : Nat) (hk : k < s.size) : s.data.toList.drop k = s[k] :: s.data.toList.drop (k + 1) := by
  have hl : k < s.data.toList.length := by simpa using hk
  rw [List.drop_eq_getElem_cons hl]
  rfl

theorem byteAt_get (s : ByteArray) (k : Nat) (hk : k < s.size) : byteAt s k = s[k] := by
  have h1 := drop_get s k hk
  rw [drop_byteAt s k hk] at h1
  exact (List.cons.inj h1).1

/-- How far a run of bytes goes, from a place on. -/
def runTo (p : UInt8 → Bool) (s : ByteArray) (k : Nat) : Nat := k + ((s.data.toList.drop k).takeWhile p).length

theorem runTo_step {p : UInt8 → Bool} {s : ByteArray} {k : Nat} (hk : k < s.size) (h : p s[k] = true) : runTo p s k = runTo p s (k + 1) := by
  unfold runTo
  rw [drop_get s k hk, List.takeWhile_cons, if_pos h, List.length_cons]
  omega
theorem runTo_stop {p : UInt8 → Bool} {s : ByteArray} {k : Nat} (hk : k < s.size) (h : p s[k] = false) : runTo p s k = k := by
  unfold runTo
  rw [drop_get s k hk, List.takeWhile_cons, if_neg (by simp [h])]
  rfl
theorem runTo_end {p : UInt8 → Bool} {s : ByteArray} {k : Nat} (hk : s.size ≤ k) : runTo p s k = k := by
  unfold runTo
  rw [List.drop_eq_nil_of_le (by rw [len_size]; exact hk)]
  rfl
theorem runTo_ge (p : UInt8 → Bool) (s : ByteArray) (k : Nat) : k ≤ runTo p s k := Nat.le_add_right ..
theorem runTo_le (p : UInt8 → Bool) {s : ByteArray} {k : Nat} (hk : k ≤ s.size) : runTo p s k ≤ s.size := by
  have h := (List.takeWhile_sublist (l := s.data.toList.drop k) (p := p)).length_le
  rw [List.length_drop, len_size] at h
  unfold runTo
  omega
theorem runTo_list (p : UInt8 → Bool) (s : ByteArray) (k : Nat) : (s.data.toList.drop k).takeWhile p = (s.extract k (runTo p s k)).data.toList := by
  rw [Lib.extract_data]
  unfold runTo
  rw [Nat.add_sub_cancel_left]
  exact List.prefix_iff_eq_take.1 (List.takeWhile_prefix _)

/-- A name, and white bytes behind it. -/
theorem attr_ways (s : ByteArray) (k1 : Nat) (h1 : k1 < s.size) (k2 k3 : Nat) (hk2 : runTo attrN s (k1 + 1) = k2) (hk3 : runTo whiteB s k2 = k3) :
    attrL (s.data.toList.drop k1) = match s.data.toList.drop k3 with
    | [] => none
    | d :: q => if d = 61 then
        match valL (q.drop (q.takeWhile whiteB).length) with
        | none => none
        | some (v, m) => some ((lowerL (s.extract k1 k2).data.toList, (takeL v).1), k3 - k1 + 1 + (q.takeWhile whiteB).length + m)
      else some ((lowerL (s.extract k1 k2).data.toList, []), k3 - k1) := by
  have e1 : (s.extract k1 k2).data.toList = s[k1] :: (s.data.toList.drop (k1 + 1)).takeWhile attrN := by
    rw [runTo_list attrN s (k1 + 1), hk2, Lib.extract_data, Lib.extract_data, drop_get s k1 h1]
    have := runTo_ge attrN s (k1 + 1)
    rw [hk2] at this
    rw [show k2 - k1 = (k2 - (k1 + 1)) + 1 from by omega, List.take_succ_cons]
  have e2 : k3 - k1 = 1 + ((s.data.toList.drop (k1 + 1)).takeWhile attrN).length + ((s.data.toList.drop k2).takeWhile whiteB).length := by
    rw [← hk3, ← hk2]
    unfold runTo
    omega
  have e3 : s.data.toList.drop k3 = (s[k1] :: s.data.toList.drop (k1 + 1)).drop (1 + ((s.data.toList.drop (k1 + 1)).takeWhile attrN).length + ((s.data.toList.drop k2).takeWhile whiteB).length) := by
    rw [← drop_get s k1 h1, drop_drop', ← e2]
    have := runTo_ge whiteB s k2
    have := runTo_ge attrN s (k1 + 1)
    rw [show k1 + (k3 - k1) = k3 from by omega]
  rw [drop_get s k1 h1, e1, e2, e3]
  refine attrL_cons _ _ _ _ rfl ?_
  rw [← drop_get s k1 h1, drop_drop', ← hk2]
  unfold runTo
  rw [show k1 + (1 + ((s.data.toList.drop (k1 + 1)).takeWhile attrN).length) = k1 + 1 + ((s.data.toList.drop (k1 + 1)).takeWhile attrN).length from by omega]

theorem attr_way0 {s : ByteArray} {k1 k2 k3 : Nat} (h1 : k1 < s.size) (hk2 : runTo attrN s (k1 + 1) = k2) (hk3 : runTo whiteB s k2 = k3) (h3 : s.size ≤ k3) : attrL (s.data.toList.drop k1) = none := by
  rw [attr_ways s k1 h1 k2 k3 hk2 hk3, List.drop_eq_nil_of_le (by rw [len_size]; exact h3)]
theorem attr_way1 {s : ByteArray} {k1 k2 k3 : Nat} (h1 : k1 < s.size) (hk2 : runTo attrN s (k1 + 1) = k2) (hk3 : runTo whiteB s k2 = k3) (h3 : k3 < s.size) (h4 : s[k3] ≠ 61) :
    attrL (s.data.toList.drop k1) = some ((lowerL (s.extract k1 k2).data.toList, []), k3 - k1) := by
  rw [attr_ways s k1 h1 k2 k3 hk2 hk3, drop_get s k3 h3]
  simp only [if_neg h4]
theorem attr_way2 {s : ByteArray} {k1 k2 k3 k4 : Nat} (h1 : k1 < s.size) (hk2 : runTo attrN s (k1 + 1) = k2) (hk3 : runTo whiteB s k2 = k3) (h3 : k3 < s.size) (h4 : s[k3] = 61) (hk4 : runTo whiteB s (k3 + 1) = k4) :
    attrL (s.data.toList.drop k1) = match valL (s.data.toList.drop k4) with
      | none => none
      | some (v, m) => some ((lowerL (s.extract k1 k2).data.toList, (takeL v).1), k4 - k1 + m) := by
  have e : k3 - k1 + 1 + ((s.data.toList.drop (k3 + 1)).takeWhile whiteB).length = k4 - k1 := by
    rw [← hk4]
    have := runTo_ge attrN s (k1 + 1)
    have := runTo_ge whiteB s k2
    unfold runTo at *
    omega
  rw [attr_ways s k1 h1 k2 k3 hk2 hk3, drop_get s k3 h3]
  simp only [if_pos h4]
  rw [drop_drop', e, ← hk4]
  rfl

theorem val_none {s : ByteArray} {k : Nat} (h : s.size ≤ k) : valL (s.data.toList.drop k) = none := by
  rw [List.drop_eq_nil_of_le (by rw [len_size]; exact h)]
  rfl
theorem val_plain {s : ByteArray} {k : Nat} (h : k < s.size) (h1 : s[k] ≠ 34) (h2 : s[k] ≠ 39) : valL (s.data.toList.drop k) = some ((s.extract k (runTo valN s k)).data.toList, runTo valN s k - k) := by
  rw [← runTo_list]
  have e : runTo valN s k - k = ((s.data.toList.drop k).takeWhile valN).length := by unfold runTo; omega
  rw [e, drop_get s k h]
  unfold valL
  simp only [h1, h2, or_self, if_false]

theorem index_byte (c : UInt8) (l : List UInt8) : Lib.index l [c] = if (l.takeWhile (· != c)).length < l.length then ((l.takeWhile (· != c)).length : Int) else -1 := by
  induction l with
  | nil => simp [Lib.index]
  | cons d l ih =>
    unfold Lib.index
    by_cases h : d = c
    · subst h
      simp
    · have h' : ¬ c = d := fun e => h e.symm
      have hb : (d != c) = true := by simpa using h
      rw [List.takeWhile_cons, if_pos hb, ih]
      simp only [List.length_cons]
      rw [if_neg (by simp [List.isPrefixOf, h'])]
      by_cases hl : (l.takeWhile (· != c)).length < l.length
      · rw [if_pos hl, if_neg (by simp), if_pos (by omega)]
        simp
      · rw [if_neg hl, if_pos (by rfl), if_neg (by omega)]

theorem val_quote {s : ByteArray} {k : Nat} (h : k < s.size) (hq : s[k] = 34 ∨ s[k] = 39) :
    valL (s.data.toList.drop k) = if nextIR s.data.toList [s[k]] (k + 1) < 0 then none
      else some ((s.extract (k + 1) (nextIR s.data.toList [s[k]] (k + 1)).toNat).data.toList, (nextIR s.data.toList [s[k]] (k + 1)).toNat + 1 - k) := by
  have hlen : (s.data.toList.drop (k + 1)).length = s.size - (k + 1) := by rw [List.length_drop, len_size]
  have hr := runTo_list (· != s[k]) s (k + 1)
  have hlt : ((s.data.toList.drop (k + 1)).takeWhile (· != s[k])).length = runTo (· != s[k]) s (k + 1) - (k + 1) := by unfold runTo; omega
  have hge := runTo_ge (· != s[k]) s (k + 1)
  rw [drop_get s k h]
  unfold valL nextIR
  simp only [if_pos hq]
  rw [index_byte]
  by_cases hl : ((s.data.toList.drop (k + 1)).takeWhile (· != s[k])).length < (s.data.toList.drop (k + 1)).length
  · rw [if_pos hl, if_pos hl, if_neg (by omega), if_neg (by omega)]
    have e : ((↑(k + 1) : Int) + (((s.data.toList.drop (k + 1)).takeWhile (· != s[k])).length : Int)).toNat = runTo (· != s[k]) s (k + 1) := by rw [hlt]; omega
    rw [e, ← hr, hlt]
    congr 2
    omega
  · rw [if_neg hl, if_neg hl]
    simp

theorem attrsAt_end (l : List UInt8) (f k : Nat) (acc : List Pair) (h : l.length ≤ k) : attrsAt l f k acc = none := by
  cases f with
  | zero => rfl
  | succ f =>
    unfold attrsAt
    rw [List.drop_eq_nil_of_le (by omega)]

/-- What is left behind an attribute. -/
def nextAcc (acc : List Pair) (p : Pair) : List Pair := if p.1 ∈ acc.map (·.1) ∨ isNameL p.1 = false then acc else acc ++ [p]

theorem next_none {s : ByteArray} {f k1 k' : Nat} {acc acc' : List Pair} {R : Option (List Pair × Nat)}
    (hF : R = match attrL (s.data.toList.drop k1) with | none => none | some (p, m) => attrsAt s.data.toList f (k1 + m) (nextAcc acc p))
    (ha : attrL (s.data.toList.drop k1) = none) (hk : s.size ≤ k') : attrsAt s.data.toList f k' acc' = R := by
  rw [hF, ha, attrsAt_end _ _ _ _ (by rw [len_size]; exact hk)]
theorem next_some {s : ByteArray} {f k1 k' : Nat} {acc : List Pair} {R : Option (List Pair × Nat)} {p : Pair} {m : Nat}
    (hF : R = match attrL (s.data.toList.drop k1) with | none => none | some (p, m) => attrsAt s.data.toList f (k1 + m) (nextAcc acc p))
    (ha : attrL (s.data.toList.drop k1) = some (p, m)) (hk : k1 + m = k') : attrsAt s.data.toList f k' (nextAcc acc p) = R := by
  subst hk
  rw [hF, ha]

/-- One round: at the end, at a >, or at an attribute. -/
theorem round_end {s : ByteArray} {f k k1 : Nat} {acc : List Pair} {R : Option (List Pair × Nat)} (hF : attrsAt s.data.toList (f + 1) k acc = R) (hk : runTo skipB s k = k1) (h : s.size ≤ k1) : R = none := by
  rw [one_attrsAt hF k1 hk, List.drop_eq_nil_of_le (by rw [len_size]; exact h)]
theorem round_gt {s : ByteArray} {f k k1 : Nat} {acc : List Pair} {R : Option (List Pair × Nat)} (hF : attrsAt s.data.toList (f + 1) k acc = R) (hk : runTo skipB s k = k1) (h : k1 < s.size) (hg : s[k1] = 62) : R = some (acc, k1) := by
  rw [one_attrsAt hF k1 hk, drop_get s k1 h]
  simp only [if_pos hg]
theorem round_attr {s : ByteArray} {f k k1 : Nat} {acc : List Pair} {R : Option (List Pair × Nat)} (hF : attrsAt s.data.toList (f + 1) k acc = R) (hk : runTo skipB s k = k1) (h : k1 < s.size) (hg : s[k1] ≠ 62) :
    R = match attrL (s.data.toList.drop k1) with | none => none | some (p, m) => attrsAt s.data.toList f (k1 + m) (nextAcc acc p) := by
  have h1 := one_attrsAt hF k1 hk
  rw [drop_get s k1 h] at h1
  simp only [if_neg hg] at h1
  rw [h1, drop_get s k1 h]
  rfl

theorem way_no {s : ByteArray} {f k1 k2 k3 : Nat} {acc : List Pair} {R : Option (List Pair × Nat)} {n : List UInt8} (h1 : k1 < s.size) (hk2 : runTo attrN s (k1 + 1) = k2) (hk3 : runTo whiteB s k2 = k3)
    (hF : R = match attrL (s.data.toList.drop k1) with | none => none | some (p, m) => attrsAt s.data.toList f (k1 + m) (nextAcc acc p))
    (hn : lowerL (s.extract k1 k2).data.toList = n) (hB : decide (k3 < s.size ∧ byteAt s k3 = 61) = false) : attrsAt s.data.toList f k3 (nextAcc acc (n, [])) = R := by
  have h12 := runTo_ge attrN s (k1 + 1)
  have h23 := runTo_ge whiteB s k2
  by_cases h3 : s.size ≤ k3
  · exact next_none hF (attr_way0 h1 hk2 hk3 h3) h3
  · have h3' : k3 < s.size := by omega
    have h61 : s[k3] ≠ 61 := fun h => by simp [h3', byteAt_get s k3 h3', h] at hB
    have := next_some hF (attr_way1 h1 hk2 hk3 h3' h61) (k' := k3) (by omega)
    rwa [hn] at this
theorem way_none {s : ByteArray} {f k1 k2 k3 k4 k' : Nat} {acc acc' : List Pair} {R : Option (List Pair × Nat)} (h1 : k1 < s.size) (hk2 : runTo attrN s (k1 + 1) = k2) (hk3 : runTo whiteB s k2 = k3)
    (hF : R = match attrL (s.data.toList.drop k1) with | none => none | some (p, m) => attrsAt s.data.toList f (k1 + m) (nextAcc acc p))
    (h3 : k3 < s.size) (h4 : s[k3] = 61) (hk4 : runTo whiteB s (k3 + 1) = k4) (hv : valL (s.data.toList.drop k4) = none) (hk : s.size ≤ k') : attrsAt s.data.toList f k' acc' = R :=
  next_none hF ((attr_way2 h1 hk2 hk3 h3 h4 hk4).trans (by rw [hv])) hk
theorem way_noneR {s : ByteArray} {f k1 k2 k3 k4 : Nat} {acc : List Pair} {R : Option (List Pair × Nat)} (h1 : k1 < s.size) (hk2 : runTo attrN s (k1 + 1) = k2) (hk3 : runTo whiteB s k2 = k3)
    (hF : R = match attrL (s.data.toList.drop k1) with | none => none | some (p, m) => attrsAt s.data.toList f (k1 + m) (nextAcc acc p))
    (h3 : k3 < s.size) (h4 : s[k3] = 61) (hk4 : runTo whiteB s (k3 + 1) = k4) (hv : valL (s.data.toList.drop k4) = none) : R = none := by
  rw [hF, (attr_way2 h1 hk2 hk3 h3 h4 hk4).trans (by rw [hv])]
theorem way_val {s : ByteArray} {f k1 k2 k3 k4 k' m : Nat} {acc : List Pair} {R : Option (List Pair × Nat)} {n v V : List UInt8} (h1 : k1 < s.size) (hk2 : runTo attrN s (k1 + 1) = k2) (hk3 : runTo whiteB s k2 = k3)
    (hF : R = match attrL (s.data.toList.drop k1) with | none => none | some (p, m) => attrsAt s.data.toList f (k1 + m) (nextAcc acc p))
    (hn : lowerL (s.extract k1 k2).data.toList = n) (h3 : k3 < s.size) (h4 : s[k3] = 61) (hk4 : runTo whiteB s (k3 + 1) = k4)
    (hv : valL (s.data.toList.drop k4) = some (v, m)) (hV : (takeL v).1 = V) (hk : k4 + m = k') : attrsAt s.data.toList f k' (nextAcc acc (n, V)) = R := by
  have h12 := runTo_ge attrN s (k1 + 1)
  have h23 := runTo_ge whiteB s k2
  have h34 := runTo_ge whiteB s (k3 + 1)
  subst hV
  subst hn
  exact next_some hF ((attr_way2 h1 hk2 hk3 h3 h4 hk4).trans (by rw [hv])) (by omega)

theorem nextIR_nat {l p : List UInt8} {k : Nat} (h : 0 ≤ nextIR l p k) (hp : 0 < p.length) : ∃ m : Nat, nextIR l p k = m ∧ k ≤ m ∧ m + p.length ≤ l.length := by
  unfold nextIR at *
  by_cases hn : Lib.index (l.drop k) p < 0
  · rw [if_pos hn] at h
    omega
  · rw [if_neg hn] at h ⊢
    have h1 := index_len' (l.drop k) p (by omega)
    rw [List.length_drop] at h1
    exact ⟨k + (Lib.index (l.drop k) p).toNat, by omega, by omega, by omega⟩
end Go.Proofs.Ytaeblkmkpfklkaa
