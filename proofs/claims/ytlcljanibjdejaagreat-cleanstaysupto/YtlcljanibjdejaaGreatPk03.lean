/- The calls of scan and token that look at one byte. Lower: a text in small letters; isName. The document's way to tell a sign, and the program's: they come to the same. The small calls of the document's answer: between, startsAt, digit, row, PutOf, tooLong. strings.Index, laid at this program. The other calls of package scan: Begins, Ahead, Rest, PassTo; and token.take. Steps of a region that draws its order: a call met by its contract, and an append onto a row that the call owns. -/
import Derived.Test.YtlcljanibjdejaaGreatPk02
import Derived.Laws.IdiomStrings
import Derived.Shelf.Strings.Search3
import Derived.Shelf.LaysM
import Derived.Shelf.Strings.Shaped
import Derived.Test.YtlcljanibjdejaaGreatProg
import Derived.Deep.RegionLaw
namespace Go.Proofs.YtlcljanibjdejaaGreat
open Go.RowKit

theorem bne_at {c d : UInt8} {k : Int} (hd : (d.toNat : Int) = k) : (c != d) = ((c.toNat : Int) != k) := by rw [← hd, byte_bne]
theorem beq_at {c d : UInt8} {k : Int} (hd : (d.toNat : Int) = k) : (c == d) = ((c.toNat : Int) == k) := by rw [← hd, byte_beq]

set_option maxHeartbeats 400000 in
theorem small_any (c : UInt8) (w : World) : Calls Tryz.prog 225 #[.int .u8 c.toNat] w fun e w' => e = .returned (.bool (smallB c)) ∧ w' = w := by
  unfold smallB
  have hc : c.toNat < 256 := UInt8.toNat_lt c
  generalize c.toNat = n at *
  rcases (show n < 97 ∨ (97 ≤ n ∧ n ≤ 122) ∨ 122 < n from by omega) with h | h | h
  all_goals
    go_enter Tryz.func225, Tryz.ntmps225
    go_wp2
    go_ret
    refine ⟨ret_bool ?_, rfl⟩
    first
      | (simp; omega)
      | (rw [Bool.eq_iff_iff]; simp; omega)

set_option maxHeartbeats 400000 in
theorem dig_any (c : UInt8) (w : World) : Calls Tryz.prog 285 #[.int .u8 c.toNat] w fun e w' => e = .returned (.bool (digB c)) ∧ w' = w := by
  unfold digB
  have hc : c.toNat < 256 := UInt8.toNat_lt c
  generalize c.toNat = n at *
  rcases (show n < 48 ∨ (48 ≤ n ∧ n ≤ 57) ∨ 57 < n from by omega) with h | h | h
  all_goals
    go_enter Tryz.func285, Tryz.ntmps285
    go_wp2
    go_ret
    refine ⟨ret_bool ?_, rfl⟩
    first
      | (simp; omega)
      | (rw [Bool.eq_iff_iff]; simp; omega)

set_option maxHeartbeats 400000 in
theorem letter_any (c : UInt8) (w : World) : Calls Tryz.prog 224 #[.int .u8 c.toNat] w fun e w' => e = .returned (.bool (letterB c)) ∧ w' = w := by
  have hc : c.toNat < 256 := UInt8.toNat_lt c
  cases hs : smallB c
  · have hl : letterB c = (decide ((65 : Int) ≤ (c.toNat : Int)) && decide ((c.toNat : Int) ≤ 90)) := by
      unfold letterB bigB; rw [hs, Bool.eq_iff_iff]; simp; omega
    rw [hl]
    have hsm := hide (fun w => hs ▸ small_any c w)
    clear hs hl
    generalize c.toNat = n at *
    by_cases h : 65 ≤ n
    · go_enter Tryz.func224, Tryz.ntmps224
      go_wp2_with (go_at_call 225; refine (hsm.out _).mono ?_; rintro e w' ⟨rfl, rfl⟩)
      go_ret
      refine ⟨ret_bool ?_, rfl⟩
      rw [Bool.eq_iff_iff]; simp; omega
    · go_enter Tryz.func224, Tryz.ntmps224
      go_wp2_with (go_at_call 225; refine (hsm.out _).mono ?_; rintro e w' ⟨rfl, rfl⟩)
      go_ret
      refine ⟨ret_bool ?_, rfl⟩
      rw [Bool.eq_iff_iff]; simp; omega
  · have hl : letterB c = true := by unfold letterB; rw [hs]; rfl
    rw [hl]
    have hsm := hide (fun w => hs ▸ small_any c w)
    clear hs hl
    go_enter Tryz.func224, Tryz.ntmps224
    go_wp2_with (go_at_call 225; refine (hsm.out _).mono ?_; rintro e w' ⟨rfl, rfl⟩)
    go_ret
    exact ⟨rfl, rfl⟩

theorem white_eq (c : UInt8) : whiteB c = ((c.toNat : Int) == 9 || (c.toNat : Int) == 10 || (c.toNat : Int) == 12 || (c.toNat : Int) == 13 || (c.toNat : Int) == 32) := by
  unfold whiteB
  rw [beq_at (d := 9) rfl, beq_at (d := 10) rfl, beq_at (d := 12) rfl, beq_at (d := 13) rfl, beq_at (d := 32) rfl]
  rfl

set_option maxHeartbeats 400000 in
theorem white_any (c : UInt8) (w : World) : Calls Tryz.prog 292 #[.int .u8 c.toNat] w fun e w' => e = .returned (.bool (whiteB c)) ∧ w' = w := by
  rw [white_eq]
  go_enter Tryz.func292, Tryz.ntmps292
  go_wp2
  all_goals go_ret
  all_goals exact ⟨ret_bool (by simp [*]), rfl⟩

set_option maxHeartbeats 400000 in
theorem noLt_any (c : UInt8) (w : World) : Calls Tryz.prog 159 #[.int .u8 c.toNat] w fun e w' => e = .returned (.bool (noLt c)) ∧ w' = w := by
  go_enter Tryz.func159, Tryz.ntmps159
  go_wp2
  go_ret
  exact ⟨ret_bool (byte_bne c 60), rfl⟩

set_option maxHeartbeats 400000 in
theorem tagN_any (c : UInt8) (w : World) : Calls Tryz.prog 291 #[.int .u8 c.toNat] w fun e w' => e = .returned (.bool (tagN c)) ∧ w' = w := by
  unfold tagN
  rw [bne_at (c := c) (d := 47) rfl, bne_at (c := c) (d := 62) rfl]
  have hw := hide (fun w => white_any c w)
  generalize whiteB c = b at *
  cases b
  all_goals
    go_enter Tryz.func291, Tryz.ntmps291
    go_wp2_with (go_at_call 292; refine (hw.out _).mono ?_; rintro e w' ⟨rfl, rfl⟩)
    all_goals go_ret
    all_goals exact ⟨ret_bool (by simp [*]), rfl⟩

set_option maxHeartbeats 400000 in
theorem attrN_any (c : UInt8) (w : World) : Calls Tryz.prog 318 #[.int .u8 c.toNat] w fun e w' => e = .returned (.bool (attrN c)) ∧ w' = w := by
  unfold attrN
  rw [bne_at (c := c) (d := 47) rfl, bne_at (c := c) (d := 62) rfl, bne_at (c := c) (d := 61) rfl]
  have hw := hide (fun w => white_any c w)
  generalize whiteB c = b at *
  cases b
  all_goals
    go_enter Tryz.func318, Tryz.ntmps318
    go_wp2_with (go_at_call 292; refine (hw.out _).mono ?_; rintro e w' ⟨rfl, rfl⟩)
    all_goals go_ret
    all_goals exact ⟨ret_bool (by simp [*]), rfl⟩

set_option maxHeartbeats 400000 in
theorem valN_any (c : UInt8) (w : World) : Calls Tryz.prog 335 #[.int .u8 c.toNat] w fun e w' => e = .returned (.bool (valN c)) ∧ w' = w := by
  unfold valN
  rw [bne_at (c := c) (d := 62) rfl]
  have hw := hide (fun w => white_any c w)
  generalize whiteB c = b at *
  cases b
  all_goals
    go_enter Tryz.func335, Tryz.ntmps335
    go_wp2_with (go_at_call 292; refine (hw.out _).mono ?_; rintro e w' ⟨rfl, rfl⟩)
    all_goals go_ret
    all_goals exact ⟨ret_bool (by simp [*]), rfl⟩

set_option maxHeartbeats 400000 in
theorem skip_any (c : UInt8) (w : World) : Calls Tryz.prog 293 #[.int .u8 c.toNat] w fun e w' => e = .returned (.bool (skipB c)) ∧ w' = w := by
  unfold skipB
  rw [beq_at (c := c) (d := 47) rfl]
  have hw := hide (fun w => white_any c w)
  generalize whiteB c = b at *
  cases b
  all_goals
    go_enter Tryz.func293, Tryz.ntmps293
    go_wp2_with (go_at_call 292; refine (hw.out _).mono ?_; rintro e w' ⟨rfl, rfl⟩)
    all_goals go_ret
    all_goals exact ⟨ret_bool (by simp [*]), rfl⟩

set_option maxHeartbeats 400000 in
theorem quote_any (c q : UInt8) (p : Addr) (w : World) (hq : w.cell? p = some (.int .u8 q.toNat)) : Calls Tryz.prog 336 #[.int .u8 c.toNat, .pointer (some p)] w fun e w' => e = .returned (.bool (c != q)) ∧ w' = w := by
  go_enter Tryz.func336, Tryz.ntmps336
  go_wp2
  go_ret
  exact ⟨ret_bool (byte_bne c q), rfl⟩
end Go.Proofs.YtlcljanibjdejaaGreat

namespace Go.Proofs.YtlcljanibjdejaaGreat
open Go.RowKit

/-- A block's first cells are these bytes, and may be written. -/
def RowAt (w : World) (b : Nat) (l : List UInt8) : Prop := ∀ j (_ : j < l.length), w.cell? ⟨b, j, none⟩ = some (.int .u8 (l[j].toNat : Int)) ∧ w.frozen? ⟨b, j, none⟩ = false

theorem bytes_new (s : ByteArray) (w : World) : ∃ W cap, (convert 9 107 (.string s)).run Tryz.prog w = .ok (.slice (some ⟨w.heap.size, 0, none⟩) s.size cap) W ∧ RowAt W w.heap.size s.data.toList ∧ Keeps [] w W := by
  refine ⟨_, _, run_bytes_of_string w 9 107 5 s Tryz.underlying9 Tryz.underlying107 Tryz.underlying5, ?_, ?_⟩
  · intro j hj
    have hj' : j < s.size := by simpa using hj
    have hh := heap_alloc_new w.drew (.cells (bytesRow s (grownCap w s.size 0 5)) 5 ((bytesRow s (grownCap w s.size 0 5)).size, (bytesRow s (grownCap w s.size 0 5)).size + 1))
    rw [show w.drew.heap.size = w.heap.size from rfl] at hh
    have hz : j < (bytesRow s (grownCap w s.size 0 5)).size := by
      simp only [bytesRow, Array.size_append, Array.size_map]
      exact Nat.lt_of_lt_of_le hj' (Nat.le_add_right _ _)
    constructor
    · unfold World.cell?
      rw [hh]
      have hd : j < s.data.size := hj'
      simp only [bytesRow, Option.isSome_none, Bool.false_eq_true, if_false]
      rw [Array.getElem?_append_left (by simpa using hd), Array.getElem?_map, Array.getElem?_eq_getElem hd]
      rfl
    · unfold World.frozen?
      rw [hh]
      simp
      omega
  · exact ((Keeps.refl [] w).drew).alloc _

theorem RowAt.set {w : World} {b : Nat} {l : List UInt8} (h : RowAt w b l) {i : Nat} (hi : i < l.length) (c : UInt8) : RowAt (w.setCell ⟨b, i, none⟩ (.int .u8 (c.toNat : Int))) b (l.set i c) := by
  intro j hj
  rw [List.length_set] at hj
  constructor
  · by_cases hij : i = j
    · subst hij
      rw [World.cell?_setCell_same _ _ _ (h i hi).1]
      simp
    · rw [World.cell?_setCell_other]
      · rw [(h j hj).1]
        simp [hij]
      · simp
  · rw [World.frozen?_setCell]
    exact (h j hj).2

/-- The first k bytes in small letters, the others as they are. -/
def lowTo (l : List UInt8) (k : Nat) : List UInt8 := lowerL (l.take k) ++ l.drop k

theorem lowTo_len (l : List UInt8) (k : Nat) : (lowTo l k).length = l.length := by simp [lowTo, lowerL]; omega
theorem lowTo_get (l : List UInt8) (k : Nat) (hk : k < l.length) : (lowTo l k)[k]'(by rw [lowTo_len]; exact hk) = l[k] := by
  simp only [lowTo, lowerL]
  rw [List.getElem_append_right (by simp; omega)]
  simp [Nat.min_eq_left (Nat.le_of_lt hk)]
theorem lowTo_succ (l : List UInt8) (k : Nat) (hk : k < l.length) : lowTo l (k + 1) = (lowTo l k).set k (lowB l[k]) := by
  unfold lowTo lowerL
  rw [List.take_succ_eq_append_getElem hk, List.map_append, List.set_append_right _ _ (by simp; omega)]
  simp [Nat.min_eq_left (Nat.le_of_lt hk)]
  rw [List.drop_eq_getElem_cons hk]
  rfl
theorem lowTo_all (l : List UInt8) : lowTo l l.length = lowerL l := by simp [lowTo]
theorem lowTo_zero (l : List UInt8) : lowTo l 0 = l := by simp [lowTo, lowerL]

theorem low_val (c : UInt8) (h : bigB c = true) : ((lowB c).toNat : Int) = (c.toNat : Int) - 65 + 97 := by
  have hb : 65 ≤ c.toNat ∧ c.toNat ≤ 90 := by simpa [bigB] using h
  unfold lowB
  rw [if_pos h, UInt8.toNat_add]
  have : (32 : UInt8).toNat = 32 := rfl
  rw [this]
  omega

theorem add_zero (b j : Nat) : (⟨b, 0, none⟩ : Addr).add j = ⟨b, j, none⟩ := by
  by_cases h : j = 0 <;> simp [Addr.add, h]

set_option maxHeartbeats 1000000 in
theorem lower_any (s : ByteArray) (w : World) (hs : s.size ≤ 3000) :
    Calls Tryz.prog 149 #[.string s] w fun e w' => e = .returned (.string ⟨(lowerL s.data.toList).toArray⟩) ∧ Keeps [] w w' := by
  obtain ⟨W, cap, hcv, hrow, hkW⟩ := bytes_new s w
  have hl := len_size s
  go_enter Tryz.func149, Tryz.ntmps149
  go_wp2_with fail
  go_loopw [10] (fun i wr => ∃ k : Nat, k ≤ s.size ∧ i = .int .i64 k ∧ RowAt wr w.heap.size (lowTo s.data.toList k) ∧ Keeps [] w wr) (fun i _ => s.size - (intOf i).toNat)
  case atStart => exact ⟨0, Nat.zero_le _, rfl, by rw [lowTo_zero]; exact hrow, hkW⟩
  case round =>
    obtain ⟨k, hk, rfl, hr, hkp⟩ := hrel
    clear hcv hrow hkW
    by_cases hlt : k < s.size
    · have hk' : k < s.data.toList.length := by omega
      have hc1 := (hr k (by rw [lowTo_len]; exact hk')).1
      have hf1 := (hr k (by rw [lowTo_len]; exact hk')).2
      rw [lowTo_get _ _ hk'] at hc1
      have hsucc := lowTo_succ s.data.toList k hk'
      have hset : (lowTo s.data.toList k).set k s.data.toList[k] = lowTo s.data.toList k := by
        have := @List.set_getElem_self _ (lowTo s.data.toList k) k (by rw [lowTo_len]; exact hk')
        rwa [lowTo_get _ _ hk'] at this
      generalize s.data.toList[k] = c at *
      cases hb : bigB c
      · have e1 : lowTo s.data.toList (k + 1) = lowTo s.data.toList k := by
          rw [hsucc]
          have : lowB c = c := by simp [lowB, hb]
          rw [this]
          exact hset
        have HR : Hid (RowAt wr w.heap.size (lowTo s.data.toList (k + 1))) := by rw [e1]; exact hr
        clear hsucc e1 hset
        cases hsm : smallB c
        · have hl0 : letterB c = false := by simp [letterB, hb, hsm]
          have hLt := hide (fun w => hl0 ▸ letter_any c w)
          clear hb hsm hl0
          go_wp2_with (go_at_call 224; refine (hLt.out _).mono ?_; rintro e w' ⟨rfl, rfl⟩)
          go_roundw
          case rel => exact ⟨k + 1, by omega, by go_num, HR.out, hkp⟩
          case measure => simp [intOf]; omega
        · have hl0 : letterB c = true := by simp [letterB, hsm]
          have hLt := hide (fun w => hl0 ▸ letter_any c w)
          have hSm := hide (fun w => hsm ▸ small_any c w)
          clear hb hsm hl0
          go_wp2_with (first | (go_at_call 224; refine (hLt.out _).mono ?_; rintro e w' ⟨rfl, rfl⟩) | (go_at_call 225; refine (hSm.out _).mono ?_; rintro e w' ⟨rfl, rfl⟩))
          go_roundw
          case rel => exact ⟨k + 1, by omega, by go_num, HR.out, hkp⟩
          case measure => simp [intOf]; omega
      · have hv := low_val c hb
        have hb' : 65 ≤ c.toNat ∧ c.toNat ≤ 90 := by simpa [bigB] using hb
        have hLt := hide (fun w => (show letterB c = true from by simp [letterB, hb]) ▸ letter_any c w)
        have hs0 : smallB c = false := by simp [smallB]; omega
        have hSm := hide (fun w => hs0 ▸ small_any c w)
        clear hs0
        have HR := hide (hr.set (by rw [lowTo_len]; exact hk') (lowB c))
        rw [← hsucc, hv] at HR
        clear hsucc hb hv
        go_wp2_with (first | (go_at_call 224; refine (hLt.out _).mono ?_; rintro e w' ⟨rfl, rfl⟩) | (go_at_call 225; refine (hSm.out _).mono ?_; rintro e w' ⟨rfl, rfl⟩))
        go_roundw
        case rel => exact ⟨k + 1, by omega, by go_num, HR.out, hkp.setCell (by simp) _⟩
        case measure => simp [intOf]; omega
    · have he : lowTo s.data.toList k = lowerL s.data.toList := by rw [show k = s.data.toList.length from by omega]; exact lowTo_all _
      rw [he] at hr
      have hlen : (lowerL s.data.toList).length = s.size := by simp [lowerL]
      have hcv2 := run_convert_bytes_back (P := Tryz.prog) wr 107 9 5 ⟨w.heap.size, 0, none⟩ cap (lowerL s.data.toList) Tryz.underlying107 Tryz.underlying5 Tryz.underlying9 (fun j hj => by
        rw [add_zero]; exact (hr j hj).1)
      rw [hlen] at hcv2
      clear he hr
      go_wp2_with fail
      go_ret
      exact ⟨rfl, hkp⟩

/-- Of the first k bytes each may stand in a name. -/
theorem name_all (s : ByteArray) (h : ∀ i (hi : i < s.size), nameB s[i] = true) : s.data.toList.all nameB = true := by
  rw [List.all_eq_true]
  intro c hc
  obtain ⟨i, hi, rfl⟩ := List.getElem_of_mem hc
  exact h i (by simpa using hi)

theorem name_not (s : ByteArray) (i : Nat) (hi : i < s.size) (h : nameB s[i] = false) : s.data.toList.all nameB = false := by
  rw [Bool.eq_false_iff]
  intro ha
  have := List.all_eq_true.1 ha s[i] (by
    have hl : i < s.data.toList.length := by simpa using hi
    exact List.getElem_mem hl)
  rw [h] at this
  simp at this

set_option maxHeartbeats 1000000 in
theorem isName_loop (s : ByteArray) (w : World) (h1 : 1 ≤ s.size) (h2 : s.size ≤ 20) (h3 : smallB s[0] = true) :
    Calls Tryz.prog 231 #[.string s] w fun e w' => e = .returned (.bool (s.data.toList.all nameB)) ∧ w' = w := by
  obtain ⟨r, hr⟩ : ∃ r, s.data.toList.all nameB = r := ⟨_, rfl⟩
  rw [hr]
  have HR := hide hr
  clear hr
  have hne : s.toList.isEmpty = false := by
    rw [ByteArray.toList_eq]
    have := len_size s
    cases hq : s.data.toList with
    | nil => rw [hq] at this; simp at this; omega
    | cons a b => rfl
  have hs0 := hide (fun w => h3 ▸ small_any s[0] w)
  have hb20 : decide ((20 : Int) < (s.size : Int)) = false := by simp; omega
  clear h3
  go_enter Tryz.func231, Tryz.ntmps231
  go_wp2_with (go_at_call 225; refine (hs0.out _).mono ?_; rintro e w' ⟨rfl, rfl⟩)
  go_loop [3] (fun i => ∃ k : Nat, k ≤ s.size ∧ i = .int .i64 k ∧ Hid (∀ i (hi : i < s.size), i < k → nameB s[i] = true)) (fun i => s.size - (intOf i).toNat)
  case atStart => exact ⟨0, Nat.zero_le _, rfl, fun i hi h => by omega⟩
  case round =>
    obtain ⟨k, hk, rfl, hall⟩ := hrel
    by_cases hlt : k < s.size
    · cases hn : nameB s[k]
      · have hr : Hid (r = false) := HR.out.symm.trans (name_not s k hlt hn)
        have hs1 : smallB s[k] = false := by revert hn; unfold nameB; cases smallB s[k] <;> simp
        have hd1 : digB s[k] = false := by revert hn; unfold nameB; cases digB s[k] <;> simp
        have h45 : ((s[k].toNat : Int) != 45) = true := by
          rw [← bne_at (d := 45) (k := 45) rfl]
          revert hn; unfold nameB; cases hq : s[k] == 45
          · intro _; simpa using hq
          · simp
        have hS := hide (fun w => hs1 ▸ small_any s[k] w)
        have hD := hide (fun w => hd1 ▸ dig_any s[k] w)
        clear hn hs1 hd1 hall
        go_wp2_with (first | (go_at_call 225; refine (hS.out _).mono ?_; rintro e w' ⟨rfl, rfl⟩) | (go_at_call 285; refine (hD.out _).mono ?_; rintro e w' ⟨rfl, rfl⟩))
        go_ret
        rw [hr.out]
        exact ⟨rfl, rfl⟩
      · have hall' : Hid (∀ i (hi : i < s.size), i < k + 1 → nameB s[i] = true) := by
          intro i hi h
          by_cases hik : i = k
          · subst hik; exact hn
          · exact hall.out i hi (by omega)
        clear hall
        cases hs1 : smallB s[k]
        · have hS := hide (fun w => hs1 ▸ small_any s[k] w)
          cases hd1 : digB s[k]
          · have hD := hide (fun w => hd1 ▸ dig_any s[k] w)
            have h45 : ((s[k].toNat : Int) != 45) = false := by
              rw [← bne_at (d := 45) (k := 45) rfl]
              revert hn; unfold nameB; rw [hs1, hd1]; simp
            clear hn hs1 hd1
            go_wp2_with (first | (go_at_call 225; refine (hS.out _).mono ?_; rintro e w' ⟨rfl, rfl⟩) | (go_at_call 285; refine (hD.out _).mono ?_; rintro e w' ⟨rfl, rfl⟩))
            go_round
            case rel => exact ⟨k + 1, by omega, by go_num, hall'⟩
            case measure => simp [intOf]; omega
          · have hD := hide (fun w => hd1 ▸ dig_any s[k] w)
            clear hn hs1 hd1
            go_wp2_with (first | (go_at_call 225; refine (hS.out _).mono ?_; rintro e w' ⟨rfl, rfl⟩) | (go_at_call 285; refine (hD.out _).mono ?_; rintro e w' ⟨rfl, rfl⟩))
            go_round
            case rel => exact ⟨k + 1, by omega, by go_num, hall'⟩
            case measure => simp [intOf]; omega
        · have hS := hide (fun w => hs1 ▸ small_any s[k] w)
          clear hn hs1
          go_wp2_with (go_at_call 225; refine (hS.out _).mono ?_; rintro e w' ⟨rfl, rfl⟩)
          go_round
          case rel => exact ⟨k + 1, by omega, by go_num, hall'⟩
          case measure => simp [intOf]; omega
    · have hr : Hid (r = true) := HR.out.symm.trans (name_all s fun i hi => hall.out i hi (by omega))
      clear hall
      go_wp2
      go_ret
      rw [hr.out]
      exact ⟨rfl, rfl⟩

theorem isName_any (s : ByteArray) (w : World) (hs : s.size ≤ 3000) :
    Calls Tryz.prog 231 #[.string s] w fun e w' => e = .returned (.bool (isNameL s.data.toList)) ∧ w' = w := by
  unfold isNameL
  rw [len_size]
  by_cases h1 : 1 ≤ s.size
  · have e0 : s.data.toList.getD 0 0 = s[0] := byteAt_eq s 0 (by omega)
    have hne : s.toList.isEmpty = false := by
      rw [ByteArray.toList_eq]
      have := len_size s
      cases hq : s.data.toList with
      | nil => rw [hq] at this; simp at this; omega
      | cons a b => rfl
    rw [e0]
    by_cases h2 : s.size ≤ 20
    · cases h3 : smallB s[0]
      · have hs0 := hide (fun w => h3 ▸ small_any s[0] w)
        simp only [Bool.and_false, Bool.false_and]
        clear h3 e0
        go_enter Tryz.func231, Tryz.ntmps231
        go_wp2_with (go_at_call 225; refine (hs0.out _).mono ?_; rintro e w' ⟨rfl, rfl⟩)
        go_ret
        exact ⟨rfl, rfl⟩
      · refine (isName_loop s w h1 h2 h3).mono fun e w' ⟨he, hw⟩ => ⟨he.trans (ret_bool ?_), hw⟩
        simp [h1, h2]
    · rw [decide_eq_false h2]
      simp only [Bool.and_false, Bool.false_and]
      clear e0
      go_enter Tryz.func231, Tryz.ntmps231
      go_wp2
      go_ret
      exact ⟨rfl, rfl⟩
  · rw [decide_eq_false h1]
    simp only [Bool.false_and]
    have hne : s.toList.isEmpty = true := by
      rw [ByteArray.toList_eq]
      have := len_size s
      cases hq : s.data.toList with
      | nil => rfl
      | cons a b => rw [hq] at this; simp at this; omega
    go_enter Tryz.func231, Tryz.ntmps231
    go_wp2
    go_ret
    exact ⟨rfl, rfl⟩
end Go.Proofs.YtlcljanibjdejaaGreat

namespace Go.Proofs.YtlcljanibjdejaaGreat

theorem numF_all {base : Nat} : ∀ {l : List UInt8} {n m : Nat}, numF base n l = some m → ∀ c ∈ l, digV c < base
  | [], _, _, _, c, hc => by simp at hc
  | d :: l, n, m, h, c, hc => by
    simp only [numF] at h
    split at h
    · simp at h
    · rename_i hd
      rcases List.mem_cons.1 hc with rfl | hc
      · omega
      · exact numF_all h c hc

theorem numF_none {base : Nat} : ∀ {l : List UInt8} {n : Nat} {c : UInt8}, c ∈ l → base ≤ digV c → numF base n l = none := by
  intro l n c hc hb
  cases h : numF base n l with
  | none => rfl
  | some m => have := numF_all h c hc; omega

theorem dig_inName {c : UInt8} (h : digV c < 16) : inName c = true := by
  unfold inName
  by_cases h1 : c = 59
  · subst h1; exact absurd h (by decide)
  · by_cases h2 : c = 38
    · subst h2; exact absurd h (by decide)
    · simp [h1, h2]

theorem told16 (X : List UInt8) : toldL ([35, 120] ++ X) = numL 16 6 X := by simp [toldL]
theorem told10 (X : List UInt8) (h : X.head? ≠ some 120) : toldL ([35] ++ X) = numL 10 7 X := by
  cases X with
  | nil => simp [toldL]
  | cons c X =>
    have : c ≠ 120 := by simpa using h
    simp [toldL, Ne.symm this]

/-- The name that stands at the head. -/
def nm (l : List UInt8) : List UInt8 := l.takeWhile inName

theorem signL_eq (l : List UInt8) : signL l = if l[(nm l).length]? = some 59 then (toldL (nm l)).map fun n => (n, (nm l).length + 1) else none := rfl

theorem nm_append {a b : List UInt8} (h : ∀ c ∈ a, inName c = true) : nm (a ++ b) = a ++ nm b := List.takeWhile_append_of_pos h

theorem nm_at (l : List UInt8) : ∀ c, l[(nm l).length]? = some c → inName c = false := by
  induction l with
  | nil => intro c h; simp at h
  | cons d l ih =>
    intro c h
    by_cases hd : inName d = true
    · simp only [nm, List.takeWhile_cons, hd, if_true, List.length_cons, List.getElem?_cons_succ] at h
      exact ih c h
    · simp only [nm, List.takeWhile_cons, hd] at h
      simp at h
      subst h
      simpa using hd

theorem nm_all (l : List UInt8) : ∀ c ∈ nm l, inName c = true := fun c h => by
  have := List.all_takeWhile (p := inName) (l := l)
  exact List.all_eq_true.1 this c h

/-- A name and a ; stand at the head. -/
theorem signL_named {p r : List UInt8} {n : Nat} (hp : ∀ c ∈ p, inName c = true) (ht : toldL p = some n) : signL (p ++ 59 :: r) = some (n, p.length + 1) := by
  have e : nm (p ++ 59 :: r) = p := by rw [nm_append hp]; simp [nm, inName]
  rw [signL_eq, e, if_pos (by simp), ht]
  rfl

/-- What is told as a name, not as a number: its ; comes behind it. -/
theorem signL_split {l : List UInt8} {n m : Nat} (h : signL l = some (n, m)) : ∃ r, l = nm l ++ 59 :: r ∧ toldL (nm l) = some n ∧ m = (nm l).length + 1 := by
  rw [signL_eq] at h
  split at h
  · rename_i hg
    cases ht : toldL (nm l) with
    | none => rw [ht] at h; simp at h
    | some x =>
      rw [ht] at h
      simp at h
      obtain ⟨h1, h2⟩ := List.getElem?_eq_some_iff.1 hg
      refine ⟨l.drop ((nm l).length + 1), ?_, by rw [h.1], h.2.symm⟩
      have e1 : l.take (nm l).length = nm l := (List.prefix_iff_eq_take.1 (List.takeWhile_prefix _)).symm
      conv => lhs; rw [← List.take_append_drop (nm l).length l]
      rw [e1, List.drop_eq_getElem_cons h1, h2]
  · simp at h

/-- A sign is told by one of five names, or begins with #. -/
theorem signL_none {l : List UInt8} (h1 : List.isPrefixOf [97, 109, 112, 59] l = false) (h2 : List.isPrefixOf [108, 116, 59] l = false) (h3 : List.isPrefixOf [103, 116, 59] l = false)
    (h4 : List.isPrefixOf [113, 117, 111, 116, 59] l = false) (h5 : List.isPrefixOf [97, 112, 111, 115, 59] l = false) (h6 : List.isPrefixOf [35] l = false) : signL l = none := by
  cases hs : signL l with
  | none => rfl
  | some x =>
    obtain ⟨n, m⟩ := x
    obtain ⟨r, hl, ht, hm⟩ := signL_split hs
    generalize nm l = p at *
    subst hl
    unfold toldL at ht
    split at ht
    · rename_i e; subst e; simp at h1
    · split at ht
      · rename_i e; subst e; simp at h2
      · split at ht
        · rename_i e; subst e; simp at h3
        · split at ht
          · rename_i e; subst e; simp at h4
          · split at ht
            · rename_i e; subst e; simp at h5
            · split at ht
              · rename_i e
                cases p with
                | nil => simp at e
                | cons c p => simp at e; obtain ⟨e1, _⟩ := e; subst e1; simp at h6
              · split at ht
                · rename_i e
                  cases p with
                  | nil => simp at e
                  | cons c p => simp at e; subst e; simp at h6
                · simp at ht

/-- A number and a ; stand at the head, behind what begins a number. -/
theorem signL_num {pre ds r : List UInt8} {base most n : Nat} (hpre : ∀ c ∈ pre, inName c = true) (hb : base ≤ 16) (hn : numF base 0 ds = some n) (h1 : 1 ≤ ds.length) (h2 : ds.length ≤ most)
    (ht : toldL (pre ++ ds) = numL base most ds) : signL (pre ++ (ds ++ 59 :: r)) = some (n, pre.length + ds.length + 1) := by
  have hds : ∀ c ∈ ds, inName c = true := fun c hc => dig_inName (by have := numF_all hn c hc; omega)
  have hall : ∀ c ∈ pre ++ ds, inName c = true := fun c hc => by
    rcases List.mem_append.1 hc with h | h
    · exact hpre c h
    · exact hds c h
  rw [← List.append_assoc, signL_named (n := n) hall]
  · simp
  · rw [ht]; unfold numL; rw [if_neg (by omega)]; exact hn

/-- No number and ; stand there: what stops the digits is no ;, or they are too many, or none. -/
theorem signL_nonum {pre ds m : List UInt8} {base most n : Nat} (hpre : ∀ c ∈ pre, inName c = true) (hb : base ≤ 16) (hn : numF base 0 ds = some n)
    (ht : toldL (pre ++ nm (ds ++ m)) = numL base most (nm (ds ++ m)))
    (hexit : m = [] ∨ (∃ c r, m = c :: r ∧ base ≤ digV c) ∨ most < ds.length) (hbad : ds = [] ∨ most < ds.length ∨ m = [] ∨ ∃ c r, m = c :: r ∧ c ≠ 59) : signL (pre ++ (ds ++ m)) = none := by
  have hds : ∀ c ∈ ds, inName c = true := fun c hc => dig_inName (by have := numF_all hn c hc; omega)
  have e : nm (pre ++ (ds ++ m)) = pre ++ nm (ds ++ m) := nm_append hpre
  have e2 : nm (ds ++ m) = ds ++ nm m := nm_append hds
  rw [signL_eq, e, ht]
  split
  · rename_i hg
    rw [e2] at hg ⊢
    have hnone : numL base most (ds ++ nm m) = none := by
      unfold numL
      by_cases hlen : (ds ++ nm m).length < 1 ∨ most < (ds ++ nm m).length
      · rw [if_pos hlen]
      · rw [if_neg hlen]
        simp only [List.length_append] at hlen
        rcases hexit with h | ⟨c, r, h, hc⟩ | h
        · subst h
          simp [nm] at hg
        · subst h
          by_cases hcn : inName c = true
          · exact numF_none (c := c) (by simp [nm, hcn]) hc
          · have hn0 : nm (c :: r) = [] := by simp [nm, hcn]
            rw [hn0] at hg hlen
            simp at hg
            rcases hbad with h | h | h | ⟨c', r', h, hc'⟩
            · subst h; simp at hlen
            · simp at hlen; omega
            · simp at h
            · simp at h; exact absurd hg (by rw [h.1]; exact hc')
        · omega
    rw [hnone]
    rfl
  · rfl
end Go.Proofs.YtlcljanibjdejaaGreat

namespace Go.Proofs.YtlcljanibjdejaaGreat
open Go.RowKit

/-- Does p stand at a place of s? -/
def stAt (s : ByteArray) (k : Nat) (p : List UInt8) : Bool := p.isPrefixOf (s.data.toList.drop k)

theorem stAt_eq (s : ByteArray) (k : Nat) (p : ByteArray) : ((s.extract k (k + p.size)).toList == p.toList) = stAt s k p.data.toList := by
  rw [ByteArray.toList_eq, ByteArray.toList_eq, Lib.extract_data, Nat.add_sub_cancel_left, Bool.eq_iff_iff, stAt, List.isPrefixOf_iff_prefix, beq_iff_eq, List.prefix_iff_eq_take, len_size]
  exact eq_comm

theorem stAt_short (s : ByteArray) (k : Nat) (p : ByteArray) (h : s.size < k + p.size) (hk : k ≤ s.size) : stAt s k p.data.toList = false := by
  rw [Bool.eq_false_iff]
  intro hp
  have := (List.isPrefixOf_iff_prefix.1 hp).length_le
  rw [List.length_drop, len_size, len_size] at this
  omega

end Go.Proofs.YtlcljanibjdejaaGreat

namespace Go.Proofs
open Go.Shelf
def Tryz.lays143_ren : Go.Shelf.Ren := ⟨fun | 143 => 233 | 219 => 295 | 217 => 315 | 225 => 320 | 224 => 321 | 267 => 322 | 266 => 334 | 314 => 337 | n => n, fun | 9 => 9 | 3 => 3 | 4 => 4 | 5 => 5 | 46 => 245 | 146 => 274 | 51 => 270 | n => n, fun | 1 => 0 | n => n⟩
theorem Tryz.lays143 : Go.Proofs.Lays.n143 Tryz.prog Tryz.lays143_ren := {
  mixed := by kernel_rfl
  f143 := Tryz.func233.trans (congrArg some (by kernel_rfl))
  f217 := Tryz.func315.trans (congrArg some (by kernel_rfl))
  f219 := Tryz.func295.trans (congrArg some (by kernel_rfl))
  f224 := Tryz.func321.trans (congrArg some (by kernel_rfl))
  f225 := Tryz.func320.trans (congrArg some (by kernel_rfl))
  f266 := Tryz.func334.trans (congrArg some (by kernel_rfl))
  f267 := Tryz.func322.trans (congrArg some (by kernel_rfl))
  f314 := Tryz.func337.trans (congrArg some (by kernel_rfl))
  t3 := Tryz.underlying3
  a3 := Tryz.isAgg3
  z3 := Tryz.sizeOf3
  v3 := Tryz.zeroValue3
  t4 := Tryz.underlying4
  a4 := Tryz.isAgg4
  z4 := Tryz.sizeOf4
  v4 := Tryz.zeroValue4
  t5 := Tryz.underlying5
  a5 := Tryz.isAgg5
  z5 := Tryz.sizeOf5
  v5 := Tryz.zeroValue5
  t9 := Tryz.underlying9
  a9 := Tryz.isAgg9
  z9 := Tryz.sizeOf9
  v9 := Tryz.zeroValue9
  t46 := Tryz.underlying245
  a46 := Tryz.isAgg245
  z46 := Tryz.sizeOf245
  v46 := Tryz.zeroValue245
  t51 := Tryz.underlying270
  a51 := Tryz.isAgg270
  z51 := Tryz.sizeOf270
  v51 := Tryz.zeroValue270
  t146 := Tryz.underlying274
  a146 := Tryz.isAgg274
  z146 := Tryz.sizeOf274
  v146 := Tryz.zeroValue274
  g1 := by kernel_rfl }
open Go.RowKit Go.Lib in
theorem Tryz.strings_Index_one (s : ByteArray) (c : UInt8) (w : World) :
    Calls Tryz.prog 233 #[.string s, .string ⟨#[c]⟩] w fun e w' => e = .returned (.int .i64 (Lib.indexByte s.data.toList c)) ∧ w' = w := Any.strings_Index_one Tryz.lays143 s c w
open Go.RowKit Go.Lib in
theorem Tryz.strings_Index (s sub : ByteArray) (m : Int) (w : World) (hs : s.size < 4294967281) (hm : w.cell? ⟨0, 0, none⟩ = some (.int .i64 m)) :
    Calls Tryz.prog 233 #[.string s, .string sub] w fun e w' => e = .returned (.int .i64 (Lib.index s.data.toList sub.data.toList)) ∧ w' = w := Any.strings_Index Tryz.lays143 s sub m w hs hm
def Tryz.laysM143_ren : Go.Shelf.Ren := ⟨fun | 143 => 233 | 219 => 295 | 217 => 315 | 225 => 320 | 224 => 321 | 267 => 322 | 266 => 334 | 314 => 337 | n => n, fun | 9 => 9 | 3 => 3 | 4 => 4 | 5 => 5 | 46 => 245 | 146 => 274 | 51 => 270 | n => n, fun | 1 => 0 | n => n⟩
theorem Tryz.laysM143 : Go.Proofs.LaysM.n143 Tryz.prog Tryz.laysM143_ren := {
  mixed := by kernel_rfl
  f143 := Tryz.func233.trans (congrArg some (by kernel_rfl))
  f217 := Tryz.func315.trans (congrArg some (by kernel_rfl))
  f219 := Tryz.func295.trans (congrArg some (by kernel_rfl))
  f224 := Tryz.func321.trans (congrArg some (by kernel_rfl))
  f225 := Tryz.func320.trans (congrArg some (by kernel_rfl))
  f266 := Tryz.func334.trans (congrArg some (by kernel_rfl))
  f267 := Tryz.func322.trans (congrArg some (by kernel_rfl))
  f314 := Tryz.func337.trans (congrArg some (by kernel_rfl))
  t3 := Tryz.underlying3
  a3 := Tryz.isAgg3
  z3 := Tryz.sizeOf3
  v3 := Tryz.zeroValue3
  t4 := Tryz.underlying4
  a4 := Tryz.isAgg4
  z4 := Tryz.sizeOf4
  v4 := Tryz.zeroValue4
  t5 := Tryz.underlying5
  a5 := Tryz.isAgg5
  z5 := Tryz.sizeOf5
  v5 := Tryz.zeroValue5
  t9 := Tryz.underlying9
  a9 := Tryz.isAgg9
  z9 := Tryz.sizeOf9
  v9 := Tryz.zeroValue9
  t46 := Tryz.underlying245
  a46 := Tryz.isAgg245
  z46 := Tryz.sizeOf245
  v46 := Tryz.zeroValue245
  t51 := Tryz.underlying270
  a51 := Tryz.isAgg270
  z51 := Tryz.sizeOf270
  v51 := Tryz.zeroValue270
  t146 := Tryz.underlying274
  a146 := Tryz.isAgg274
  z146 := Tryz.sizeOf274
  v146 := Tryz.zeroValue274
  g1 := by kernel_rfl
  i3 := by kernel_rfl
  i4 := by kernel_rfl
  i5 := by kernel_rfl
  i9 := by kernel_rfl
  i46 := by kernel_rfl
  i51 := by kernel_rfl
  i146 := by kernel_rfl
  m1 := by kernel_rfl
  s1_3 := fun w h => Go.Proofs.cell_of_shapedOpen_int (zero := #[.int .i64 0]) (t := 3) h (of_decide_eq_true (by kernel_rfl)) (by kernel_rfl) rfl (by kernel_rfl) (by kernel_rfl) Tryz.underlying3 }
end Go.Proofs

namespace Go.Proofs.YtlcljanibjdejaaGreat
open Go.RowKit

set_option maxHeartbeats 400000 in
theorem begins_any (b : Nat) (s : ByteArray) (k : Nat) (p : ByteArray) (w : World) (hT : IsText w b s k) (hk : k ≤ s.size) :
    Calls Tryz.prog 155 #[.pointer (some ⟨b, 0, none⟩), .string p] w fun e w' => e = .returned (.bool (stAt s k p.data.toList)) ∧ ∃ n, w' = w.drewN n := by
  have c0 := hT.cell0
  have c1 := hT.cell1
  have e1 : Lib.hasPrefix (s.extract k s.size).data.toList p.data.toList = stAt s k p.data.toList := by rw [Lib.extract_to_end]; rfl
  have hp := hide (fun w => e1 ▸ Tryz.strings_HasPrefix (s.extract k s.size) p w)
  generalize stAt s k p.data.toList = r at *
  clear e1
  go_enter Tryz.func155, Tryz.ntmps155
  go_wp2_with fail
  go_quiet ((go_at_call 220; exact Calls.quiet_of_same (hp.out _)))
  go_wp2
  go_ret
  exact ⟨rfl, _, rfl⟩

set_option maxHeartbeats 400000 in
theorem ahead_any (b : Nat) (s : ByteArray) (k n : Nat) (w : World) (hs : s.size ≤ 3000) (hT : IsText w b s k) (hk : k ≤ s.size) (hn : n ≤ 3000) :
    Calls Tryz.prog 228 #[.pointer (some ⟨b, 0, none⟩), .int .i64 n, .func (.func 224) #[] #[]] w fun e w' => e = .returned (.bool (decide (k + n < s.size) && letterB (byteAt s (k + n)))) ∧ ∃ n, w' = w.drewN n := by
  have c0 := hT.cell0
  have c1 := hT.cell1
  by_cases h : k + n < s.size
  · have hd : decide ((n : Int) < (s.size : Int) - (k : Int)) = true := by simp; omega
    have hlt : (n : Int) < (s.size : Int) - (k : Int) := by omega
    have hlt2 : (k : Int) + (n : Int) < (s.size : Int) := by omega
    have hlt3 : (0 : Int) ≤ (k : Int) + (n : Int) := by omega
    rw [decide_eq_true h, byteAt_eq s _ h]
    have hl := hide (fun w => letter_any s[k + n] w)
    generalize letterB s[k + n] = r at *
    go_enter Tryz.func228, Tryz.ntmps228
    go_wp2_with fail
    go_quiet ((go_at_call 224; exact Calls.quiet_of_same (hl.out _)))
    go_wp2
    go_ret
    exact ⟨by simp, _, rfl⟩
  · have hd : decide ((n : Int) < (s.size : Int) - (k : Int)) = false := by simp; omega
    rw [decide_eq_false h]
    go_enter Tryz.func228, Tryz.ntmps228
    go_wp2_with fail
    go_quiet (fail)
    go_wp2
    go_ret
    exact ⟨rfl, _, rfl⟩

set_option maxHeartbeats 400000 in
theorem rest_any (b : Nat) (s : ByteArray) (k : Nat) (w : World) (hT : IsText w b s k) (hk : k ≤ s.size) :
    Calls Tryz.prog 80 #[.pointer (some ⟨b, 0, none⟩)] w fun e w' => e = .returned (.string (s.extract k s.size)) ∧ IsText w' b s s.size ∧ Keeps [b] w w' := by
  have c0 := hT.cell0
  have c1 := hT.cell1
  have f1 := hT.free1
  go_enter Tryz.func80, Tryz.ntmps80
  go_wp2_with fail
  go_quiet (fail)
  go_wp2
  go_ret
  exact ⟨rfl, hT.set s.size, ((Keeps.refl _ _).setCell (by simp) _).drewN _⟩

/-- The package's own variable holds some number. -/
def HasMax (w : World) : Prop := ∃ m, w.cell? ⟨0, 0, none⟩ = some (.int .i64 m)

theorem HasMax.lt {w : World} (h : HasMax w) : 0 < w.heap.size := by
  obtain ⟨m, hm⟩ := h
  rcases Nat.lt_or_ge 0 w.heap.size with h' | h'
  · exact h'
  · unfold World.cell? at hm
    rw [Array.getElem?_eq_none h'] at hm
    simp at hm

theorem HasMax.keeps {S : List Nat} {w w' : World} (h : HasMax w) (hk : Keeps S w w') (h0 : 0 ∉ S) : HasMax w' := by
  obtain ⟨m, hm⟩ := id h
  exact ⟨m, (World.cell?_of_block (a := ⟨0, 0, none⟩) (hk.block 0 h.lt h0)).trans hm⟩

theorem index_le : ∀ (l p : List UInt8), Lib.index l p ≤ l.length
  | [], p => by unfold Lib.index; split <;> simp
  | c :: l, p => by
    have := index_le l p
    unfold Lib.index
    split
    · simp; omega
    · split
      · simp; omega
      · simp; omega

/-- Where a mark ends, from a place on. -/
def endOf (mark l : List UInt8) : Option Nat := if Lib.index l mark < 0 then none else some ((Lib.index l mark).toNat + mark.length)

set_option maxHeartbeats 400000 in
theorem passTo_any (b : Nat) (s : ByteArray) (k : Nat) (p : ByteArray) (w : World) (hs : s.size ≤ 3000) (hp : p.size ≤ 3000) (hT : IsText w b s k) (hk : k ≤ s.size) (hM : HasMax w) :
    Calls Tryz.prog 156 #[.pointer (some ⟨b, 0, none⟩), .string p] w fun e w' =>
      ((∃ m, endOf p.data.toList (s.data.toList.drop k) = some m ∧ e = .returned (.string (s.extract k (k + m - p.size))) ∧ IsText w' b s (k + m)) ∨ (endOf p.data.toList (s.data.toList.drop k) = none ∧ e = .panicked gave ∧ IsText w' b s k)) ∧ Keeps [b] w w' := by
  have c0 := hT.cell0
  have c1 := hT.cell1
  have f1 := hT.free1
  obtain ⟨m, hm⟩ := hM
  obtain ⟨i, hi⟩ : ∃ i, Lib.index (s.data.toList.drop k) p.data.toList = i := ⟨_, rfl⟩
  have e1 : Lib.index (s.extract k s.size).data.toList p.data.toList = i := by rw [Lib.extract_to_end]; exact hi
  have hx := hide (fun n => e1 ▸ Tryz.strings_Index (s.extract k s.size) p m (w.drewN n) (by simp; omega) hm)
  have hge := Lib.index_ge (s.data.toList.drop k) p.data.toList
  have hle := index_le (s.data.toList.drop k) p.data.toList
  rw [List.length_drop, len_size, hi] at hle
  rw [hi] at hge
  have he := hide (show endOf p.data.toList (s.data.toList.drop k) = if i < 0 then none else some (i.toNat + p.size) from by unfold endOf; rw [hi, len_size])
  clear hm hi e1
  generalize endOf p.data.toList (s.data.toList.drop k) = E at *
  by_cases hneg : i < 0
  · go_enter Tryz.func156, Tryz.ntmps156
    go_wp2_with fail
    go_quiet ((go_at_call 233; exact Calls.quiet_of_same (hx.out _)))
    go_wp2_with fail
    refine (giveUp_any _).mono ?_
    rintro e w1 ⟨rfl, rfl⟩
    go_wp2_with fail
    exact ⟨rfl, .inr ⟨he.out.trans (if_pos hneg), rfl, hT⟩, (Keeps.refl _ _).drewN _⟩
  · obtain ⟨j, rfl⟩ : ∃ j : Nat, i = j := ⟨i.toNat, by omega⟩
    go_enter Tryz.func156, Tryz.ntmps156
    go_wp2_with fail
    go_quiet ((go_at_call 233; exact Calls.quiet_of_same (hx.out _)))
    go_wp2_with fail
    go_quiet (fail)
    go_wp2_with fail
    go_ret
    refine ⟨.inl ⟨j + p.size, he.out.trans (if_neg (by omega)), ?_, ?_⟩, ((Keeps.refl _ _).setCell (by simp) _).drewN _⟩
    · rw [show k + (j + p.size) - p.size = k + j from by omega]
      rfl
    · exact hT.set (k + (j + p.size))

set_option maxHeartbeats 400000 in
theorem tak_any (s : ByteArray) (w : World) (hs : s.size ≤ 3000) :
    Calls Tryz.prog 160 #[.string s] w fun e w' => e = .returned (.string ⟨(takeL s.data.toList).1.toArray⟩) ∧ Keeps [] w w' := by
  have ht : ∀ w, Calls Tryz.prog 101 #[.string s] w fun e w' => e = .returned (.tuple #[.string ⟨(takeL s.data.toList).1.toArray⟩, .int .i64 0]) ∧ Keeps [] w w' := fun w =>
    (take_any s w (by unfold maxLen; omega)).mono fun _ _ ⟨he, hk⟩ => ⟨he.trans (by unfold takeAns; rw [len_size, if_neg (by omega)]; rfl), hk⟩
  have HT := hide ht
  clear ht
  generalize (takeL s.data.toList).1 = r at *
  go_enter Tryz.func160, Tryz.ntmps160
  go_wp2_with fail
  refine (HT.out _).mono ?_
  rintro e w1 ⟨rfl, hk1⟩
  go_wp2_with fail
  go_ret
  exact ⟨rfl, hk1⟩
end Go.Proofs.YtlcljanibjdejaaGreat

namespace Go.Proofs.YtlcljanibjdejaaGreat
open Go.RowKit

theorem step_is {P : Program} {ops : Array Oper} {o : Oper} {a : Act} {w : World} {K : Act → World → Prop} {Q : Exit → Act → World → Prop} {E : Prop} (hg : o.guard = none) (h : Oper.wp P o a w K Q) :
    if Region.wanted o (yielded ops a.tmps) = true then Oper.wp P o a w K Q else E := by
  have hw : Region.wanted o (yielded ops a.tmps) = true := by simp [Region.wanted, hg]
  rw [if_pos hw]
  exact h

theorem step_call {ops : Array Oper} {o : Oper} {a : Act} {w : World} {K : Act → World → Prop} {Q : Exit → Act → World → Prop} {E : Prop} (hg : o.guard = none)
    (f : FuncId) (xs : Array Operand) (ts : Array TypeId) (hop : o.op = .call { callee := .value (.func f), args := xs, argTypes := ts }) (hE : Enters f) (args : Array Value) (hxs : xs.map a.eval = args)
    {R : Ending → World → Prop} (hc : Calls Tryz.prog f args w R) (hK : ∀ e w', R e w' → ∃ v, e = .returned v ∧ K (a.put o.dst v) w') :
    if Region.wanted o (yielded ops a.tmps) = true then Oper.wp Tryz.prog o a w K Q else E := by
  refine step_is hg ?_
  have hr : (execOp a.eval o).run Tryz.prog w = .ok (.enter f args) w := by
    have hE' := hE args w
    simp [execOp, hop, resolve, invoke, Act.eval, Deferred.ofValue, hxs, hE']
  unfold Oper.wp
  rw [hr, Oper.upon_enter]
  refine hc.mono fun e w' h => ?_
  obtain ⟨v, rfl, hk⟩ := hK e w' h
  exact hk

/-- An append of a slice's cells onto a row that the call owns. -/
theorem step_own {P : Program} {ops : Array Oper} {o : Oper} {a : Act} {w : World} {K : Act → World → Prop} {Q : Exit → Act → World → Prop} {E : Prop} (hg : o.guard = none) (s x : Operand) (t : TypeId)
    (ho : o.op = .call { callee := .builtin .append, args := #[s, x], argTypes := #[t, t] })
    (base : Nat) (e : TypeId) (i : TypeInfo) (z : Value) (size bytes : Nat) (ht : P.underlying t = some (.slice e)) (hi : P.info? e = some i) (hz : i.zero = some z)
    (hsize : i.size = size) (hby : i.bytes = bytes) (hzs : z.cells.size = size) (hsz : 0 < size)
    (v : Value) (n : Nat) (xs : List Value) (hs : a.eval s = v) (hown : w.ownsRow base e size v n xs)
    (ad : Addr) (m c : Nat) (news : List Value) (hx : a.eval x = .slice (some ad) m c) (hl : news.length = m * size) (hnews : ∀ j u, news[j]? = some u → w.cell? (ad.add j) = some u) (h1 : ∀ u ∈ news, u.oneCell' = true)
    (h63 : n + m ≤ maxLen) (hbytes : (n + m) * bytes ≤ 140737488355328) (hbase : base ≤ w.heap.size)
    (h : ∀ v' w', w'.ownsRow base e size v' (n + m) (xs ++ news) → w.grownBy w' v.ownBlock → K (a.put o.dst v') w') :
    if Region.wanted o (yielded ops a.tmps) = true then Oper.wp P o a w K Q else E :=
  step_is hg (wp_append_own w s x t ho base e i z size bytes ht hi hz hsize hby hzs hsz v n xs hs hown ad m c news hx hl hnews h1 h63 hbytes hbase fun v' w' h2 h3 _ => h v' w' h2 h3)

/-- An append of a string's bytes onto a row that the call owns. -/
theorem step_own_str {P : Program} {ops : Array Oper} {o : Oper} {a : Act} {w : World} {K : Act → World → Prop} {Q : Exit → Act → World → Prop} {E : Prop} (hg : o.guard = none) (sl x : Operand) (t u : TypeId)
    (ho : o.op = .call { callee := .builtin .append, args := #[sl, x], argTypes := #[t, u] })
    (base : Nat) (e : TypeId) (i : TypeInfo) (ht : P.underlying t = some (.slice e)) (hu : P.underlying u = some .string) (hi : P.info? e = some i) (hz : i.zero = some (.int .u8 0))
    (hsize : i.size = 1) (hby : i.bytes = 1)
    (v : Value) (n : Nat) (xs : List Value) (hs : a.eval sl = v) (hown : w.ownsRow base e 1 v n xs) (s : ByteArray) (hx : a.eval x = .string s)
    (h63 : n + s.size ≤ maxLen) (hbytes : n + s.size ≤ 140737488355328) (hbase : base ≤ w.heap.size)
    (h : ∀ v' w', w'.ownsRow base e 1 v' (n + s.size) (xs ++ Lib.strCells s) → w.grownBy w' v.ownBlock → K (a.put o.dst v') w') :
    if Region.wanted o (yielded ops a.tmps) = true then Oper.wp P o a w K Q else E := by
  refine step_is hg ?_
  obtain ⟨v', w', hr, h2, h3, _⟩ := Lib.run_append_own_string (P := P) w base t u o.type e i ht hu hi hz hsize hby v n xs hown s h63 hbytes hbase
  unfold Oper.wp execOp
  simp only [ho, resolve, invoke, builtin, Sem.run_bind, Sem.run_pure, Result.andThen_ok, List.map_toArray, List.map_cons, List.map_nil, hs, hx, hr]
  exact h v' w' h2 h3
end Go.Proofs.YtlcljanibjdejaaGreat
