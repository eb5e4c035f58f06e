/- Lower: a text in small letters; isName. -/
import Derived.Test.YtngojdajamgababGreatTokBytes
import Derived.Laws.IdiomStrings
namespace Go.Proofs.YtngojdajamgababGreat
open Go.RowKit

/-- A block's first cells are these bytes, and may be written. -/
def RowAt (w : World) (b : Nat) (l : List UInt8) : Prop := ∀ j (_ : j < l.length), w.cell? ⟨b, j, none⟩ = some (.int .u8 (l[j].toNat : Int)) ∧ w.frozen? ⟨b, j, none⟩ = false

theorem bytes_new (s : ByteArray) (w : World) : ∃ W cap, (convert 9 43 (.string s)).run Tryz.prog w = .ok (.slice (some ⟨w.heap.size, 0, none⟩) s.size cap) W ∧ RowAt W w.heap.size s.data.toList ∧ Keeps [] w W := by
  refine ⟨_, _, run_bytes_of_string w 9 43 5 s Tryz.underlying9 Tryz.underlying43 Tryz.underlying5, ?_, ?_⟩
  · intro j hj
    have hj' : j < s.size := by simpa using hj
    have hh := heap_alloc_new w.drew (.cells (bytesRow s (grownCap w s.size 0 5)) 5 ((bytesRow s (grownCap w s.size 0 5)).size, (bytesRow s (grownCap w s.size 0 5)).size + 1))
    rw [show w.drew.heap.size = w.heap.size from rfl] at hh
    have hz : j < (bytesRow s (grownCap w s.size 0 5)).size := by
      simp only [bytesRow, Array.size_append, Array.size_map]
      exact Nat.lt_of_lt_of_le hj' (Nat.le_add_right _ _)
    constructor
    · unfold World.cell?
      rw [hh]
      have hd : j < s.data.size := hj'
      simp only [bytesRow, Option.isSome_none, Bool.false_eq_true, if_false]
      rw [Array.getElem?_append_left (by simpa using hd), Array.getElem?_map, Array.getElem?_eq_getElem hd]
      rfl
    · unfold World.frozen?
      rw [hh]
      simp
      omega
  · exact ((Keeps.refl [] w).drew).alloc _

theorem RowAt.set {w : World} {b : Nat} {l : List UInt8} (h : RowAt w b l) {i : Nat} (hi : i < l.length) (c : UInt8) : RowAt (w.setCell ⟨b, i, none⟩ (.int .u8 (c.toNat : Int))) b (l.set i c) := by
  intro j hj
  rw [List.length_set] at hj
  constructor
  · by_cases hij : i = j
    · subst hij
      rw [World.cell?_setCell_same _ _ _ (h i hi).1]
      simp
    · rw [World.cell?_setCell_other]
      · rw [(h j hj).1]
        simp [hij]
      · simp
  · rw [World.frozen?_setCell]
    exact (h j hj).2

/-- The first k bytes in small letters, the others as they are. -/
def lowTo (l : List UInt8) (k : Nat) : List UInt8 := lowerL (l.take k) ++ l.drop k

theorem lowTo_len (l : List UInt8) (k : Nat) : (lowTo l k).length = l.length := by simp [lowTo, lowerL]; omega
theorem lowTo_get (l : List UInt8) (k : Nat) (hk : k < l.length) : (lowTo l k)[k]'(by rw [lowTo_len]; exact hk) = l[k] := by
  simp only [lowTo, lowerL]
  rw [List.getElem_append_right (by simp; omega)]
  simp [Nat.min_eq_left (Nat.le_of_lt hk)]
theorem lowTo_succ (l : List UInt8) (k : Nat) (hk : k < l.length) : lowTo l (k + 1) = (lowTo l k).set k (lowB l[k]) := by
  unfold lowTo lowerL
  rw [List.take_succ_eq_append_getElem hk, List.map_append, List.set_append_right _ _ (by simp; omega)]
  simp [Nat.min_eq_left (Nat.le_of_lt hk)]
  rw [List.drop_eq_getElem_cons hk]
  rfl
theorem lowTo_all (l : List UInt8) : lowTo l l.length = lowerL l := by simp [lowTo]
theorem lowTo_zero (l : List UInt8) : lowTo l 0 = l := by simp [lowTo, lowerL]

theorem low_val (c : UInt8) (h : bigB c = true) : ((lowB c).toNat : Int) = (c.toNat : Int) - 65 + 97 := by
  have hb : 65 ≤ c.toNat ∧ c.toNat ≤ 90 := by simpa [bigB] using h
  unfold lowB
  rw [if_pos h, UInt8.toNat_add]
  have : (32 : UInt8).toNat = 32 := rfl
  rw [this]
  omega

theorem add_zero (b j : Nat) : (⟨b, 0, none⟩ : Addr).add j = ⟨b, j, none⟩ := by
  by_cases h : j = 0 <;> simp [Addr.add, h]

set_option maxHeartbeats 1000000 in
theorem lower_any (s : ByteArray) (w : World) (hs : s.size ≤ 3000) :
    Calls Tryz.prog 99 #[.string s] w fun e w' => e = .returned (.string ⟨(lowerL s.data.toList).toArray⟩) ∧ Keeps [] w w' := by
  obtain ⟨W, cap, hcv, hrow, hkW⟩ := bytes_new s w
  have hl := len_size s
  go_enter Tryz.func99, Tryz.ntmps99
  go_wp2_with fail
  go_loopw [10] (fun i wr => ∃ k : Nat, k ≤ s.size ∧ i = .int .i64 k ∧ RowAt wr w.heap.size (lowTo s.data.toList k) ∧ Keeps [] w wr) (fun i _ => s.size - (intOf i).toNat)
  case atStart => exact ⟨0, Nat.zero_le _, rfl, by rw [lowTo_zero]; exact hrow, hkW⟩
  case round =>
    obtain ⟨k, hk, rfl, hr, hkp⟩ := hrel
    clear hcv hrow hkW
    by_cases hlt : k < s.size
    · have hk' : k < s.data.toList.length := by omega
      have hc1 := (hr k (by rw [lowTo_len]; exact hk')).1
      have hf1 := (hr k (by rw [lowTo_len]; exact hk')).2
      rw [lowTo_get _ _ hk'] at hc1
      have hsucc := lowTo_succ s.data.toList k hk'
      have hset : (lowTo s.data.toList k).set k s.data.toList[k] = lowTo s.data.toList k := by
        have := @List.set_getElem_self _ (lowTo s.data.toList k) k (by rw [lowTo_len]; exact hk')
        rwa [lowTo_get _ _ hk'] at this
      generalize s.data.toList[k] = c at *
      cases hb : bigB c
      · have e1 : lowTo s.data.toList (k + 1) = lowTo s.data.toList k := by
          rw [hsucc]
          have : lowB c = c := by simp [lowB, hb]
          rw [this]
          exact hset
        have HR : Hid (RowAt wr w.heap.size (lowTo s.data.toList (k + 1))) := by rw [e1]; exact hr
        clear hsucc e1 hset
        cases hsm : smallB c
        · have hl0 : letterB c = false := by simp [letterB, hb, hsm]
          have hLt := hide (fun w => hl0 ▸ letter_any c w)
          clear hb hsm hl0
          go_wp2_with (go_at_call 88; refine (hLt.out _).mono ?_; rintro e w' ⟨rfl, rfl⟩)
          go_roundw
          case rel => exact ⟨k + 1, by omega, by go_num, HR.out, hkp⟩
          case measure => simp [intOf]; omega
        · have hl0 : letterB c = true := by simp [letterB, hsm]
          have hLt := hide (fun w => hl0 ▸ letter_any c w)
          have hSm := hide (fun w => hsm ▸ small_any c w)
          clear hb hsm hl0
          go_wp2_with (first | (go_at_call 88; refine (hLt.out _).mono ?_; rintro e w' ⟨rfl, rfl⟩) | (go_at_call 85; refine (hSm.out _).mono ?_; rintro e w' ⟨rfl, rfl⟩))
          go_roundw
          case rel => exact ⟨k + 1, by omega, by go_num, HR.out, hkp⟩
          case measure => simp [intOf]; omega
      · have hv := low_val c hb
        have hb' : 65 ≤ c.toNat ∧ c.toNat ≤ 90 := by simpa [bigB] using hb
        have hLt := hide (fun w => (show letterB c = true from by simp [letterB, hb]) ▸ letter_any c w)
        have hs0 : smallB c = false := by simp [smallB]; omega
        have hSm := hide (fun w => hs0 ▸ small_any c w)
        clear hs0
        have HR := hide (hr.set (by rw [lowTo_len]; exact hk') (lowB c))
        rw [← hsucc, hv] at HR
        clear hsucc hb hv
        go_wp2_with (first | (go_at_call 88; refine (hLt.out _).mono ?_; rintro e w' ⟨rfl, rfl⟩) | (go_at_call 85; refine (hSm.out _).mono ?_; rintro e w' ⟨rfl, rfl⟩))
        go_roundw
        case rel => exact ⟨k + 1, by omega, by go_num, HR.out, hkp.setCell (by simp) _⟩
        case measure => simp [intOf]; omega
    · have he : lowTo s.data.toList k = lowerL s.data.toList := by rw [show k = s.data.toList.length from by omega]; exact lowTo_all _
      rw [he] at hr
      have hlen : (lowerL s.data.toList).length = s.size := by simp [lowerL]
      have hcv2 := run_convert_bytes_back (P := Tryz.prog) wr 43 9 5 ⟨w.heap.size, 0, none⟩ cap (lowerL s.data.toList) Tryz.underlying43 Tryz.underlying5 Tryz.underlying9 (fun j hj => by
        rw [add_zero]; exact (hr j hj).1)
      rw [hlen] at hcv2
      clear he hr
      go_wp2_with fail
      go_ret
      exact ⟨rfl, hkp⟩

/-- Of the first k bytes each may stand in a name. -/
theorem name_all (s : ByteArray) (h : ∀ i (hi : i < s.size), nameB s[i] = true) : s.data.toList.all nameB = true := by
  rw [List.all_eq_true]
  intro c hc
  obtain ⟨i, hi, rfl⟩ := List.getElem_of_mem hc
  exact h i (by simpa using hi)

theorem name_not (s : ByteArray) (i : Nat) (hi : i < s.size) (h : nameB s[i] = false) : s.data.toList.all nameB = false := by
  rw [Bool.eq_false_iff]
  intro ha
  have := List.all_eq_true.1 ha s[i] (by
    have hl : i < s.data.toList.length := by simpa using hi
    exact List.getElem_mem hl)
  rw [h] at this
  simp at this

set_option maxHeartbeats 1000000 in
theorem isName_loop (s : ByteArray) (w : World) (h1 : 1 ≤ s.size) (h2 : s.size ≤ 20) (h3 : smallB s[0] = true) :
    Calls Tryz.prog 64 #[.string s] w fun e w' => e = .returned (.bool (s.data.toList.all nameB)) ∧ w' = w := by
  obtain ⟨r, hr⟩ : ∃ r, s.data.toList.all nameB = r := ⟨_, rfl⟩
  rw [hr]
  have HR := hide hr
  clear hr
  have hne : s.toList.isEmpty = false := by
    rw [ByteArray.toList_eq]
    have := len_size s
    cases hq : s.data.toList with
    | nil => rw [hq] at this; simp at this; omega
    | cons a b => rfl
  have hs0 := hide (fun w => h3 ▸ small_any s[0] w)
  have hb20 : decide ((20 : Int) < (s.size : Int)) = false := by simp; omega
  clear h3
  go_enter Tryz.func64, Tryz.ntmps64
  go_wp2_with (go_at_call 85; refine (hs0.out _).mono ?_; rintro e w' ⟨rfl, rfl⟩)
  go_loop [3] (fun i => ∃ k : Nat, k ≤ s.size ∧ i = .int .i64 k ∧ Hid (∀ i (hi : i < s.size), i < k → nameB s[i] = true)) (fun i => s.size - (intOf i).toNat)
  case atStart => exact ⟨0, Nat.zero_le _, rfl, fun i hi h => by omega⟩
  case round =>
    obtain ⟨k, hk, rfl, hall⟩ := hrel
    by_cases hlt : k < s.size
    · cases hn : nameB s[k]
      · have hr : Hid (r = false) := HR.out.symm.trans (name_not s k hlt hn)
        have hs1 : smallB s[k] = false := by revert hn; unfold nameB; cases smallB s[k] <;> simp
        have hd1 : digB s[k] = false := by revert hn; unfold nameB; cases digB s[k] <;> simp
        have h45 : ((s[k].toNat : Int) != 45) = true := by
          rw [← bne_at (d := 45) (k := 45) rfl]
          revert hn; unfold nameB; cases hq : s[k] == 45
          · intro _; simpa using hq
          · simp
        have hS := hide (fun w => hs1 ▸ small_any s[k] w)
        have hD := hide (fun w => hd1 ▸ dig_any s[k] w)
        clear hn hs1 hd1 hall
        go_wp2_with (first | (go_at_call 85; refine (hS.out _).mono ?_; rintro e w' ⟨rfl, rfl⟩) | (go_at_call 86; refine (hD.out _).mono ?_; rintro e w' ⟨rfl, rfl⟩))
        go_ret
        rw [hr.out]
        exact ⟨rfl, rfl⟩
      · have hall' : Hid (∀ i (hi : i < s.size), i < k + 1 → nameB s[i] = true) := by
          intro i hi h
          by_cases hik : i = k
          · subst hik; exact hn
          · exact hall.out i hi (by omega)
        clear hall
        cases hs1 : smallB s[k]
        · have hS := hide (fun w => hs1 ▸ small_any s[k] w)
          cases hd1 : digB s[k]
          · have hD := hide (fun w => hd1 ▸ dig_any s[k] w)
            have h45 : ((s[k].toNat : Int) != 45) = false := by
              rw [← bne_at (d := 45) (k := 45) rfl]
              revert hn; unfold nameB; rw [hs1, hd1]; simp
            clear hn hs1 hd1
            go_wp2_with (first | (go_at_call 85; refine (hS.out _).mono ?_; rintro e w' ⟨rfl, rfl⟩) | (go_at_call 86; refine (hD.out _).mono ?_; rintro e w' ⟨rfl, rfl⟩))
            go_round
            case rel => exact ⟨k + 1, by omega, by go_num, hall'⟩
            case measure => simp [intOf]; omega
          · have hD := hide (fun w => hd1 ▸ dig_any s[k] w)
            clear hn hs1 hd1
            go_wp2_with (first | (go_at_call 85; refine (hS.out _).mono ?_; rintro e w' ⟨rfl, rfl⟩) | (go_at_call 86; refine (hD.out _).mono ?_; rintro e w' ⟨rfl, rfl⟩))
            go_round
            case rel => exact ⟨k + 1, by omega, by go_num, hall'⟩
            case measure => simp [intOf]; omega
        · have hS := hide (fun w => hs1 ▸ small_any s[k] w)
          clear hn hs1
          go_wp2_with (go_at_call 85; refine (hS.out _).mono ?_; rintro e w' ⟨rfl, rfl⟩)
          go_round
          case rel => exact ⟨k + 1, by omega, by go_num, hall'⟩
          case measure => simp [intOf]; omega
    · have hr : Hid (r = true) := HR.out.symm.trans (name_all s fun i hi => hall.out i hi (by omega))
      clear hall
      go_wp2
      go_ret
      rw [hr.out]
      exact ⟨rfl, rfl⟩

theorem isName_any (s : ByteArray) (w : World) (hs : s.size ≤ 3000) :
    Calls Tryz.prog 64 #[.string s] w fun e w' => e = .returned (.bool (isNameL s.data.toList)) ∧ w' = w := by
  unfold isNameL
  rw [len_size]
  by_cases h1 : 1 ≤ s.size
  · have e0 : s.data.toList.getD 0 0 = s[0] := byteAt_eq s 0 (by omega)
    have hne : s.toList.isEmpty = false := by
      rw [ByteArray.toList_eq]
      have := len_size s
      cases hq : s.data.toList with
      | nil => rw [hq] at this; simp at this; omega
      | cons a b => rfl
    rw [e0]
    by_cases h2 : s.size ≤ 20
    · cases h3 : smallB s[0]
      · have hs0 := hide (fun w => h3 ▸ small_any s[0] w)
        simp only [Bool.and_false, Bool.false_and]
        clear h3 e0
        go_enter Tryz.func64, Tryz.ntmps64
        go_wp2_with (go_at_call 85; refine (hs0.out _).mono ?_; rintro e w' ⟨rfl, rfl⟩)
        go_ret
        exact ⟨rfl, rfl⟩
      · refine (isName_loop s w h1 h2 h3).mono fun e w' ⟨he, hw⟩ => ⟨he.trans (ret_bool ?_), hw⟩
        simp [h1, h2]
    · rw [decide_eq_false h2]
      simp only [Bool.and_false, Bool.false_and]
      clear e0
      go_enter Tryz.func64, Tryz.ntmps64
      go_wp2
      go_ret
      exact ⟨rfl, rfl⟩
  · rw [decide_eq_false h1]
    simp only [Bool.false_and]
    have hne : s.toList.isEmpty = true := by
      rw [ByteArray.toList_eq]
      have := len_size s
      cases hq : s.data.toList with
      | nil => rfl
      | cons a b => rw [hq] at this; simp at this; omega
    go_enter Tryz.func64, Tryz.ntmps64
    go_wp2
    go_ret
    exact ⟨rfl, rfl⟩
end Go.Proofs.YtngojdajamgababGreat
