/- Is an entry right? The order of a shelf. The order of a shelf, whole. Are a shelf's entries right? Are what comes, and the ids that were read, right? shelf.Check. Words that are looked for: All. -/
import Derived.Test.YtlcljanibjdejaaGreatSo19
import Derived.Laws.Cover1
namespace Go.Proofs.YtlcljanibjdejaaGreat
open Go.RowKit Go.Maps
def chkEn (x : En) : Int :=
  if x.id = [] then 1 else if 60 < x.id.length ∨ 3000 < x.title.length ∨ 3000 < x.link.length ∨ 3000 < x.html.length then 2 else if x.tm < 0 ∨ 4102444799 < x.tm then 3
  else if x.link ≠ [] ∧ safeL x.link = false then 4 else if cleanS x.html = false then 4 else 0
def enCells (x : En) : List Value := [.string ⟨x.id.toArray⟩, .string ⟨x.title.toArray⟩, .string ⟨x.link.toArray⟩, .int .i64 x.tm, .string ⟨x.html.toArray⟩]
def FitE (x : En) : Prop := x.id.length ≤ maxLen ∧ x.title.length ≤ maxLen ∧ x.link.length ≤ maxLen ∧ x.html.length ≤ maxLen
theorem emptyN2 (x : List UInt8) : ((⟨x.toArray⟩ : ByteArray).toList != (⟨#[]⟩ : ByteArray).toList) = decide (x ≠ []) := strNe x []
set_option maxRecDepth 8000 in
set_option maxHeartbeats 8000000 in
theorem checkEn_any (x : En) (w : World) (hF : FitE x) (hM : HasMax w) :
    Calls Tryz.prog 136 #[.agg (enCells x).toArray] w fun e w' => e = .returned (.int .i64 (chkEn x)) ∧ Keeps [] w w' := by
  have nn : ∀ g, g ∉ ([] : List Nat) := fun _ => List.not_mem_nil
  obtain ⟨id, ti, li, tm, ht⟩ := x
  obtain ⟨hF1, hF2, hF3, hF4⟩ := hF
  simp only at hF1 hF2 hF3 hF4
  unfold enCells
  simp only
  obtain ⟨C, hC⟩ : ∃ C, chkEn ⟨id, ti, li, tm, ht⟩ = C := ⟨_, rfl⟩
  rw [hC]
  have HC := hide hC
  obtain ⟨W, hW⟩ : ∃ W, w.alloc (.cells #[.string ⟨id.toArray⟩, .string ⟨ti.toArray⟩, .string ⟨li.toArray⟩, .int .i64 tm, .string ⟨ht.toArray⟩] 75) = W := ⟨_, rfl⟩
  have hkW : Keeps [] w W := by rw [← hW]; exact (Keeps.refl [] w).alloc _
  have hb := (nblk_new rfl hW).1
  have b0 : W.cell? ⟨w.heap.size, 0, none⟩ = some (.string ⟨id.toArray⟩) := cell_blk hb 0
  have b1 : W.cell? ⟨w.heap.size, 1, none⟩ = some (.string ⟨ti.toArray⟩) := cell_blk hb 1
  have b2 : W.cell? ⟨w.heap.size, 2, none⟩ = some (.string ⟨li.toArray⟩) := cell_blk hb 2
  have b3 : W.cell? ⟨w.heap.size, 3, none⟩ = some (.int .i64 tm) := cell_blk hb 3
  have b4 : W.cell? ⟨w.heap.size, 4, none⟩ = some (.string ⟨ht.toArray⟩) := cell_blk hb 4
  have z0 := str_size id
  have z1 := str_size ti
  have z2 := str_size li
  have z4 := str_size ht
  have HB := hide hb
  have HKW := hide hkW
  have HW := hide hW
  clear hkW hb hW
  unfold maxLen at hF1 hF2 hF3 hF4
  unfold chkEn at hC
  simp only at hC
  obtain ⟨M, hMx⟩ : ∃ M : Int, (if (if ti.length < li.length then (li.length : Int) else (ti.length : Int)) < (ht.length : Int) then (ht.length : Int) else if ti.length < li.length then (li.length : Int) else (ti.length : Int)) = M := ⟨_, rfl⟩
  have hMv : 3000 < M ↔ (3000 < ti.length ∨ 3000 < li.length ∨ 3000 < ht.length) := by rw [← hMx]; split <;> split <;> omega
  have hei := emptyB id
  have hel := emptyN2 li
  by_cases h1 : id = []
  · rw [if_pos h1] at hC
    rw [decide_eq_true h1] at hei
    have hie : id.isEmpty = true := by simpa using h1
    clear h1
    subst hC
    go_enter Tryz.func136, Tryz.ntmps136
    go_upto_region 1 with fail
    rw [HW.out]
    go_wp2_with fail
    go_ret
    exact ⟨rfl, HKW.out⟩
  · rw [if_neg h1] at hC
    rw [decide_eq_false h1] at hei
    have hie : id.isEmpty = false := by simpa using h1
    clear h1
    by_cases h2 : 60 < id.length ∨ 3000 < ti.length ∨ 3000 < li.length ∨ 3000 < ht.length
    · rw [if_pos h2] at hC
      subst hC
      by_cases h3 : 60 < id.length
      · have d3 : decide ((60 : Int) < (id.length : Int)) = true := by simp; omega
        clear h2 h3
        go_enter Tryz.func136, Tryz.ntmps136
        go_upto_region 1 with fail
        rw [HW.out]
        go_wp2_with fail
        go_ret
        exact ⟨rfl, HKW.out⟩
      · have d3 : decide ((60 : Int) < (id.length : Int)) = false := by simp; omega
        have d4 : decide ((3000 : Int) < M) = true := decide_eq_true (by omega)
        clear h2 h3 hMv
        go_enter Tryz.func136, Tryz.ntmps136
        go_upto_region 1 with fail
        rw [HW.out]
        go_wp2_with fail
        go_ret
        exact ⟨rfl, HKW.out⟩
    · rw [if_neg h2] at hC
      have d3 : decide ((60 : Int) < (id.length : Int)) = false := by simp; omega
      have d4 : decide ((3000 : Int) < M) = false := decide_eq_false (by omega)
      have hsf := hide (fun w1 (hk : Keeps [] w w1) => isSafe_any li w1 (hM.keeps hk (nn _)) (by omega))
      have hcl := hide (fun w1 (hk : Keeps [] w w1) => isClean_any ht w1 (hM.keeps hk (nn _)) (by omega))
      generalize safeL li = SF at *
      generalize cleanS ht = CL at *
      clear h2 hM hMv
      by_cases h5 : tm < 0 ∨ 4102444799 < tm
      · rw [if_pos h5] at hC
        subst hC
        by_cases h6 : tm < 0
        · have d5 : decide (tm < 0) = true := decide_eq_true h6
          clear h5 h6
          go_enter Tryz.func136, Tryz.ntmps136
          go_upto_region 1 with fail
          rw [HW.out]
          go_wp2_with fail
          go_ret
          exact ⟨rfl, HKW.out⟩
        · have d5 : decide (tm < 0) = false := decide_eq_false h6
          have d6 : decide (4102444799 < tm) = true := decide_eq_true (by omega)
          clear h5 h6
          go_enter Tryz.func136, Tryz.ntmps136
          go_upto_region 1 with fail
          rw [HW.out]
          go_wp2_with fail
          go_ret
          exact ⟨rfl, HKW.out⟩
      · rw [if_neg h5] at hC
        have d5 : decide (tm < 0) = false := decide_eq_false (by omega)
        have d6 : decide (4102444799 < tm) = false := decide_eq_false (by omega)
        clear h5
        by_cases h7 : li = []
        · rw [if_neg (fun h => h.1 h7)] at hC
          rw [decide_eq_false (fun h => h h7)] at hel
          have hle : li.isEmpty = true := by simpa using h7
          clear h7
          cases CL
          · simp only [if_true] at hC
            subst hC
            go_enter Tryz.func136, Tryz.ntmps136
            go_upto_region 1 with fail
            rw [HW.out]
            go_wp2_with fail
            refine (hcl.out W HKW.out).mono ?_
            rintro e w2 ⟨rfl, hk2⟩
            have HK2 := hide (HKW.out.trans hk2)
            clear hk2
            go_wp2_with fail
            go_ret
            exact ⟨rfl, HK2.out⟩
          · simp only [Bool.true_eq_false, if_false] at hC
            subst hC
            go_enter Tryz.func136, Tryz.ntmps136
            go_upto_region 1 with fail
            rw [HW.out]
            go_wp2_with fail
            refine (hcl.out W HKW.out).mono ?_
            rintro e w2 ⟨rfl, hk2⟩
            have HK2 := hide (HKW.out.trans hk2)
            clear hk2
            go_wp2_with fail
            go_ret
            exact ⟨rfl, HK2.out⟩
        · rw [decide_eq_true h7] at hel
          have hle : li.isEmpty = false := by simpa using h7
          cases SF
          · rw [if_pos ⟨h7, rfl⟩] at hC
            subst hC
            clear h7
            go_enter Tryz.func136, Tryz.ntmps136
            go_upto_region 1 with fail
            rw [HW.out]
            go_wp2_with fail
            refine (hsf.out W HKW.out).mono ?_
            rintro e w1 ⟨rfl, hk1⟩
            have HK1 := hide (HKW.out.trans hk1)
            have b2 : w1.cell? ⟨w.heap.size, 4, none⟩ = some (.string ⟨ht.toArray⟩) := ncell_all hk1 HB.out 4
            clear hk1
            go_wp2_with fail
            go_ret
            exact ⟨rfl, HK1.out⟩
          · rw [if_neg (fun h => by cases h.2)] at hC
            clear h7
            cases CL
            · simp only [if_true] at hC
              subst hC
              go_enter Tryz.func136, Tryz.ntmps136
              go_upto_region 1 with fail
              rw [HW.out]
              go_wp2_with fail
              refine (hsf.out W HKW.out).mono ?_
              rintro e w1 ⟨rfl, hk1⟩
              have HK1 := hide (HKW.out.trans hk1)
              have b2 : w1.cell? ⟨w.heap.size, 4, none⟩ = some (.string ⟨ht.toArray⟩) := ncell_all hk1 HB.out 4
              clear hk1
              go_wp2_with fail
              refine (hcl.out w1 HK1.out).mono ?_
              rintro e w2 ⟨rfl, hk2⟩
              have HK2 := hide (HK1.out.trans hk2)
              clear hk2
              go_wp2_with fail
              go_ret
              exact ⟨rfl, HK2.out⟩
            · simp only [Bool.true_eq_false, if_false] at hC
              subst hC
              go_enter Tryz.func136, Tryz.ntmps136
              go_upto_region 1 with fail
              rw [HW.out]
              go_wp2_with fail
              refine (hsf.out W HKW.out).mono ?_
              rintro e w1 ⟨rfl, hk1⟩
              have HK1 := hide (HKW.out.trans hk1)
              have b2 : w1.cell? ⟨w.heap.size, 4, none⟩ = some (.string ⟨ht.toArray⟩) := ncell_all hk1 HB.out 4
              clear hk1
              go_wp2_with fail
              refine (hcl.out w1 HK1.out).mono ?_
              rintro e w2 ⟨rfl, hk2⟩
              have HK2 := hide (HK1.out.trans hk2)
              clear hk2
              go_wp2_with fail
              go_ret
              exact ⟨rfl, HK2.out⟩
end Go.Proofs.YtlcljanibjdejaaGreat
namespace Go.Proofs.YtlcljanibjdejaaGreat
open Go.RowKit Go.Maps
theorem bytesLess_L : ∀ a b : List UInt8, Op.bytesLess a b = lessL a b
  | [], [] => by simp [Op.bytesLess, lessL]
  | [], _ :: _ => by simp [Op.bytesLess, lessL]
  | _ :: _, [] => by simp [Op.bytesLess, lessL]
  | a :: r, b :: q => by
    have e : (a == b) = decide (a.toNat = b.toNat) := by rw [Bool.eq_iff_iff]; simp [UInt8.toNat_inj]
    have l : (decide (a < b)) = decide (a.toNat < b.toNat) := by rw [Bool.eq_iff_iff]; simp [UInt8.lt_iff_toNat_lt]
    simp only [Op.bytesLess, lessL, bytesLess_L r q, e, l]
theorem nanInt_any (x : Int) (w : World) : Calls Tryz.prog 309 #[.int .i64 x] w fun e w' => e = .returned (.bool false) ∧ w' = w := by
  go_enter Tryz.func309, Tryz.ntmps309
  go_wp2_with fail
  all_goals first | (go_ret; exact ⟨by simp, rfl⟩) | skip
theorem nanStr_any (x : List UInt8) (w : World) : Calls Tryz.prog 310 #[.string ⟨x.toArray⟩] w fun e w' => e = .returned (.bool false) ∧ w' = w := by
  have h := strNe x x
  rw [decide_eq_false (fun h => h rfl)] at h
  go_enter Tryz.func310, Tryz.ntmps310
  go_wp2_with fail
  go_ret
  exact ⟨by simp, rfl⟩
theorem cmpInt_any (x y : Int) (w : World) : Calls Tryz.prog 266 #[.int .i64 x, .int .i64 y] w fun e w' => e = .returned (.int .i64 (cmpI x y)) ∧ w' = w := by
  have n := hide (fun x w => nanInt_any x w)
  unfold cmpI
  by_cases h1 : x < y
  · have d1 : decide (x < y) = true := decide_eq_true h1
    rw [if_pos h1]
    clear h1
    go_enter Tryz.func266, Tryz.ntmps266
    go_wp2_with fail
    refine (n.out _ _).mono ?_
    rintro e w1 ⟨rfl, h9⟩
    subst h9
    go_wp2_with fail
    refine (n.out _ _).mono ?_
    rintro e w1 ⟨rfl, h9⟩
    subst h9
    go_wp2_with fail
    go_ret
    exact ⟨rfl, rfl⟩
  · have d1 : decide (x < y) = false := decide_eq_false h1
    rw [if_neg h1]
    by_cases h2 : y < x
    · have d2 : decide (y < x) = true := decide_eq_true h2
      rw [if_pos h2]
      clear h1 h2
      go_enter Tryz.func266, Tryz.ntmps266
      go_wp2_with fail
      refine (n.out _ _).mono ?_
      rintro e w1 ⟨rfl, h9⟩
      subst h9
      go_wp2_with fail
      refine (n.out _ _).mono ?_
      rintro e w1 ⟨rfl, h9⟩
      subst h9
      go_wp2_with fail
      go_ret
      exact ⟨rfl, rfl⟩
    · have d2 : decide (y < x) = false := decide_eq_false h2
      rw [if_neg h2]
      clear h1 h2
      go_enter Tryz.func266, Tryz.ntmps266
      go_wp2_with fail
      refine (n.out _ _).mono ?_
      rintro e w1 ⟨rfl, h9⟩
      subst h9
      go_wp2_with fail
      refine (n.out _ _).mono ?_
      rintro e w1 ⟨rfl, h9⟩
      subst h9
      go_wp2_with fail
      go_ret
      exact ⟨rfl, rfl⟩
theorem cmpStr_any (x y : List UInt8) (w : World) : Calls Tryz.prog 267 #[.string ⟨x.toArray⟩, .string ⟨y.toArray⟩] w fun e w' => e = .returned (.int .i64 (cmpL x y)) ∧ w' = w := by
  have n := hide (fun x w => nanStr_any x w)
  obtain ⟨R, hR⟩ : ∃ R, cmpL x y = R := ⟨_, rfl⟩
  rw [hR]
  unfold cmpL at hR
  have e1 := bytesLess_L x y
  rcases lessL_total x y with h | h | h
  · have e2 : (x == y) = true := by simpa using h
    subst h
    rw [lessL_irrefl] at e1 hR
    simp only [Bool.false_eq_true, if_false] at hR
    subst hR
    go_enter Tryz.func267, Tryz.ntmps267
    go_wp2_with fail
    refine (n.out _ _).mono ?_
    rintro e w1 ⟨rfl, h9⟩
    subst h9
    go_wp2_with fail
    refine (n.out _ _).mono ?_
    rintro e w1 ⟨rfl, h9⟩
    subst h9
    go_wp2_with fail
    go_ret
    exact ⟨rfl, rfl⟩
  · have e2 : (x == y) = false := by
      have : x ≠ y := fun e => by subst e; rw [lessL_irrefl] at h; cases h
      simpa using this
    rw [h] at e1 hR
    simp only [if_true] at hR
    subst hR
    clear h
    go_enter Tryz.func267, Tryz.ntmps267
    go_wp2_with fail
    refine (n.out _ _).mono ?_
    rintro e w1 ⟨rfl, h9⟩
    subst h9
    go_wp2_with fail
    refine (n.out _ _).mono ?_
    rintro e w1 ⟨rfl, h9⟩
    subst h9
    go_wp2_with fail
    go_ret
    exact ⟨rfl, rfl⟩
  · have e2 : (x == y) = false := by
      have : x ≠ y := fun e => by subst e; rw [lessL_irrefl] at h; cases h
      simpa using this
    rw [lessL_asymm h] at e1 hR
    rw [h] at hR
    simp only [Bool.false_eq_true, if_false, if_true] at hR
    subst hR
    clear h
    go_enter Tryz.func267, Tryz.ntmps267
    go_wp2_with fail
    refine (n.out _ _).mono ?_
    rintro e w1 ⟨rfl, h9⟩
    subst h9
    go_wp2_with fail
    refine (n.out _ _).mono ?_
    rintro e w1 ⟨rfl, h9⟩
    subst h9
    go_wp2_with fail
    go_ret
    exact ⟨rfl, rfl⟩
end Go.Proofs.YtlcljanibjdejaaGreat
namespace Go.Proofs.YtlcljanibjdejaaGreat
open Go.RowKit Go.Maps
theorem or265 (a b : Int) (g : Nat) (w : World) (h : w.heap[g]? = some (.cells #[.int .i64 a, .int .i64 b] 3 (0, 0))) :
    Calls Tryz.prog 265 #[.slice (some ⟨g, 0, none⟩) 2 2] w fun e w' => e = .returned (.int .i64 (if a = 0 then b else a)) ∧ w' = w := by
  have c0 : w.cell? ⟨g, 0, none⟩ = some (.int .i64 a) := cell_blk h 0
  have c1 : w.cell? ⟨g, 1, none⟩ = some (.int .i64 b) := cell_blk h 1
  clear h
  obtain ⟨R, hR⟩ : ∃ R, (if a = 0 then b else a) = R := ⟨_, rfl⟩
  rw [hR]
  go_enter Tryz.func265, Tryz.ntmps265
  go_wp2_with fail
  go_loopw [8] (fun i wr => (i = .int .i64 0 ∨ (i = .int .i64 1 ∧ a = 0) ∨ (i = .int .i64 2 ∧ a = 0 ∧ b = 0)) ∧ wr = w) (fun i _ => 2 - (intOf i).toNat)
  case atStart => exact ⟨.inl rfl, rfl⟩
  case round =>
    obtain ⟨hi, rfl⟩ := hrel
    rcases hi with rfl | ⟨rfl, ha⟩ | ⟨rfl, ha, hb⟩
    · by_cases h0 : a = 0
      · have e0 : (a != 0) = false := by simpa using h0
        subst h0
        go_wp2_with fail
        go_roundw
        case rel => exact ⟨.inr (.inl ⟨rfl, trivial⟩), trivial⟩
        case measure => simp [intOf]
      · have e0 : (a != 0) = true := by simpa using h0
        rw [if_neg h0] at hR
        subst hR
        go_wp2_with fail
        go_ret
        exact ⟨rfl, rfl⟩
    · subst ha
      rw [if_pos rfl] at hR
      subst hR
      by_cases h0 : b = 0
      · have e0 : (b != 0) = false := by simpa using h0
        subst h0
        go_wp2_with fail
        go_roundw
        case rel => exact ⟨.inr (.inr ⟨rfl, trivial, trivial⟩), trivial⟩
        case measure => simp [intOf]
      · have e0 : (b != 0) = true := by simpa using h0
        go_wp2_with fail
        go_ret
        exact ⟨rfl, rfl⟩
    · subst ha hb
      rw [if_pos rfl] at hR
      subst hR
      go_wp2_with fail
      go_ret
      exact ⟨rfl, rfl⟩
/-- Two entries in blocks of their own: what order reads of them. -/
@[reducible] def SO (W : World) (g0 g1 : Nat) (i0 i1 : List UInt8) (t0 t1 : Int) (w' : World) : Prop :=
  Keeps [] W w' ∧ w'.cell? ⟨g0, 0, none⟩ = some (.string ⟨i0.toArray⟩) ∧ w'.cell? ⟨g0, 3, none⟩ = some (.int .i64 t0) ∧ w'.cell? ⟨g1, 0, none⟩ = some (.string ⟨i1.toArray⟩) ∧ w'.cell? ⟨g1, 3, none⟩ = some (.int .i64 t1)
theorem SO.of {W w' : World} {g0 g1 : Nat} {x y : En} (h0 : W.heap[g0]? = some (.cells (enCells x).toArray 75 (0, 0))) (h1 : W.heap[g1]? = some (.cells (enCells y).toArray 75 (0, 0))) (hk : Keeps [] W w') : SO W g0 g1 x.id y.id x.tm y.tm w' :=
  ⟨hk, ncell_all hk h0 0, ncell_all hk h0 3, ncell_all hk h1 0, ncell_all hk h1 3⟩
theorem ordE_eq (x y : En) : ordE x y = if cmpI y.tm x.tm = 0 then cmpL x.id y.id else cmpI y.tm x.tm := by
  unfold ordE
  by_cases h : cmpI y.tm x.tm = 0 <;> simp [h]
set_option maxRecDepth 8000 in
set_option maxHeartbeats 8000000 in
theorem order_any (x y : En) (w : World) :
    Calls Tryz.prog 192 #[.agg (enCells x).toArray, .agg (enCells y).toArray] w fun e w' => e = .returned (.int .i64 (ordE x y)) ∧ Keeps [] w w' := by
  obtain ⟨W, hW⟩ : ∃ W, (w.alloc (.cells (enCells x).toArray 75)).alloc (.cells (enCells y).toArray 75) = W := ⟨_, rfl⟩
  have hkW : Keeps [] w W := by rw [← hW]; exact ((Keeps.refl [] w).alloc _).alloc _
  have hb0 : W.heap[w.heap.size]? = some (.cells (enCells x).toArray 75 (0, 0)) := by rw [← hW]; exact two_fst w _ _
  have hb1 : W.heap[w.heap.size + 1]? = some (.cells (enCells y).toArray 75 (0, 0)) := by rw [← hW]; exact two_snd w _ _
  have HB0 := hide hb0
  have HB1 := hide hb1
  have HKW := hide hkW
  have HW := hide hW
  rw [ordE_eq]
  have hs0 := SO.of hb0 hb1 (Keeps.refl [] W)
  have hci := hide (fun w => cmpInt_any y.tm x.tm w)
  have hcs := hide (fun w => cmpStr_any x.id y.id w)
  have hor := hide (fun g w h => or265 (cmpI y.tm x.tm) (cmpL x.id y.id) g w h)
  obtain ⟨A, hA⟩ : ∃ A, cmpI y.tm x.tm = A := ⟨_, rfl⟩
  obtain ⟨B, hB⟩ : ∃ B, cmpL x.id y.id = B := ⟨_, rfl⟩
  rw [hA] at hci hor ⊢
  rw [hB] at hcs hor ⊢
  obtain ⟨R, hR⟩ : ∃ R, (if A = 0 then B else A) = R := ⟨_, rfl⟩
  rw [hR] at hor ⊢
  clear hkW hb0 hb1 hW hA hB hR
  obtain ⟨hk0, u0, u1, u2, u3⟩ := hs0
  clear hk0
  go_enter Tryz.func192, Tryz.ntmps192
  go_upto_region 1 with fail
  rw [HW.out]
  go_region_held3 (SO W w.heap.size (w.heap.size + 1) x.id y.id x.tm y.tm) ((first | assumption | (refine SO.of HB0.out HB1.out ?_; first | exact (Keeps.refl [] W) | exact (Keeps.refl [] W).drew | exact (‹SO W w.heap.size (w.heap.size + 1) x.id y.id x.tm y.tm _›).1.alloc _ | exact (‹SO W w.heap.size (w.heap.size + 1) x.id y.id x.tm y.tm _›).1.drewN _)))
    (first
      | (go_at_call 266; refine (hci.out _).mono ?_; rintro e w7 ⟨rfl, h7⟩; subst h7)
      | (go_at_call 267; refine (hcs.out _).mono ?_; rintro e w8 ⟨rfl, h8⟩; subst h8)
      | (go_at_call 265
         refine (hor.out W.heap.size _ ?_).mono ?_
         · exact heap_alloc_new W _
         rintro e w9 ⟨rfl, h9⟩
         subst h9))
  all_goals go_wp2_with fail
  all_goals go_ret
  all_goals exact ⟨rfl, HKW.out.trans (‹SO W w.heap.size (w.heap.size + 1) x.id y.id x.tm y.tm _›).1⟩
end Go.Proofs.YtlcljanibjdejaaGreat
namespace Go.Proofs.YtlcljanibjdejaaGreat
open Go.RowKit Go.Maps
def ensCells (l : List En) : List Value := l.flatMap enCells
theorem ensCells_len (l : List En) : (ensCells l).length = l.length * 5 := by
  induction l with
  | nil => rfl
  | cons p l ih => simp only [ensCells, List.flatMap_cons, List.length_append] at ih ⊢; rw [ih]; simp [enCells]; omega
theorem en_at (l : List En) (k j : Nat) (hk : k < l.length) (hj : j < 5) : (ensCells l)[k * 5 + j]? = (enCells l[k])[j]? := by
  induction l generalizing k with
  | nil => simp at hk
  | cons p l ih =>
    have e : ensCells (p :: l) = enCells p ++ ensCells l := by simp [ensCells]
    have h4 : (enCells p).length = 5 := rfl
    rw [e]
    cases k with
    | zero => rw [Nat.zero_mul, Nat.zero_add, List.getElem?_append_left (by omega)]; rfl
    | succ k =>
      rw [List.getElem?_append_right (by omega), h4, show (k + 1) * 5 + j - 5 = k * 5 + j from by omega]
      exact ih k (by simpa using hk)
theorem lies_en {w : World} {g o : Nat} {l : List En} (h : ∀ j u, (ensCells l)[j]? = some u → w.cell? ⟨g, o + j, none⟩ = some u) (k : Nat) (hk : k < l.length) :
    w.cell? ⟨g, o + k * 5, none⟩ = some (.string ⟨l[k].id.toArray⟩) ∧ w.cell? ⟨g, o + k * 5 + 1, none⟩ = some (.string ⟨l[k].title.toArray⟩) ∧ w.cell? ⟨g, o + k * 5 + 2, none⟩ = some (.string ⟨l[k].link.toArray⟩) ∧ w.cell? ⟨g, o + k * 5 + 3, none⟩ = some (.int .i64 l[k].tm) ∧ w.cell? ⟨g, o + k * 5 + 4, none⟩ = some (.string ⟨l[k].html.toArray⟩) := by
  have e : ∀ j, j < 5 → o + k * 5 + j = o + (k * 5 + j) := fun j _ => by omega
  refine ⟨?_, ?_, ?_, ?_, ?_⟩
  · exact h (k * 5) _ ((en_at l k 0 hk (by omega)).trans rfl)
  · rw [e 1 (by omega)]; exact h _ _ ((en_at l k 1 hk (by omega)).trans rfl)
  · rw [e 2 (by omega)]; exact h _ _ ((en_at l k 2 hk (by omega)).trans rfl)
  · rw [e 3 (by omega)]; exact h _ _ ((en_at l k 3 hk (by omega)).trans rfl)
  · rw [e 4 (by omega)]; exact h _ _ ((en_at l k 4 hk (by omega)).trans rfl)
def backE (p : Option En) (x : En) : Bool := match p with
  | none => false
  | some y => decide (0 < ordE y x)
def chkEs : Option En → List (List UInt8) → List En → Int
  | _, _, [] => 0
  | p, met, x :: r => if chkEn x ≠ 0 then chkEn x else if x.id ∈ met then 6 else if backE p x = true then 4 else chkEs (some x) (met ++ [x.id]) r
theorem chkEs_drop (p : Option En) (met : List (List UInt8)) (l : List En) (k : Nat) (hk : k < l.length) : chkEs p met (l.drop k) = if chkEn l[k] ≠ 0 then chkEn l[k] else if l[k].id ∈ met then 6 else if backE p l[k] = true then 4 else chkEs (some l[k]) (met ++ [l[k].id]) (l.drop (k + 1)) := by
  rw [List.drop_eq_getElem_cons hk]
  rfl
def prevE (l : List En) (k : Nat) : Option En := if k = 0 then none else l[k - 1]?
/-- A new entry in a block of its own, and one that stands in a row. -/
@[reducible] def SP (W : World) (g : Nat) (x : En) (gr o : Nat) (y : En) (w' : World) : Prop :=
  Keeps [] W w' ∧ (w'.cell? ⟨g, 0, none⟩ = some (.string ⟨x.id.toArray⟩) ∧ w'.cell? ⟨g, 1, none⟩ = some (.string ⟨x.title.toArray⟩) ∧ w'.cell? ⟨g, 2, none⟩ = some (.string ⟨x.link.toArray⟩) ∧ w'.cell? ⟨g, 3, none⟩ = some (.int .i64 x.tm) ∧ w'.cell? ⟨g, 4, none⟩ = some (.string ⟨x.html.toArray⟩)) ∧
  (w'.cell? ⟨gr, o, none⟩ = some (.string ⟨y.id.toArray⟩) ∧ w'.cell? ⟨gr, o + 1, none⟩ = some (.string ⟨y.title.toArray⟩) ∧ w'.cell? ⟨gr, o + 2, none⟩ = some (.string ⟨y.link.toArray⟩) ∧ w'.cell? ⟨gr, o + 3, none⟩ = some (.int .i64 y.tm) ∧ w'.cell? ⟨gr, o + 4, none⟩ = some (.string ⟨y.html.toArray⟩))
theorem SP.keeps {W w' : World} {g gr o : Nat} {x y : En} (h : SP W g x gr o y W) (hk : Keeps [] W w') : SP W g x gr o y w' := by
  obtain ⟨_, ⟨h0, h1, h2, h3, h4⟩, k0, k1, k2, k3, k4⟩ := h
  exact ⟨hk, ⟨cell_keeps hk h0, cell_keeps hk h1, cell_keeps hk h2, cell_keeps hk h3, cell_keeps hk h4⟩, cell_keeps hk k0, cell_keeps hk k1, cell_keeps hk k2, cell_keeps hk k3, cell_keeps hk k4⟩
@[reducible] def SB (W : World) (g : Nat) (t : List UInt8) (w' : World) : Prop := Keeps [] W w' ∧ w'.cell? ⟨g, 0, none⟩ = some (.string ⟨t.toArray⟩)
set_option maxRecDepth 8000 in
set_option maxHeartbeats 16000000 in
theorem checkEntries_any (w : World) (v : Value) (l : List En) (hv : Lies w v l.length 5 (ensCells l)) (hf : ∀ x ∈ l, FitE x) (hM : HasMax w) :
    Calls Tryz.prog 133 #[v] w fun e w' => e = .returned (.int .i64 (chkEs none [] l)) ∧ Keeps [] w w' := by
  obtain ⟨o, c, rfl, h1, h2⟩ := hv.form
  obtain ⟨R, hR⟩ : ∃ R, chkEs none [] l = R := ⟨_, rfl⟩
  rw [hR]
  have HR := hide hR
  have HV := hide hv
  have HF := hide hf
  have HM := hide hM
  clear hR hv hf hM
  unfold maxLen at h2
  have hmm := @run_makeMap Tryz.prog
  go_enter Tryz.func133, Tryz.ntmps133
  go_wp2_with fail
  have hset0 : IsSet (w.alloc (.map #[] 0)) w.heap.size [] := IsSet.made w
  have hk0 : Keeps [] w (w.alloc (.map #[] 0)) := (Keeps.refl [] w).alloc _
  go_loopw [12] (fun i wr => ∃ k : Nat, k ≤ l.length ∧ i = .int .i64 k ∧ IsSet wr w.heap.size ((l.take k).map (·.id)) ∧ Keeps [] w wr ∧ Hid (chkEs (prevE l k) ((l.take k).map (·.id)) (l.drop k) = R)) (fun i _ => l.length - (intOf i).toNat)
  case atStart => exact ⟨0, Nat.zero_le _, rfl, hset0, hk0, HR⟩
  case round =>
    obtain ⟨k, hk, rfl, hset, hkw, hC⟩ := hrel
    clear HR hset0 hk0
    by_cases hlt : k < l.length
    · have hC1 := hC.out
      rw [chkEs_drop _ _ l k hlt] at hC1
      have hfk : FitE l[k] := HF.out _ (List.getElem_mem hlt)
      have hts : (l.take (k + 1)).map (·.id) = (l.take k).map (·.id) ++ [l[k].id] := by rw [List.take_succ_eq_append_getElem hlt, List.map_append]; rfl
      have hpv : prevE l (k + 1) = some l[k] := by simp [prevE, hlt]
      have hml : ((l.take k).map (·.id)).length < maxLen := by simp; unfold maxLen; omega
      obtain ⟨g, o0, rfl, hc⟩ := (HV.out.keeps hkw).addr (by omega)
      obtain ⟨a0, a1, a2, a3, a4⟩ := lies_en hc k hlt
      have hprev : ∀ k1, k = k1 + 1 → ∃ y, prevE l k = some y ∧ (wr.cell? ⟨g, o0 + k1 * 5, none⟩ = some (.string ⟨y.id.toArray⟩) ∧ wr.cell? ⟨g, o0 + k1 * 5 + 1, none⟩ = some (.string ⟨y.title.toArray⟩) ∧ wr.cell? ⟨g, o0 + k1 * 5 + 2, none⟩ = some (.string ⟨y.link.toArray⟩) ∧ wr.cell? ⟨g, o0 + k1 * 5 + 3, none⟩ = some (.int .i64 y.tm) ∧ wr.cell? ⟨g, o0 + k1 * 5 + 4, none⟩ = some (.string ⟨y.html.toArray⟩)) := fun k1 e => by
        have h9 := lies_en hc k1 (by omega)
        exact ⟨l[k1], by subst e; simp [prevE, show k1 < l.length from by omega], h9⟩
      have hp0 : k = 0 → prevE l k = none := fun e => by simp [prevE, e]
      have HC1 := hide hC1
      have HP0 := hide hp0
      have HTS := hide hts
      have HPV := hide hpv
      have HPR := hide hprev
      clear hC hC1 hc hts hpv hprev hp0
      generalize (l.take k).map (·.id) = met at *
      generalize prevE l k = pv at *
      generalize l[k] = x at *
      obtain ⟨W, hW⟩ : ∃ W, wr.alloc (.cells #[.string ⟨x.id.toArray⟩, .string ⟨x.title.toArray⟩, .string ⟨x.link.toArray⟩, .int .i64 x.tm, .string ⟨x.html.toArray⟩] 75) = W := ⟨_, rfl⟩
      have hkN : Keeps [] wr W := by rw [← hW]; exact (Keeps.refl [] wr).alloc _
      have HB := hide (nblk_new rfl hW).1
      have HKN := hide hkN
      have HKR := hide (hkw.trans hkN)
      have hce := hide (fun w1 (hk1 : Keeps [] w w1) => checkEn_any x w1 hfk (HM.out.keeps hk1 List.not_mem_nil))
      unfold enCells at hce
      have HW := hide hW
      have d0 : W.cell? ⟨wr.heap.size, 0, none⟩ = some (.string ⟨x.id.toArray⟩) := cell_blk HB.out 0
      have d1 : W.cell? ⟨wr.heap.size, 1, none⟩ = some (.string ⟨x.title.toArray⟩) := cell_blk HB.out 1
      have d2 : W.cell? ⟨wr.heap.size, 2, none⟩ = some (.string ⟨x.link.toArray⟩) := cell_blk HB.out 2
      have d3 : W.cell? ⟨wr.heap.size, 3, none⟩ = some (.int .i64 x.tm) := cell_blk HB.out 3
      have d4 : W.cell? ⟨wr.heap.size, 4, none⟩ = some (.string ⟨x.html.toArray⟩) := cell_blk HB.out 4
      have hfi := hfk.1
      clear hkN hW hfk
      obtain ⟨CX, hCX⟩ : ∃ CX, chkEn x = CX := ⟨_, rfl⟩
      rw [hCX] at HC1 hce
      clear hCX
      go_upto_region 5 with fail
      rw [HW.out]
      by_cases hcx : CX = 0
      · subst hcx
        by_cases hmt : x.id ∈ met
        · have hR6 : R = 6 := by rw [← HC1.out]; simp [hmt]
          subst hR6
          have hd : decide (x.id ∈ met) = true := by simpa using hmt
          clear HC1 hmt
          go_wp2_with fail
          refine (hce.out W HKR.out).mono ?_
          rintro e w3 ⟨rfl, hk3⟩
          have hset3 := (hset.keeps (HKN.out.trans hk3) List.not_mem_nil)
          have HK3 := hide (HKR.out.trans hk3)
          have HB3 := hide ((hk3.block _ (lt_of_block HB.out) List.not_mem_nil).trans HB.out)
          have HKN3 := hide (HKN.out.trans hk3)
          clear hk3 a0 a1 a2 a3 a4
          have b0 : w3.cell? ⟨wr.heap.size, 0, none⟩ = some (.string ⟨x.id.toArray⟩) := cell_blk HB3.out 0
          have hlook := hset3.look x.id hfi
          rw [hd] at hlook
          go_wp2_with fail
          go_ret
          exact ⟨rfl, HK3.out.alloc _⟩
        · have hd : decide (x.id ∈ met) = false := by simpa using hmt
          have HC2 := hide (show (if backE pv x = true then 4 else chkEs (some x) (met ++ [x.id]) (l.drop (k + 1))) = R from by have := HC1.out; simpa [hmt] using this)
          clear HC1 hmt
          go_wp2_with fail
          refine (hce.out W HKR.out).mono ?_
          rintro e w3 ⟨rfl, hk3⟩
          have hset3 := (hset.keeps (HKN.out.trans hk3) List.not_mem_nil)
          have HK3 := hide (HKR.out.trans hk3)
          have HB3 := hide ((hk3.block _ (lt_of_block HB.out) List.not_mem_nil).trans HB.out)
          have HKN3 := hide (HKN.out.trans hk3)
          clear hk3 a0 a1 a2 a3 a4
          have b0 : w3.cell? ⟨wr.heap.size, 0, none⟩ = some (.string ⟨x.id.toArray⟩) := cell_blk HB3.out 0
          have hlook := hset3.look x.id hfi
          rw [hd] at hlook
          obtain ⟨W4, hW4⟩ : ∃ W4, w3.alloc (.cells #[] 182) = W4 := ⟨_, rfl⟩
          have hk4 : Keeps [] w3 W4 := by rw [← hW4]; exact (Keeps.refl [] w3).alloc _
          have HW4 := hide hW4
          have HK4 := hide (HK3.out.trans hk4)
          have HS4 := hide (hset3.keeps hk4 List.not_mem_nil)
          have HB4 := hide ((hk4.block _ (lt_of_block HB3.out) List.not_mem_nil).trans HB3.out)
          have HN4 := hide (HKN3.out.trans hk4)
          clear hk4 hW4
          go_upto_region 11 with fail
          rw [HW4.out]
          rcases Nat.eq_zero_or_pos k with hk00 | hk00
          · have hpn := HP0.out hk00
            subst hpn
            have HC3 : Hid (chkEs (some x) (met ++ [x.id]) (l.drop (k + 1)) = R) := hide (by have := HC2.out; simpa [backE] using this)
            subst hk00
            clear HC2 HP0 HPR
            have hall : ∀ n, ∃ w6, (Instr.mapUpdate 219 (.map (some w.heap.size)) (.string ⟨x.id.toArray⟩) (.agg #[])).run Tryz.prog (W4.drewN n) = .ok () w6 ∧ IsSet w6 w.heap.size (met ++ [x.id]) ∧ Keeps [w.heap.size] (W4.drewN n) w6 := fun n => (HS4.out.keeps ((Keeps.refl [] W4).drewN n) List.not_mem_nil).add x.id hfi hml
            obtain ⟨F, hF⟩ := Classical.axiomOfChoice hall
            have hup := fun n => (hF n).1
            have HF6 := hide (fun n => (hF n).2)
            have z0 : ∀ n, (W4.drewN n).cell? ⟨wr.heap.size, 0, none⟩ = some (.string ⟨x.id.toArray⟩) := fun n => cell_keeps ((Keeps.refl [] W4).drewN n) (cell_blk HB4.out 0)
            clear hall hF
            go_quiet (fail)
            go_wp2_with fail
            go_roundw
            case rel => exact ⟨1, by omega, by go_num, by rw [HTS.out]; exact (HF6.out _).1, ((HK4.out.trans ((Keeps.refl [] W4).drewN _)).up.trans (HF6.out _).2).mono (fun i hi hlt => by simp at hi; omega), by rw [HTS.out, HPV.out]; exact HC3⟩
            case measure => simp [intOf]; omega
          · obtain ⟨k1, rfl⟩ : ∃ k1, k = k1 + 1 := ⟨k - 1, by omega⟩
            obtain ⟨y, rfl, y0, y1, y2, y3, y4⟩ := HPR.out k1 rfl
            have hS0 : SP W4 wr.heap.size x g (o0 + k1 * 5) y W4 := ⟨Keeps.refl _ _, ⟨cell_blk HB4.out 0, cell_blk HB4.out 1, cell_blk HB4.out 2, cell_blk HB4.out 3, cell_blk HB4.out 4⟩, cell_keeps HN4.out y0, cell_keeps HN4.out y1, cell_keeps HN4.out y2, cell_keeps HN4.out y3, cell_keeps HN4.out y4⟩
            have hi1 : k1 < l.length := by omega
            have hi2 : (0 : Int) ≤ (k1 : Int) := by omega
            have hi3 : (k1 : Int) < (l.length : Int) := by omega
            have hi4 : wrap64 (k1 : Int) = (k1 : Int) := by unfold wrap64; omega
            have hi5 : wrap64 (((k1 + 1 : Nat) : Int) - 1) = (k1 : Int) := by unfold wrap64; omega
            have hi6 : IntKind.i64.wrap (((k1 + 1 : Nat) : Int) - 1) = (k1 : Int) := by rw [IntKind.wrap_i64]; omega
            have hi7 : IntKind.i64.wrap (k1 : Int) = (k1 : Int) := by rw [IntKind.wrap_i64]; omega
            have hi8 : (((k1 + 1 : Nat) : Int) - 1) = (k1 : Int) := by omega
            have hord := hide (fun w => order_any y x w)
            unfold enCells at hord
            clear y0 y1 y2 y3 y4 HPR HP0
            obtain ⟨OD, hOD⟩ : ∃ OD, ordE y x = OD := ⟨_, rfl⟩
            rw [hOD] at hord
            by_cases hbk : 0 < OD
            · have hR4 : R = 4 := by rw [← HC2.out]; simp [backE, hOD, hbk]
              subst hR4
              have dbk : decide (0 < OD) = true := decide_eq_true hbk
              clear HC2 hOD hbk
              have hS1 := hS0
              obtain ⟨_, ⟨b0', b1, b2, b3, b4⟩, c0, c1, c2, c3, c4⟩ := hS1
              go_region_held3 (SP W4 wr.heap.size x g (o0 + k1 * 5) y) ((first | assumption | (refine SP.keeps hS0 ?_; first | exact (Keeps.refl [] W4) | exact (Keeps.refl [] W4).drew | exact (‹SP W4 wr.heap.size x g (o0 + k1 * 5) y _›).1.trans hkx | exact (‹SP W4 wr.heap.size x g (o0 + k1 * 5) y _›).1.alloc _ | exact (‹SP W4 wr.heap.size x g (o0 + k1 * 5) y _›).1.drewN _)))
                (first
                  | (go_at_call 192; refine (hord.out _).mono ?_; rintro e w7 ⟨rfl, hkx⟩))
              all_goals go_wp2_with fail
              all_goals go_ret
              all_goals exact ⟨rfl, HK4.out.trans (‹SP W4 wr.heap.size x g (o0 + k1 * 5) y _›).1⟩
            · have dbk : decide (0 < OD) = false := decide_eq_false hbk
              have HC3 : Hid (chkEs (some x) (met ++ [x.id]) (l.drop (k1 + 1 + 1)) = R) := hide (by have := HC2.out; simpa [backE, hOD, hbk] using this)
              clear HC2 hOD hbk
              have hS1 := hS0
              obtain ⟨_, ⟨b0', b1, b2, b3, b4⟩, c0, c1, c2, c3, c4⟩ := hS1
              go_region_held3 (SP W4 wr.heap.size x g (o0 + k1 * 5) y) ((first | assumption | (refine SP.keeps hS0 ?_; first | exact (Keeps.refl [] W4) | exact (Keeps.refl [] W4).drew | exact (‹SP W4 wr.heap.size x g (o0 + k1 * 5) y _›).1.trans hkx | exact (‹SP W4 wr.heap.size x g (o0 + k1 * 5) y _›).1.alloc _ | exact (‹SP W4 wr.heap.size x g (o0 + k1 * 5) y _›).1.drewN _)))
                (first
                  | (go_at_call 192; refine (hord.out _).mono ?_; rintro e w7 ⟨rfl, hkx⟩))
              all_goals obtain ⟨hkS, ⟨s0, s1, s2, s3, s4⟩, _⟩ := ‹SP W4 wr.heap.size x g (o0 + k1 * 5) y _›
              all_goals obtain ⟨w6, hup, hset6, hk6⟩ := (HS4.out.keeps hkS List.not_mem_nil).add x.id hfi hml
              all_goals have hkw6 : Hid (Keeps [] w w6) := hide (((HK4.out.trans hkS).up.trans hk6).mono fun i hi hlt => by simp at hi; omega)
              all_goals have HS6 := hide hset6
              all_goals clear hkS hset6 hk6
              all_goals go_wp2_with fail
              all_goals go_roundw
              all_goals first
                | exact ⟨k1 + 1 + 1, by omega, by go_num, by rw [HTS.out]; exact HS6.out, hkw6.out, by rw [HTS.out, HPV.out]; exact HC3⟩
                | (simp [intOf]; omega)
      · have hRx : R = CX := by rw [← HC1.out]; simp [hcx]
        have hne : (CX != 0) = true := by simpa using hcx
        subst hRx
        clear HC1
        go_wp2_with fail
        refine (hce.out W HKR.out).mono ?_
        rintro e w3 ⟨rfl, hk3⟩
        have hset3 := (hset.keeps (HKN.out.trans hk3) List.not_mem_nil)
        have HK3 := hide (HKR.out.trans hk3)
        have HB3 := hide ((hk3.block _ (lt_of_block HB.out) List.not_mem_nil).trans HB.out)
        have HKN3 := hide (HKN.out.trans hk3)
        clear hk3 a0 a1 a2 a3 a4
        have b0 : w3.cell? ⟨wr.heap.size, 0, none⟩ = some (.string ⟨x.id.toArray⟩) := cell_blk HB3.out 0
        go_wp2_with fail
        go_ret
        exact ⟨rfl, HK3.out⟩
    · have hRR : R = 0 := by
        rw [← hC.out, List.drop_eq_nil_of_le (by omega)]
        rfl
      subst hRR
      go_wp2_with fail
      go_ret
      exact ⟨rfl, hkw⟩
end Go.Proofs.YtlcljanibjdejaaGreat
namespace Go.Proofs.YtlcljanibjdejaaGreat
open Go.RowKit Go.Maps
def chkComing : List En → Int
  | [] => 0
  | x :: r => if chkEn x ≠ 0 then chkEn x else chkComing r
theorem chkComing_drop (l : List En) (k : Nat) (hk : k < l.length) : chkComing (l.drop k) = if chkEn l[k] ≠ 0 then chkEn l[k] else chkComing (l.drop (k + 1)) := by
  rw [List.drop_eq_getElem_cons hk]
  rfl
set_option maxRecDepth 8000 in
set_option maxHeartbeats 16000000 in
theorem checkComing_any (w : World) (v : Value) (l : List En) (hv : Lies w v l.length 5 (ensCells l)) (hf : ∀ x ∈ l, FitE x) (hM : HasMax w) :
    Calls Tryz.prog 117 #[v] w fun e w' => e = .returned (.int .i64 (if 12 < l.length then 2 else chkComing l)) ∧ Keeps [] w w' := by
  obtain ⟨o, c, rfl, h1, h2⟩ := hv.form
  have HV := hide hv
  have HF := hide hf
  have HM := hide hM
  clear hv hf hM
  unfold maxLen at h2
  by_cases h12 : 12 < l.length
  · rw [if_pos h12]
    have d : decide ((12 : Int) < (l.length : Int)) = true := by simp; omega
    clear h12
    go_enter Tryz.func117, Tryz.ntmps117
    go_wp2_with fail
    go_ret
    exact ⟨rfl, Keeps.refl _ _⟩
  · rw [if_neg h12]
    have d : decide ((12 : Int) < (l.length : Int)) = false := by simp; omega
    obtain ⟨R, hR⟩ : ∃ R, chkComing l = R := ⟨_, rfl⟩
    rw [hR]
    have HR := hide hR
    clear h12 hR
    go_enter Tryz.func117, Tryz.ntmps117
    go_wp2_with fail
    go_loopw [11] (fun i wr => ∃ k : Nat, k ≤ l.length ∧ i = .int .i64 k ∧ Keeps [] w wr ∧ Hid (chkComing (l.drop k) = R)) (fun i _ => l.length - (intOf i).toNat)
    case atStart => exact ⟨0, Nat.zero_le _, rfl, Keeps.refl _ _, HR⟩
    case round =>
      obtain ⟨k, hk, rfl, hkw, hC⟩ := hrel
      clear HR
      by_cases hlt : k < l.length
      · have hC1 := hC.out
        rw [chkComing_drop l k hlt] at hC1
        have hfk : FitE l[k] := HF.out _ (List.getElem_mem hlt)
        obtain ⟨g, o0, rfl, hc⟩ := (HV.out.keeps hkw).addr (by omega)
        obtain ⟨a0, a1, a2, a3, a4⟩ := lies_en hc k hlt
        have HC1 := hide hC1
        clear hC hC1 hc
        generalize l[k] = x at *
        obtain ⟨W, hW⟩ : ∃ W, wr.alloc (.cells #[.string ⟨x.id.toArray⟩, .string ⟨x.title.toArray⟩, .string ⟨x.link.toArray⟩, .int .i64 x.tm, .string ⟨x.html.toArray⟩] 75) = W := ⟨_, rfl⟩
        have hkN : Keeps [] wr W := by rw [← hW]; exact (Keeps.refl [] wr).alloc _
        have hb := (nblk_new rfl hW).1
        have HKR := hide (hkw.trans hkN)
        have hce := hide (fun w1 (hk1 : Keeps [] w w1) => checkEn_any x w1 hfk (HM.out.keeps hk1 List.not_mem_nil))
        unfold enCells at hce
        have HW := hide hW
        have d0 : W.cell? ⟨wr.heap.size, 0, none⟩ = some (.string ⟨x.id.toArray⟩) := cell_blk hb 0
        have d1 : W.cell? ⟨wr.heap.size, 1, none⟩ = some (.string ⟨x.title.toArray⟩) := cell_blk hb 1
        have d2 : W.cell? ⟨wr.heap.size, 2, none⟩ = some (.string ⟨x.link.toArray⟩) := cell_blk hb 2
        have d3 : W.cell? ⟨wr.heap.size, 3, none⟩ = some (.int .i64 x.tm) := cell_blk hb 3
        have d4 : W.cell? ⟨wr.heap.size, 4, none⟩ = some (.string ⟨x.html.toArray⟩) := cell_blk hb 4
        clear hkN hW hfk hb
        obtain ⟨CX, hCX⟩ : ∃ CX, chkEn x = CX := ⟨_, rfl⟩
        rw [hCX] at HC1 hce
        clear hCX
        go_upto_region 6 with fail
        rw [HW.out]
        go_wp2_with fail
        refine (hce.out W HKR.out).mono ?_
        rintro e w3 ⟨rfl, hk3⟩
        have HK3 := hide (HKR.out.trans hk3)
        clear hk3
        by_cases hcx : CX = 0
        · subst hcx
          have HC2 : Hid (chkComing (l.drop (k + 1)) = R) := hide (by have := HC1.out; simpa using this)
          clear HC1
          go_wp2_with fail
          go_roundw
          case rel => exact ⟨k + 1, by omega, by go_num, HK3.out, HC2⟩
          case measure => simp [intOf]; omega
        · have hRx : R = CX := by rw [← HC1.out]; simp [hcx]
          have hne : (CX != 0) = true := by simpa using hcx
          subst hRx
          clear HC1
          go_wp2_with fail
          go_ret
          exact ⟨rfl, HK3.out⟩
      · have hRR : R = 0 := by
          rw [← hC.out, List.drop_eq_nil_of_le (by omega)]
          rfl
        subst hRR
        go_wp2_with fail
        go_ret
        exact ⟨rfl, hkw⟩
def idCs (l : List (List UInt8)) : List Value := l.map fun s => .string ⟨s.toArray⟩
theorem idCs_at (l : List (List UInt8)) (k : Nat) (hk : k < l.length) : (idCs l)[k]? = some (.string ⟨l[k].toArray⟩) := by simp [idCs, hk]
def notUp (p : Option (List UInt8)) (x : List UInt8) : Bool := match p with
  | none => false
  | some y => !lessL y x
def chkRead : Option (List UInt8) → List (List UInt8) → Int
  | _, [] => 0
  | p, x :: r => if x = [] then 1 else if 60 < x.length then 2 else if notUp p x = true then 4 else chkRead (some x) r
theorem chkRead_drop (p : Option (List UInt8)) (l : List (List UInt8)) (k : Nat) (hk : k < l.length) : chkRead p (l.drop k) = if l[k] = [] then 1 else if 60 < l[k].length then 2 else if notUp p l[k] = true then 4 else chkRead (some l[k]) (l.drop (k + 1)) := by
  rw [List.drop_eq_getElem_cons hk]
  rfl
def prevI (l : List (List UInt8)) (k : Nat) : Option (List UInt8) := if k = 0 then none else l[k - 1]?
theorem leq_B (a b : List UInt8) : (lessL a b || (a == b)) = !lessL b a := by
  rcases lessL_total a b with h | h | h
  · subst h; simp [lessL_irrefl]
  · simp [h, lessL_asymm h]
  · have : a ≠ b := fun e => by subst e; rw [lessL_irrefl] at h; cases h
    simp [h, lessL_asymm h, this]
set_option maxRecDepth 8000 in
set_option maxHeartbeats 16000000 in
theorem checkRead_any (w : World) (v : Value) (l : List (List UInt8)) (hv : Lies w v l.length 1 (idCs l)) :
    Calls Tryz.prog 134 #[v] w fun e w' => e = .returned (.int .i64 (chkRead none l)) ∧ Keeps [] w w' := by
  obtain ⟨o, c, rfl, h1, h2⟩ := hv.form
  have HV := hide hv
  clear hv
  unfold maxLen at h2
  obtain ⟨R, hR⟩ : ∃ R, chkRead none l = R := ⟨_, rfl⟩
  rw [hR]
  have HR := hide hR
  clear hR
  go_enter Tryz.func134, Tryz.ntmps134
  go_wp2_with fail
  go_loopw [7] (fun i wr => ∃ k : Nat, k ≤ l.length ∧ i = .int .i64 k ∧ Keeps [] w wr ∧ Hid (chkRead (prevI l k) (l.drop k) = R)) (fun i _ => l.length - (intOf i).toNat)
  case atStart => exact ⟨0, Nat.zero_le _, rfl, Keeps.refl _ _, HR⟩
  case round =>
    obtain ⟨k, hk, rfl, hkw, hC⟩ := hrel
    clear HR
    by_cases hlt : k < l.length
    · have hC1 := hC.out
      rw [chkRead_drop _ l k hlt] at hC1
      have hpv : prevI l (k + 1) = some l[k] := by simp [prevI, hlt]
      have hp0 : k = 0 → prevI l k = none := fun e => by simp [prevI, e]
      obtain ⟨g, o0, rfl, hc⟩ := (HV.out.keeps hkw).addr (by omega)
      have a0 := hc _ _ (idCs_at l k hlt)
      have hprev : ∀ k1, k = k1 + 1 → ∃ y, prevI l k = some y ∧ wr.cell? ⟨g, o0 + k1, none⟩ = some (.string ⟨y.toArray⟩) := fun k1 e => by
        have h9 := hc _ _ (idCs_at l k1 (by omega))
        exact ⟨l[k1], by subst e; simp [prevI, show k1 < l.length from by omega], h9⟩
      have HC1 := hide hC1
      have HP0 := hide hp0
      have HPV := hide hpv
      have HPR := hide hprev
      clear hC hC1 hc hpv hprev hp0
      generalize prevI l k = pv at *
      generalize l[k] = x at *
      have zx := str_size x
      by_cases hx0 : x = []
      · have hR1 : R = 1 := by rw [← HC1.out]; simp [hx0]
        have e1 : x.isEmpty = true := by simpa using hx0
        subst hR1
        clear HC1 HPR HP0 hx0
        go_wp2_with fail
        go_ret
        exact ⟨rfl, hkw⟩
      · have e1 : x.isEmpty = false := by simpa using hx0
        by_cases hx6 : 60 < x.length
        · have hR2 : R = 2 := by rw [← HC1.out]; simp [hx0, hx6]
          have e2 : decide ((60 : Int) < (x.length : Int)) = true := by simp; omega
          subst hR2
          clear HC1 HPR HP0 hx0 hx6
          go_wp2_with fail
          go_ret
          exact ⟨rfl, hkw⟩
        · have e2 : decide ((60 : Int) < (x.length : Int)) = false := by simp; omega
          have HC2 := hide (show (if notUp pv x = true then 4 else chkRead (some x) (l.drop (k + 1))) = R from by have := HC1.out; simpa [hx0, hx6] using this)
          clear HC1 hx0 hx6
          rcases Nat.eq_zero_or_pos k with hk00 | hk00
          · have hpn := HP0.out hk00
            subst hpn
            have HC3 : Hid (chkRead (some x) (l.drop (k + 1)) = R) := hide (by have := HC2.out; simpa [notUp] using this)
            subst hk00
            rw [Nat.add_zero] at a0
            clear HC2 HP0 HPR
            go_wp2_with fail
            go_roundw
            case rel => exact ⟨1, by omega, by go_num, hkw, by rw [HPV.out]; exact HC3⟩
            case measure => simp [intOf]; omega
          · obtain ⟨k1, rfl⟩ : ∃ k1, k = k1 + 1 := ⟨k - 1, by omega⟩
            obtain ⟨y, rfl, y0⟩ := HPR.out k1 rfl
            have hi1 : k1 < l.length := by omega
            have hi2 : (0 : Int) ≤ (k1 : Int) := by omega
            have hi3 : (k1 : Int) < (l.length : Int) := by omega
            have hi4 : wrap64 (k1 : Int) = (k1 : Int) := by unfold wrap64; omega
            have hi5 : wrap64 (((k1 + 1 : Nat) : Int) - 1) = (k1 : Int) := by unfold wrap64; omega
            have hi6 : IntKind.i64.wrap (((k1 + 1 : Nat) : Int) - 1) = (k1 : Int) := by rw [IntKind.wrap_i64]; omega
            have hi8 : (((k1 + 1 : Nat) : Int) - 1) = (k1 : Int) := by omega
            have b1 := bytesLess_L x y
            have b2 := leq_B x y
            rw [← b1] at b2
            have HC3 := hide (show (if (!lessL y x) = true then 4 else chkRead (some x) (l.drop (k1 + 1 + 1))) = R from by have := HC2.out; simpa [notUp] using this)
            clear HC2 HP0 HPR b1
            generalize lessL y x = U at *
            cases U
            · have hR4 : R = 4 := by rw [← HC3.out]; simp
              subst hR4
              simp only [Bool.not_false] at b2
              clear HC3
              go_wp2_with fail
              go_ret
              exact ⟨rfl, hkw⟩
            · have HC4 : Hid (chkRead (some x) (l.drop (k1 + 1 + 1)) = R) := hide (by have := HC3.out; simpa using this)
              simp only [Bool.not_true] at b2
              clear HC3
              go_wp2_with fail
              go_roundw
              case rel => exact ⟨k1 + 1 + 1, by omega, by go_num, hkw, by rw [HPV.out]; exact HC4⟩
              case measure => simp [intOf]; omega
    · have hRR : R = 0 := by
        rw [← hC.out, List.drop_eq_nil_of_le (by omega)]
        rfl
      subst hRR
      go_wp2_with fail
      go_ret
      exact ⟨rfl, hkw⟩
/-- A shelf. -/
structure Sh where
  es : List En
  rd : List (List UInt8)
def chkSh (s : Sh) : Int := if 20 < s.es.length ∨ 40 < s.rd.length then 2 else if chkEs none [] s.es ≠ 0 then chkEs none [] s.es else chkRead none s.rd
set_option maxRecDepth 8000 in
set_option maxHeartbeats 8000000 in
theorem shelfCheck_any (w : World) (ev rv : Value) (s : Sh) (he : Lies w ev s.es.length 5 (ensCells s.es)) (hr : Lies w rv s.rd.length 1 (idCs s.rd)) (hf : ∀ x ∈ s.es, FitE x) (hM : HasMax w) :
    Calls Tryz.prog 51 #[.agg #[ev, rv]] w fun e w' => e = .returned (.int .i64 (chkSh s)) ∧ Keeps [] w w' := by
  obtain ⟨eo, ec, rfl, h1, h2⟩ := he.form
  obtain ⟨ro, rc, rfl, h3, h4⟩ := hr.form
  obtain ⟨C, hC⟩ : ∃ C, chkSh s = C := ⟨_, rfl⟩
  rw [hC]
  unfold chkSh at hC
  obtain ⟨W, hW⟩ : ∃ W, w.alloc (.cells #[.slice eo s.es.length ec, .slice ro s.rd.length rc] 64) = W := ⟨_, rfl⟩
  have hkW : Keeps [] w W := by rw [← hW]; exact (Keeps.refl [] w).alloc _
  have hb := (nblk_new rfl hW).1
  have b0 : W.cell? ⟨w.heap.size, 0, none⟩ = some (.slice eo s.es.length ec) := cell_blk hb 0
  have b1 : W.cell? ⟨w.heap.size, 1, none⟩ = some (.slice ro s.rd.length rc) := cell_blk hb 1
  have HB := hide hb
  have HKW := hide hkW
  have HW := hide hW
  have hce := hide (checkEntries_any W _ s.es (he.keeps hkW) hf (hM.keeps hkW List.not_mem_nil))
  have hcr := hide (fun w1 (hk : Keeps [] w w1) => checkRead_any w1 _ s.rd (hr.keeps hk))
  clear he hr hf hM hkW hb hW
  unfold maxLen at h2 h4
  generalize chkEs none [] s.es = CE at *
  generalize chkRead none s.rd = CR at *
  by_cases h20 : 20 < s.es.length
  · rw [if_pos (.inl h20)] at hC
    have d : decide ((20 : Int) < (s.es.length : Int)) = true := by simp; omega
    subst hC
    clear h20
    go_enter Tryz.func51, Tryz.ntmps51
    go_upto_region 1 with fail
    rw [HW.out]
    go_wp2_with fail
    go_ret
    exact ⟨rfl, HKW.out⟩
  · have d : decide ((20 : Int) < (s.es.length : Int)) = false := by simp; omega
    by_cases h40 : 40 < s.rd.length
    · rw [if_pos (.inr h40)] at hC
      have d4 : decide ((40 : Int) < (s.rd.length : Int)) = true := by simp; omega
      subst hC
      clear h20 h40
      go_enter Tryz.func51, Tryz.ntmps51
      go_upto_region 1 with fail
      rw [HW.out]
      go_wp2_with fail
      go_ret
      exact ⟨rfl, HKW.out⟩
    · have d4 : decide ((40 : Int) < (s.rd.length : Int)) = false := by simp; omega
      rw [if_neg (by omega)] at hC
      clear h20 h40
      by_cases hcx : CE = 0
      · subst hcx
        simp only [ne_eq, not_true, if_false] at hC
        subst hC
        go_enter Tryz.func51, Tryz.ntmps51
        go_upto_region 1 with fail
        rw [HW.out]
        go_wp2_with fail
        refine hce.out.mono ?_
        rintro e w1 ⟨rfl, hk1⟩
        have c1 : w1.cell? ⟨w.heap.size, 1, none⟩ = some (.slice ro s.rd.length rc) := ncell_all hk1 HB.out 1
        have HK1 := hide (HKW.out.trans hk1)
        clear hk1 b0 b1
        go_wp2_with fail
        refine (hcr.out w1 HK1.out).mono ?_
        rintro e w2 ⟨rfl, hk2⟩
        go_wp2_with fail
        go_ret
        exact ⟨rfl, HK1.out.trans hk2⟩
      · rw [if_pos hcx] at hC
        subst hC
        have hne : (CE != 0) = true := by simpa using hcx
        go_enter Tryz.func51, Tryz.ntmps51
        go_upto_region 1 with fail
        rw [HW.out]
        go_wp2_with fail
        refine hce.out.mono ?_
        rintro e w1 ⟨rfl, hk1⟩
        go_wp2_with fail
        go_ret
        exact ⟨rfl, HKW.out.trans hk1⟩
end Go.Proofs.YtlcljanibjdejaaGreat
namespace Go.Proofs.YtlcljanibjdejaaGreat
open Go.RowKit Go.Maps
theorem chkSh_parts {s : Sh} (h : chkSh s = 0) : s.es.length ≤ 20 ∧ s.rd.length ≤ 40 ∧ chkEs none [] s.es = 0 ∧ chkRead none s.rd = 0 := by
  unfold chkSh at h
  split at h
  · simp at h
  · split at h
    · rename_i h1; exact absurd h h1
    · rename_i h1 h2
      exact ⟨by omega, by omega, by simpa using h2, h⟩
theorem idCs_app (a b : List (List UInt8)) : idCs (a ++ b) = idCs a ++ idCs b := by simp [idCs]
theorem info9s : (Tryz.prog.info? 9).map (fun i => (i.zero, i.size, i.bytes)) = some (some (.string ⟨#[]⟩), 1, 16) := by kernel_rfl
theorem one_str (w : World) (s : List UInt8) : ∀ j u, ([Value.string ⟨s.toArray⟩] : List Value)[j]? = some u → (w.alloc (.cells #[.string ⟨s.toArray⟩] 9)).cell? ((⟨w.heap.size, 0, none⟩ : Addr).add j) = some u := by
  intro j u h
  exact lit_cells w #[.string ⟨s.toArray⟩] 9 j u (by simpa using h)
end Go.Proofs.YtlcljanibjdejaaGreat
