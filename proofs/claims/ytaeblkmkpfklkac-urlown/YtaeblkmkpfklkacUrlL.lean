/- UrlOwn. -/
import Derived.Test.YtaeblkmkpfklkacUrlK
namespace Go.Proofs.Ytaeblkmkpfklkac
open Go.RowKit

/-- What Resolve answers, of whatever texts. -/
def resE (b s : List UInt8) : Int := if 3000 < b.length ∨ 3000 < s.length then 2 else match resAns b s with
  | some _ => 0
  | none => 1
def resX (b s : List UInt8) : List UInt8 := if 3000 < b.length ∨ 3000 < s.length then [] else match resAns b s with
  | some x => x
  | none => []

theorem resolve_all (b s : ByteArray) (w : World) (hb : b.size ≤ maxLen) (hs : s.size ≤ maxLen) (hM : HasMax w) :
    Calls Try.prog 10 #[.string b, .string s] w fun e w' => e = .returned (.tuple #[.string ⟨(resX b.data.toList s.data.toList).toArray⟩, .int .i64 (resE b.data.toList s.data.toList)]) ∧ Keeps [] w w' := by
  unfold resX resE
  rw [len_size, len_size]
  by_cases h : 3000 < b.size ∨ 3000 < s.size
  · rw [if_pos h, if_pos h]
    exact (resolve_long b s w hb hs h).mono fun e w' ⟨he, hw⟩ => ⟨he, hw ▸ Keeps.refl _ _⟩
  · rw [if_neg h, if_neg h]
    refine (resolve_any b s w (by omega) (by omega) hM).mono fun e w' ⟨he, hk⟩ => ⟨he.trans ?_, hk⟩
    cases resAns b.data.toList s.data.toList <;> rfl

theorem resE_zero {b s : List UInt8} (h : resE b s = 0) : resAns b s = some (resX b s) ∧ ¬ (3000 < b.length ∨ 3000 < s.length) := by
  unfold resE at h
  by_cases hl : 3000 < b.length ∨ 3000 < s.length
  · rw [if_pos hl] at h; simp at h
  · rw [if_neg hl] at h
    refine ⟨?_, hl⟩
    unfold resX
    rw [if_neg hl]
    cases hr : resAns b s with
    | none => rw [hr] at h; simp at h
    | some x => rfl

/-- A link with a scheme is itself in the light of any base. -/
theorem res_own {b c s : List UInt8} (hs : (splitL s).hs = true) (h1 : resE b s = 0) (h2 : resE c s = 0) : resX b s = resX c s := by
  obtain ⟨e1, _⟩ := resE_zero h1
  obtain ⟨e2, _⟩ := resE_zero h2
  unfold resAns at e1 e2
  have r : ∀ x : UrlT, resL x (splitL s) = { splitL s with path := dotsL (splitL s).path } := fun x => by unfold resL; rw [if_pos hs]
  rw [r] at e1 e2
  split at e1
  · split at e2
    · rw [e1] at e2
      simpa using e2
    · simp at e2
  · simp at e1

theorem res_empty {b : List UInt8} (hb : (splitL b).hs = true) : resAns b [] = joinsL { splitL b with path := dotsL (splitL b).path, fragment := [], hf := false } := by
  unfold resAns
  rw [if_pos hb]
  congr 1
  have e : splitL [] = noUrl := by kernel_rfl
  rw [e]
  unfold resL noUrl
  simp [mergedL, hb]

theorem strNeq (x y : List UInt8) : ((⟨x.toArray⟩ : ByteArray).toList != (⟨y.toArray⟩ : ByteArray).toList) = decide (x ≠ y) := by
  unfold bne
  rw [strEq]
  simp

set_option maxRecDepth 8000 in
set_option maxHeartbeats 40000000 in
theorem own_any (base other s : ByteArray) (w : World) (h1 : base.size ≤ maxLen) (h2 : other.size ≤ maxLen) (h3 : s.size ≤ maxLen) (hM : HasMax w) :
    Calls Try.prog 4 #[.string base, .string other, .string s] w fun e w' => e = .returned (.bool true) ∧ Keeps [] w w' := by
  have rA := hide (fun w hM => resolve_all base s w h1 h3 hM)
  have rB := hide (fun w hM => resolve_all other s w h2 h3 hM)
  have spL := hide (fun w (h : 3000 < s.size) => split_long s w h3 h)
  have spS := hide (fun w (h : ¬ 3000 < s.size) hM => split_short s w h hM)
  have sbL := hide (fun w (h : 3000 < base.size) => split_long base w h1 h)
  have sbS := hide (fun w (h : ¬ 3000 < base.size) hM => split_short base w h hM)
  have own := hide (fun (hs : (splitL s.data.toList).hs = true) (a : resE base.data.toList s.data.toList = 0) (b : resE other.data.toList s.data.toList = 0) => res_own hs a b)
  have emp : Hid (∀ (hb : (splitL base.data.toList).hs = true) (hl : ¬ 3000 < base.size) (w : World) (hM : HasMax w), Calls Try.prog 10 #[.string base, .string ⟨#[]⟩] w fun e w' => e = ansO (joinsL { splitL base.data.toList with path := dotsL (splitL base.data.toList).path, fragment := [], hf := false }) ∧ Keeps [] w w') := fun hb hl w hM => by
    have := resolve_any base ⟨#[]⟩ w (by omega) (by decide) hM
    rw [show (⟨#[]⟩ : ByteArray).data.toList = [] from rfl, res_empty hb] at this
    exact this
  have hsl := split_len base.data.toList
  rw [len_size] at hsl
  have jn := hide (fun (hl : ¬ 3000 < base.size) (w : World) hM => join_any { splitL base.data.toList with path := dotsL (splitL base.data.toList).path, fragment := [], hf := false } w (by
    have := dotsL_len (splitL base.data.toList).path
    exact ⟨by simp only; omega, by simp only; omega, by simp only; omega, by simp only; omega, by simp⟩) hM)
  have dt := hide (fun (hl : ¬ 3000 < base.size) (w : World) => dots_any ⟨(splitL base.data.toList).path.toArray⟩ w (by rw [str_size]; omega))
  rw [str_list] at dt
  clear hsl h1 h2 h3
  generalize splitL base.data.toList = v at *
  generalize splitL s.data.toList = u at *
  obtain ⟨vs, va, vp, vq, vf, vhs, vha, vhq, vhf⟩ := v
  obtain ⟨us, ua, up, uq, uf, uhs, uha, uhq, uhf⟩ := u
  simp only at own emp jn dt
  generalize dotsL vp = d at *
  unfold urlV urlCells at spS sbS jn
  unfold urlV urlCells noUrl at spL sbL
  generalize resX base.data.toList s.data.toList = xa at *
  generalize resE base.data.toList s.data.toList = ea at *
  generalize resX other.data.toList s.data.toList = xb at *
  generalize resE other.data.toList s.data.toList = eb at *
  by_cases hs : 3000 < s.size
  · skip
    go_enter Try.func4, Try.ntmps4
    go_wp2_with fail
    refine (urlBegun_any _ hM).mono ?_
    rintro e w1 ⟨rfl, K_w1⟩
    have M_w1 := hM.keeps K_w1 (by simp)
    go_wp2_with fail
    refine (spL.out _ hs).mono ?_
    rintro e w2 ⟨rfl, k_w2⟩
    have K_w2 := K_w1.trans k_w2
    have M_w2 := hM.keeps K_w2 (by simp)
    have K_w3 : Keeps [] w (w2.alloc (.cells #[.string ⟨#[]⟩, .string ⟨#[]⟩, .string ⟨#[]⟩, .string ⟨#[]⟩, .string ⟨#[]⟩, .bool false, .bool false, .bool false, .bool false] 23)) := K_w2.alloc _
    have M_w3 := hM.keeps K_w3 (by simp)
    go_wp2_with fail
    by_cases hb : 3000 < base.size
    · skip
      refine (sbL.out _ hb).mono ?_
      rintro e w4 ⟨rfl, k_w4⟩
      have K_w4 := K_w3.trans k_w4
      have M_w4 := hM.keeps K_w4 (by simp)
      go_wp2_with fail
      go_ret
      exact ⟨rfl, K_w4.alloc _⟩
    · cases vhs
      · skip
        refine (sbS.out _ hb M_w3).mono ?_
        rintro e w5 ⟨rfl, k_w5⟩
        have K_w5 := K_w3.trans k_w5
        have M_w5 := hM.keeps K_w5 (by simp)
        go_wp2_with fail
        go_ret
        exact ⟨rfl, K_w5.alloc _⟩
      · have emp2 := hide (emp.out (by first | rfl | trivial) hb)
        have jn2 := hide (jn.out hb)
        have dt2 := hide (dt.out hb)
        clear emp jn dt
        generalize joinsL ⟨vs, va, d, vq, [], true, vha, vhq, false⟩ = J at *
        refine (sbS.out _ hb M_w3).mono ?_
        rintro e w6 ⟨rfl, k_w6⟩
        have K_w6 := K_w3.trans k_w6
        have M_w6 := hM.keeps K_w6 (by simp)
        have hU : IsUrl (w6.alloc (.cells #[.string ⟨vs.toArray⟩, .string ⟨va.toArray⟩, .string ⟨vp.toArray⟩, .string ⟨vq.toArray⟩, .string ⟨vf.toArray⟩, .bool true, .bool vha, .bool vhq, .bool vhf] 23)) w6.heap.size ⟨vs, va, vp, vq, vf, true, vha, vhq, vhf⟩ := heap_alloc_new _ _
        have K_w7 : Keeps [] w (w6.alloc (.cells #[.string ⟨vs.toArray⟩, .string ⟨va.toArray⟩, .string ⟨vp.toArray⟩, .string ⟨vq.toArray⟩, .string ⟨vf.toArray⟩, .bool true, .bool vha, .bool vhq, .bool vhf] 23)) := K_w6.alloc _
        have M_w7 := hM.keeps K_w7 (by simp)
        go_wp2_with fail
        refine (dt2.out _).mono ?_
        rintro e w8 ⟨rfl, k_w8⟩
        have K_w8 := K_w7.trans k_w8
        have U4 := hU.keeps k_w8 (by simp)
        have U5 := U4.set2 d
        have U6 := U5.set4 []
        have U7 := U6.set8 false
        have hbw : w.heap.size ≤ w6.heap.size := K_w6.size
        have K5 := K_w8.setCell (p := ⟨w6.heap.size, 2, none⟩) (.inr hbw) (.string ⟨d.toArray⟩)
        have K6 := K5.setCell (p := ⟨w6.heap.size, 4, none⟩) (.inr hbw) (.string ⟨([] : List UInt8).toArray⟩)
        have K7 := K6.setCell (p := ⟨w6.heap.size, 8, none⟩) (.inr hbw) (.bool false)
        have M7 := hM.keeps K7 (by simp)
        have c2 : w8.cell? ⟨w6.heap.size, 2, none⟩ = some (.string ⟨vp.toArray⟩) := U4.cell 2
        have f2 := U4.free 2
        have c4 : (w8.setCell ⟨w6.heap.size, 2, none⟩ (.string ⟨d.toArray⟩)).cell? ⟨w6.heap.size, 4, none⟩ = some (.string ⟨vf.toArray⟩) := U5.cell 4
        have f4 := U5.free 4
        have c8 : ((w8.setCell ⟨w6.heap.size, 2, none⟩ (.string ⟨d.toArray⟩)).setCell ⟨w6.heap.size, 4, none⟩ (.string ⟨#[]⟩)).cell? ⟨w6.heap.size, 8, none⟩ = some (.bool vhf) := U6.cell 8
        have f8 := U6.free 8
        have l0 : (((w8.setCell ⟨w6.heap.size, 2, none⟩ (.string ⟨d.toArray⟩)).setCell ⟨w6.heap.size, 4, none⟩ (.string ⟨#[]⟩)).setCell ⟨w6.heap.size, 8, none⟩ (.bool false)).cell? ⟨w6.heap.size, 0, none⟩ = some (.string ⟨vs.toArray⟩) := U7.cell 0
        have l1 : (((w8.setCell ⟨w6.heap.size, 2, none⟩ (.string ⟨d.toArray⟩)).setCell ⟨w6.heap.size, 4, none⟩ (.string ⟨#[]⟩)).setCell ⟨w6.heap.size, 8, none⟩ (.bool false)).cell? ⟨w6.heap.size, 1, none⟩ = some (.string ⟨va.toArray⟩) := U7.cell 1
        have l2 : (((w8.setCell ⟨w6.heap.size, 2, none⟩ (.string ⟨d.toArray⟩)).setCell ⟨w6.heap.size, 4, none⟩ (.string ⟨#[]⟩)).setCell ⟨w6.heap.size, 8, none⟩ (.bool false)).cell? ⟨w6.heap.size, 2, none⟩ = some (.string ⟨d.toArray⟩) := U7.cell 2
        have l3 : (((w8.setCell ⟨w6.heap.size, 2, none⟩ (.string ⟨d.toArray⟩)).setCell ⟨w6.heap.size, 4, none⟩ (.string ⟨#[]⟩)).setCell ⟨w6.heap.size, 8, none⟩ (.bool false)).cell? ⟨w6.heap.size, 3, none⟩ = some (.string ⟨vq.toArray⟩) := U7.cell 3
        have l4 : (((w8.setCell ⟨w6.heap.size, 2, none⟩ (.string ⟨d.toArray⟩)).setCell ⟨w6.heap.size, 4, none⟩ (.string ⟨#[]⟩)).setCell ⟨w6.heap.size, 8, none⟩ (.bool false)).cell? ⟨w6.heap.size, 4, none⟩ = some (.string ⟨#[]⟩) := U7.cell 4
        have l5 : (((w8.setCell ⟨w6.heap.size, 2, none⟩ (.string ⟨d.toArray⟩)).setCell ⟨w6.heap.size, 4, none⟩ (.string ⟨#[]⟩)).setCell ⟨w6.heap.size, 8, none⟩ (.bool false)).cell? ⟨w6.heap.size, 5, none⟩ = some (.bool true) := U7.cell 5
        have l6 : (((w8.setCell ⟨w6.heap.size, 2, none⟩ (.string ⟨d.toArray⟩)).setCell ⟨w6.heap.size, 4, none⟩ (.string ⟨#[]⟩)).setCell ⟨w6.heap.size, 8, none⟩ (.bool false)).cell? ⟨w6.heap.size, 6, none⟩ = some (.bool vha) := U7.cell 6
        have l7 : (((w8.setCell ⟨w6.heap.size, 2, none⟩ (.string ⟨d.toArray⟩)).setCell ⟨w6.heap.size, 4, none⟩ (.string ⟨#[]⟩)).setCell ⟨w6.heap.size, 8, none⟩ (.bool false)).cell? ⟨w6.heap.size, 7, none⟩ = some (.bool vhq) := U7.cell 7
        have l8 : (((w8.setCell ⟨w6.heap.size, 2, none⟩ (.string ⟨d.toArray⟩)).setCell ⟨w6.heap.size, 4, none⟩ (.string ⟨#[]⟩)).setCell ⟨w6.heap.size, 8, none⟩ (.bool false)).cell? ⟨w6.heap.size, 8, none⟩ = some (.bool false) := U7.cell 8
        go_wp2_with fail
        cases J with
        | none =>
          simp only [ansO] at jn2 emp2
          refine (jn2.out _ M7).mono ?_
          rintro e w9 ⟨rfl, k_w9⟩
          have K_w9 := K7.trans k_w9
          have M_w9 := hM.keeps K_w9 (by simp)
          go_wp2_with fail
          refine (emp2.out _ M_w9).mono ?_
          rintro e w10 ⟨rfl, k_w10⟩
          have K_w10 := K_w9.trans k_w10
          go_wp2_with fail
          go_ret
          exact ⟨rfl, K_w10⟩
        | some x =>
          simp only [ansO] at jn2 emp2
          refine (jn2.out _ M7).mono ?_
          rintro e w11 ⟨rfl, k_w11⟩
          have K_w11 := K7.trans k_w11
          have M_w11 := hM.keeps K_w11 (by simp)
          go_wp2_with fail
          refine (emp2.out _ M_w11).mono ?_
          rintro e w12 ⟨rfl, k_w12⟩
          have K_w12 := K_w11.trans k_w12
          go_wp2_with fail
          go_ret
          exact ⟨rfl, K_w12⟩
  · cases uhs
    · skip
      go_enter Try.func4, Try.ntmps4
      go_wp2_with fail
      refine (urlBegun_any _ hM).mono ?_
      rintro e w13 ⟨rfl, K_w13⟩
      have M_w13 := hM.keeps K_w13 (by simp)
      go_wp2_with fail
      refine (spS.out _ hs M_w13).mono ?_
      rintro e w14 ⟨rfl, k_w14⟩
      have K_w14 := K_w13.trans k_w14
      have M_w14 := hM.keeps K_w14 (by simp)
      have K_w15 : Keeps [] w (w14.alloc (.cells #[.string ⟨us.toArray⟩, .string ⟨ua.toArray⟩, .string ⟨up.toArray⟩, .string ⟨uq.toArray⟩, .string ⟨uf.toArray⟩, .bool false, .bool uha, .bool uhq, .bool uhf] 23)) := K_w14.alloc _
      have M_w15 := hM.keeps K_w15 (by simp)
      go_wp2_with fail
      by_cases hb : 3000 < base.size
      · skip
        refine (sbL.out _ hb).mono ?_
        rintro e w16 ⟨rfl, k_w16⟩
        have K_w16 := K_w15.trans k_w16
        have M_w16 := hM.keeps K_w16 (by simp)
        go_wp2_with fail
        go_ret
        exact ⟨rfl, K_w16.alloc _⟩
      · cases vhs
        · skip
          refine (sbS.out _ hb M_w15).mono ?_
          rintro e w17 ⟨rfl, k_w17⟩
          have K_w17 := K_w15.trans k_w17
          have M_w17 := hM.keeps K_w17 (by simp)
          go_wp2_with fail
          go_ret
          exact ⟨rfl, K_w17.alloc _⟩
        · have emp2 := hide (emp.out (by first | rfl | trivial) hb)
          have jn2 := hide (jn.out hb)
          have dt2 := hide (dt.out hb)
          clear emp jn dt
          generalize joinsL ⟨vs, va, d, vq, [], true, vha, vhq, false⟩ = J at *
          refine (sbS.out _ hb M_w15).mono ?_
          rintro e w18 ⟨rfl, k_w18⟩
          have K_w18 := K_w15.trans k_w18
          have M_w18 := hM.keeps K_w18 (by simp)
          have hU : IsUrl (w18.alloc (.cells #[.string ⟨vs.toArray⟩, .string ⟨va.toArray⟩, .string ⟨vp.toArray⟩, .string ⟨vq.toArray⟩, .string ⟨vf.toArray⟩, .bool true, .bool vha, .bool vhq, .bool vhf] 23)) w18.heap.size ⟨vs, va, vp, vq, vf, true, vha, vhq, vhf⟩ := heap_alloc_new _ _
          have K_w19 : Keeps [] w (w18.alloc (.cells #[.string ⟨vs.toArray⟩, .string ⟨va.toArray⟩, .string ⟨vp.toArray⟩, .string ⟨vq.toArray⟩, .string ⟨vf.toArray⟩, .bool true, .bool vha, .bool vhq, .bool vhf] 23)) := K_w18.alloc _
          have M_w19 := hM.keeps K_w19 (by simp)
          go_wp2_with fail
          refine (dt2.out _).mono ?_
          rintro e w20 ⟨rfl, k_w20⟩
          have K_w20 := K_w19.trans k_w20
          have U4 := hU.keeps k_w20 (by simp)
          have U5 := U4.set2 d
          have U6 := U5.set4 []
          have U7 := U6.set8 false
          have hbw : w.heap.size ≤ w18.heap.size := K_w18.size
          have K5 := K_w20.setCell (p := ⟨w18.heap.size, 2, none⟩) (.inr hbw) (.string ⟨d.toArray⟩)
          have K6 := K5.setCell (p := ⟨w18.heap.size, 4, none⟩) (.inr hbw) (.string ⟨([] : List UInt8).toArray⟩)
          have K7 := K6.setCell (p := ⟨w18.heap.size, 8, none⟩) (.inr hbw) (.bool false)
          have M7 := hM.keeps K7 (by simp)
          have c2 : w20.cell? ⟨w18.heap.size, 2, none⟩ = some (.string ⟨vp.toArray⟩) := U4.cell 2
          have f2 := U4.free 2
          have c4 : (w20.setCell ⟨w18.heap.size, 2, none⟩ (.string ⟨d.toArray⟩)).cell? ⟨w18.heap.size, 4, none⟩ = some (.string ⟨vf.toArray⟩) := U5.cell 4
          have f4 := U5.free 4
          have c8 : ((w20.setCell ⟨w18.heap.size, 2, none⟩ (.string ⟨d.toArray⟩)).setCell ⟨w18.heap.size, 4, none⟩ (.string ⟨#[]⟩)).cell? ⟨w18.heap.size, 8, none⟩ = some (.bool vhf) := U6.cell 8
          have f8 := U6.free 8
          have l0 : (((w20.setCell ⟨w18.heap.size, 2, none⟩ (.string ⟨d.toArray⟩)).setCell ⟨w18.heap.size, 4, none⟩ (.string ⟨#[]⟩)).setCell ⟨w18.heap.size, 8, none⟩ (.bool false)).cell? ⟨w18.heap.size, 0, none⟩ = some (.string ⟨vs.toArray⟩) := U7.cell 0
          have l1 : (((w20.setCell ⟨w18.heap.size, 2, none⟩ (.string ⟨d.toArray⟩)).setCell ⟨w18.heap.size, 4, none⟩ (.string ⟨#[]⟩)).setCell ⟨w18.heap.size, 8, none⟩ (.bool false)).cell? ⟨w18.heap.size, 1, none⟩ = some (.string ⟨va.toArray⟩) := U7.cell 1
          have l2 : (((w20.setCell ⟨w18.heap.size, 2, none⟩ (.string ⟨d.toArray⟩)).setCell ⟨w18.heap.size, 4, none⟩ (.string ⟨#[]⟩)).setCell ⟨w18.heap.size, 8, none⟩ (.bool false)).cell? ⟨w18.heap.size, 2, none⟩ = some (.string ⟨d.toArray⟩) := U7.cell 2
          have l3 : (((w20.setCell ⟨w18.heap.size, 2, none⟩ (.string ⟨d.toArray⟩)).setCell ⟨w18.heap.size, 4, none⟩ (.string ⟨#[]⟩)).setCell ⟨w18.heap.size, 8, none⟩ (.bool false)).cell? ⟨w18.heap.size, 3, none⟩ = some (.string ⟨vq.toArray⟩) := U7.cell 3
          have l4 : (((w20.setCell ⟨w18.heap.size, 2, none⟩ (.string ⟨d.toArray⟩)).setCell ⟨w18.heap.size, 4, none⟩ (.string ⟨#[]⟩)).setCell ⟨w18.heap.size, 8, none⟩ (.bool false)).cell? ⟨w18.heap.size, 4, none⟩ = some (.string ⟨#[]⟩) := U7.cell 4
          have l5 : (((w20.setCell ⟨w18.heap.size, 2, none⟩ (.string ⟨d.toArray⟩)).setCell ⟨w18.heap.size, 4, none⟩ (.string ⟨#[]⟩)).setCell ⟨w18.heap.size, 8, none⟩ (.bool false)).cell? ⟨w18.heap.size, 5, none⟩ = some (.bool true) := U7.cell 5
          have l6 : (((w20.setCell ⟨w18.heap.size, 2, none⟩ (.string ⟨d.toArray⟩)).setCell ⟨w18.heap.size, 4, none⟩ (.string ⟨#[]⟩)).setCell ⟨w18.heap.size, 8, none⟩ (.bool false)).cell? ⟨w18.heap.size, 6, none⟩ = some (.bool vha) := U7.cell 6
          have l7 : (((w20.setCell ⟨w18.heap.size, 2, none⟩ (.string ⟨d.toArray⟩)).setCell ⟨w18.heap.size, 4, none⟩ (.string ⟨#[]⟩)).setCell ⟨w18.heap.size, 8, none⟩ (.bool false)).cell? ⟨w18.heap.size, 7, none⟩ = some (.bool vhq) := U7.cell 7
          have l8 : (((w20.setCell ⟨w18.heap.size, 2, none⟩ (.string ⟨d.toArray⟩)).setCell ⟨w18.heap.size, 4, none⟩ (.string ⟨#[]⟩)).setCell ⟨w18.heap.size, 8, none⟩ (.bool false)).cell? ⟨w18.heap.size, 8, none⟩ = some (.bool false) := U7.cell 8
          go_wp2_with fail
          cases J with
          | none =>
            simp only [ansO] at jn2 emp2
            refine (jn2.out _ M7).mono ?_
            rintro e w21 ⟨rfl, k_w21⟩
            have K_w21 := K7.trans k_w21
            have M_w21 := hM.keeps K_w21 (by simp)
            go_wp2_with fail
            refine (emp2.out _ M_w21).mono ?_
            rintro e w22 ⟨rfl, k_w22⟩
            have K_w22 := K_w21.trans k_w22
            go_wp2_with fail
            go_ret
            exact ⟨rfl, K_w22⟩
          | some x =>
            simp only [ansO] at jn2 emp2
            refine (jn2.out _ M7).mono ?_
            rintro e w23 ⟨rfl, k_w23⟩
            have K_w23 := K7.trans k_w23
            have M_w23 := hM.keeps K_w23 (by simp)
            go_wp2_with fail
            refine (emp2.out _ M_w23).mono ?_
            rintro e w24 ⟨rfl, k_w24⟩
            have K_w24 := K_w23.trans k_w24
            go_wp2_with fail
            go_ret
            exact ⟨rfl, K_w24⟩
    · have own := hide (own.out (by first | rfl | trivial))
      by_cases ha : ea = 0
      · have ha' : (ea == 0) = true := by simpa using ha
        by_cases hbb : eb = 0
        · have hb' : (eb == 0) = true := by simpa using hbb
          have he := own.out ha hbb
          subst ha
          subst hbb
          subst he
          go_enter Try.func4, Try.ntmps4
          go_wp2_with fail
          refine (urlBegun_any _ hM).mono ?_
          rintro e w25 ⟨rfl, K_w25⟩
          have M_w25 := hM.keeps K_w25 (by simp)
          go_wp2_with fail
          refine (spS.out _ hs M_w25).mono ?_
          rintro e w26 ⟨rfl, k_w26⟩
          have K_w26 := K_w25.trans k_w26
          have M_w26 := hM.keeps K_w26 (by simp)
          have K_w27 : Keeps [] w (w26.alloc (.cells #[.string ⟨us.toArray⟩, .string ⟨ua.toArray⟩, .string ⟨up.toArray⟩, .string ⟨uq.toArray⟩, .string ⟨uf.toArray⟩, .bool true, .bool uha, .bool uhq, .bool uhf] 23)) := K_w26.alloc _
          have M_w27 := hM.keeps K_w27 (by simp)
          go_wp2_with fail
          refine (rA.out _ M_w27).mono ?_
          rintro e w28 ⟨rfl, k_w28⟩
          have K_w28 := K_w27.trans k_w28
          have M_w28 := hM.keeps K_w28 (by simp)
          go_wp2_with fail
          refine (rB.out _ M_w28).mono ?_
          rintro e w29 ⟨rfl, k_w29⟩
          have K_w29 := K_w28.trans k_w29
          have M_w29 := hM.keeps K_w29 (by simp)
          go_wp2_with fail
          by_cases hb : 3000 < base.size
          · skip
            refine (sbL.out _ hb).mono ?_
            rintro e w30 ⟨rfl, k_w30⟩
            have K_w30 := K_w29.trans k_w30
            have M_w30 := hM.keeps K_w30 (by simp)
            go_wp2_with fail
            go_ret
            exact ⟨rfl, K_w30.alloc _⟩
          · cases vhs
            · skip
              refine (sbS.out _ hb M_w29).mono ?_
              rintro e w31 ⟨rfl, k_w31⟩
              have K_w31 := K_w29.trans k_w31
              have M_w31 := hM.keeps K_w31 (by simp)
              go_wp2_with fail
              go_ret
              exact ⟨rfl, K_w31.alloc _⟩
            · have emp2 := hide (emp.out (by first | rfl | trivial) hb)
              have jn2 := hide (jn.out hb)
              have dt2 := hide (dt.out hb)
              clear emp jn dt
              generalize joinsL ⟨vs, va, d, vq, [], true, vha, vhq, false⟩ = J at *
              refine (sbS.out _ hb M_w29).mono ?_
              rintro e w32 ⟨rfl, k_w32⟩
              have K_w32 := K_w29.trans k_w32
              have M_w32 := hM.keeps K_w32 (by simp)
              have hU : IsUrl (w32.alloc (.cells #[.string ⟨vs.toArray⟩, .string ⟨va.toArray⟩, .string ⟨vp.toArray⟩, .string ⟨vq.toArray⟩, .string ⟨vf.toArray⟩, .bool true, .bool vha, .bool vhq, .bool vhf] 23)) w32.heap.size ⟨vs, va, vp, vq, vf, true, vha, vhq, vhf⟩ := heap_alloc_new _ _
              have K_w33 : Keeps [] w (w32.alloc (.cells #[.string ⟨vs.toArray⟩, .string ⟨va.toArray⟩, .string ⟨vp.toArray⟩, .string ⟨vq.toArray⟩, .string ⟨vf.toArray⟩, .bool true, .bool vha, .bool vhq, .bool vhf] 23)) := K_w32.alloc _
              have M_w33 := hM.keeps K_w33 (by simp)
              go_wp2_with fail
              refine (dt2.out _).mono ?_
              rintro e w34 ⟨rfl, k_w34⟩
              have K_w34 := K_w33.trans k_w34
              have U4 := hU.keeps k_w34 (by simp)
              have U5 := U4.set2 d
              have U6 := U5.set4 []
              have U7 := U6.set8 false
              have hbw : w.heap.size ≤ w32.heap.size := K_w32.size
              have K5 := K_w34.setCell (p := ⟨w32.heap.size, 2, none⟩) (.inr hbw) (.string ⟨d.toArray⟩)
              have K6 := K5.setCell (p := ⟨w32.heap.size, 4, none⟩) (.inr hbw) (.string ⟨([] : List UInt8).toArray⟩)
              have K7 := K6.setCell (p := ⟨w32.heap.size, 8, none⟩) (.inr hbw) (.bool false)
              have M7 := hM.keeps K7 (by simp)
              have c2 : w34.cell? ⟨w32.heap.size, 2, none⟩ = some (.string ⟨vp.toArray⟩) := U4.cell 2
              have f2 := U4.free 2
              have c4 : (w34.setCell ⟨w32.heap.size, 2, none⟩ (.string ⟨d.toArray⟩)).cell? ⟨w32.heap.size, 4, none⟩ = some (.string ⟨vf.toArray⟩) := U5.cell 4
              have f4 := U5.free 4
              have c8 : ((w34.setCell ⟨w32.heap.size, 2, none⟩ (.string ⟨d.toArray⟩)).setCell ⟨w32.heap.size, 4, none⟩ (.string ⟨#[]⟩)).cell? ⟨w32.heap.size, 8, none⟩ = some (.bool vhf) := U6.cell 8
              have f8 := U6.free 8
              have l0 : (((w34.setCell ⟨w32.heap.size, 2, none⟩ (.string ⟨d.toArray⟩)).setCell ⟨w32.heap.size, 4, none⟩ (.string ⟨#[]⟩)).setCell ⟨w32.heap.size, 8, none⟩ (.bool false)).cell? ⟨w32.heap.size, 0, none⟩ = some (.string ⟨vs.toArray⟩) := U7.cell 0
              have l1 : (((w34.setCell ⟨w32.heap.size, 2, none⟩ (.string ⟨d.toArray⟩)).setCell ⟨w32.heap.size, 4, none⟩ (.string ⟨#[]⟩)).setCell ⟨w32.heap.size, 8, none⟩ (.bool false)).cell? ⟨w32.heap.size, 1, none⟩ = some (.string ⟨va.toArray⟩) := U7.cell 1
              have l2 : (((w34.setCell ⟨w32.heap.size, 2, none⟩ (.string ⟨d.toArray⟩)).setCell ⟨w32.heap.size, 4, none⟩ (.string ⟨#[]⟩)).setCell ⟨w32.heap.size, 8, none⟩ (.bool false)).cell? ⟨w32.heap.size, 2, none⟩ = some (.string ⟨d.toArray⟩) := U7.cell 2
              have l3 : (((w34.setCell ⟨w32.heap.size, 2, none⟩ (.string ⟨d.toArray⟩)).setCell ⟨w32.heap.size, 4, none⟩ (.string ⟨#[]⟩)).setCell ⟨w32.heap.size, 8, none⟩ (.bool false)).cell? ⟨w32.heap.size, 3, none⟩ = some (.string ⟨vq.toArray⟩) := U7.cell 3
              have l4 : (((w34.setCell ⟨w32.heap.size, 2, none⟩ (.string ⟨d.toArray⟩)).setCell ⟨w32.heap.size, 4, none⟩ (.string ⟨#[]⟩)).setCell ⟨w32.heap.size, 8, none⟩ (.bool false)).cell? ⟨w32.heap.size, 4, none⟩ = some (.string ⟨#[]⟩) := U7.cell 4
              have l5 : (((w34.setCell ⟨w32.heap.size, 2, none⟩ (.string ⟨d.toArray⟩)).setCell ⟨w32.heap.size, 4, none⟩ (.string ⟨#[]⟩)).setCell ⟨w32.heap.size, 8, none⟩ (.bool false)).cell? ⟨w32.heap.size, 5, none⟩ = some (.bool true) := U7.cell 5
              have l6 : (((w34.setCell ⟨w32.heap.size, 2, none⟩ (.string ⟨d.toArray⟩)).setCell ⟨w32.heap.size, 4, none⟩ (.string ⟨#[]⟩)).setCell ⟨w32.heap.size, 8, none⟩ (.bool false)).cell? ⟨w32.heap.size, 6, none⟩ = some (.bool vha) := U7.cell 6
              have l7 : (((w34.setCell ⟨w32.heap.size, 2, none⟩ (.string ⟨d.toArray⟩)).setCell ⟨w32.heap.size, 4, none⟩ (.string ⟨#[]⟩)).setCell ⟨w32.heap.size, 8, none⟩ (.bool false)).cell? ⟨w32.heap.size, 7, none⟩ = some (.bool vhq) := U7.cell 7
              have l8 : (((w34.setCell ⟨w32.heap.size, 2, none⟩ (.string ⟨d.toArray⟩)).setCell ⟨w32.heap.size, 4, none⟩ (.string ⟨#[]⟩)).setCell ⟨w32.heap.size, 8, none⟩ (.bool false)).cell? ⟨w32.heap.size, 8, none⟩ = some (.bool false) := U7.cell 8
              go_wp2_with fail
              cases J with
              | none =>
                simp only [ansO] at jn2 emp2
                refine (jn2.out _ M7).mono ?_
                rintro e w35 ⟨rfl, k_w35⟩
                have K_w35 := K7.trans k_w35
                have M_w35 := hM.keeps K_w35 (by simp)
                go_wp2_with fail
                refine (emp2.out _ M_w35).mono ?_
                rintro e w36 ⟨rfl, k_w36⟩
                have K_w36 := K_w35.trans k_w36
                go_wp2_with fail
                go_ret
                exact ⟨rfl, K_w36⟩
              | some x =>
                simp only [ansO] at jn2 emp2
                refine (jn2.out _ M7).mono ?_
                rintro e w37 ⟨rfl, k_w37⟩
                have K_w37 := K7.trans k_w37
                have M_w37 := hM.keeps K_w37 (by simp)
                go_wp2_with fail
                refine (emp2.out _ M_w37).mono ?_
                rintro e w38 ⟨rfl, k_w38⟩
                have K_w38 := K_w37.trans k_w38
                go_wp2_with fail
                go_ret
                exact ⟨rfl, K_w38⟩
        · have hb' : (eb == 0) = false := by simpa using hbb
          subst ha
          clear own
          go_enter Try.func4, Try.ntmps4
          go_wp2_with fail
          refine (urlBegun_any _ hM).mono ?_
          rintro e w39 ⟨rfl, K_w39⟩
          have M_w39 := hM.keeps K_w39 (by simp)
          go_wp2_with fail
          refine (spS.out _ hs M_w39).mono ?_
          rintro e w40 ⟨rfl, k_w40⟩
          have K_w40 := K_w39.trans k_w40
          have M_w40 := hM.keeps K_w40 (by simp)
          have K_w41 : Keeps [] w (w40.alloc (.cells #[.string ⟨us.toArray⟩, .string ⟨ua.toArray⟩, .string ⟨up.toArray⟩, .string ⟨uq.toArray⟩, .string ⟨uf.toArray⟩, .bool true, .bool uha, .bool uhq, .bool uhf] 23)) := K_w40.alloc _
          have M_w41 := hM.keeps K_w41 (by simp)
          go_wp2_with fail
          refine (rA.out _ M_w41).mono ?_
          rintro e w42 ⟨rfl, k_w42⟩
          have K_w42 := K_w41.trans k_w42
          have M_w42 := hM.keeps K_w42 (by simp)
          go_wp2_with fail
          refine (rB.out _ M_w42).mono ?_
          rintro e w43 ⟨rfl, k_w43⟩
          have K_w43 := K_w42.trans k_w43
          have M_w43 := hM.keeps K_w43 (by simp)
          go_wp2_with fail
          by_cases hb : 3000 < base.size
          · skip
            refine (sbL.out _ hb).mono ?_
            rintro e w44 ⟨rfl, k_w44⟩
            have K_w44 := K_w43.trans k_w44
            have M_w44 := hM.keeps K_w44 (by simp)
            go_wp2_with fail
            go_ret
            exact ⟨rfl, K_w44.alloc _⟩
          · cases vhs
            · skip
              refine (sbS.out _ hb M_w43).mono ?_
              rintro e w45 ⟨rfl, k_w45⟩
              have K_w45 := K_w43.trans k_w45
              have M_w45 := hM.keeps K_w45 (by simp)
              go_wp2_with fail
              go_ret
              exact ⟨rfl, K_w45.alloc _⟩
            · have emp2 := hide (emp.out (by first | rfl | trivial) hb)
              have jn2 := hide (jn.out hb)
              have dt2 := hide (dt.out hb)
              clear emp jn dt
              generalize joinsL ⟨vs, va, d, vq, [], true, vha, vhq, false⟩ = J at *
              refine (sbS.out _ hb M_w43).mono ?_
              rintro e w46 ⟨rfl, k_w46⟩
              have K_w46 := K_w43.trans k_w46
              have M_w46 := hM.keeps K_w46 (by simp)
              have hU : IsUrl (w46.alloc (.cells #[.string ⟨vs.toArray⟩, .string ⟨va.toArray⟩, .string ⟨vp.toArray⟩, .string ⟨vq.toArray⟩, .string ⟨vf.toArray⟩, .bool true, .bool vha, .bool vhq, .bool vhf] 23)) w46.heap.size ⟨vs, va, vp, vq, vf, true, vha, vhq, vhf⟩ := heap_alloc_new _ _
              have K_w47 : Keeps [] w (w46.alloc (.cells #[.string ⟨vs.toArray⟩, .string ⟨va.toArray⟩, .string ⟨vp.toArray⟩, .string ⟨vq.toArray⟩, .string ⟨vf.toArray⟩, .bool true, .bool vha, .bool vhq, .bool vhf] 23)) := K_w46.alloc _
              have M_w47 := hM.keeps K_w47 (by simp)
              go_wp2_with fail
              refine (dt2.out _).mono ?_
              rintro e w48 ⟨rfl, k_w48⟩
              have K_w48 := K_w47.trans k_w48
              have U4 := hU.keeps k_w48 (by simp)
              have U5 := U4.set2 d
              have U6 := U5.set4 []
              have U7 := U6.set8 false
              have hbw : w.heap.size ≤ w46.heap.size := K_w46.size
              have K5 := K_w48.setCell (p := ⟨w46.heap.size, 2, none⟩) (.inr hbw) (.string ⟨d.toArray⟩)
              have K6 := K5.setCell (p := ⟨w46.heap.size, 4, none⟩) (.inr hbw) (.string ⟨([] : List UInt8).toArray⟩)
              have K7 := K6.setCell (p := ⟨w46.heap.size, 8, none⟩) (.inr hbw) (.bool false)
              have M7 := hM.keeps K7 (by simp)
              have c2 : w48.cell? ⟨w46.heap.size, 2, none⟩ = some (.string ⟨vp.toArray⟩) := U4.cell 2
              have f2 := U4.free 2
              have c4 : (w48.setCell ⟨w46.heap.size, 2, none⟩ (.string ⟨d.toArray⟩)).cell? ⟨w46.heap.size, 4, none⟩ = some (.string ⟨vf.toArray⟩) := U5.cell 4
              have f4 := U5.free 4
              have c8 : ((w48.setCell ⟨w46.heap.size, 2, none⟩ (.string ⟨d.toArray⟩)).setCell ⟨w46.heap.size, 4, none⟩ (.string ⟨#[]⟩)).cell? ⟨w46.heap.size, 8, none⟩ = some (.bool vhf) := U6.cell 8
              have f8 := U6.free 8
              have l0 : (((w48.setCell ⟨w46.heap.size, 2, none⟩ (.string ⟨d.toArray⟩)).setCell ⟨w46.heap.size, 4, none⟩ (.string ⟨#[]⟩)).setCell ⟨w46.heap.size, 8, none⟩ (.bool false)).cell? ⟨w46.heap.size, 0, none⟩ = some (.string ⟨vs.toArray⟩) := U7.cell 0
              have l1 : (((w48.setCell ⟨w46.heap.size, 2, none⟩ (.string ⟨d.toArray⟩)).setCell ⟨w46.heap.size, 4, none⟩ (.string ⟨#[]⟩)).setCell ⟨w46.heap.size, 8, none⟩ (.bool false)).cell? ⟨w46.heap.size, 1, none⟩ = some (.string ⟨va.toArray⟩) := U7.cell 1
              have l2 : (((w48.setCell ⟨w46.heap.size, 2, none⟩ (.string ⟨d.toArray⟩)).setCell ⟨w46.heap.size, 4, none⟩ (.string ⟨#[]⟩)).setCell ⟨w46.heap.size, 8, none⟩ (.bool false)).cell? ⟨w46.heap.size, 2, none⟩ = some (.string ⟨d.toArray⟩) := U7.cell 2
              have l3 : (((w48.setCell ⟨w46.heap.size, 2, none⟩ (.string ⟨d.toArray⟩)).setCell ⟨w46.heap.size, 4, none⟩ (.string ⟨#[]⟩)).setCell ⟨w46.heap.size, 8, none⟩ (.bool false)).cell? ⟨w46.heap.size, 3, none⟩ = some (.string ⟨vq.toArray⟩) := U7.cell 3
              have l4 : (((w48.setCell ⟨w46.heap.size, 2, none⟩ (.string ⟨d.toArray⟩)).setCell ⟨w46.heap.size, 4, none⟩ (.string ⟨#[]⟩)).setCell ⟨w46.heap.size, 8, none⟩ (.bool false)).cell? ⟨w46.heap.size, 4, none⟩ = some (.string ⟨#[]⟩) := U7.cell 4
              have l5 : (((w48.setCell ⟨w46.heap.size, 2, none⟩ (.string ⟨d.toArray⟩)).setCell ⟨w46.heap.size, 4, none⟩ (.string ⟨#[]⟩)).setCell ⟨w46.heap.size, 8, none⟩ (.bool false)).cell? ⟨w46.heap.size, 5, none⟩ = some (.bool true) := U7.cell 5
              have l6 : (((w48.setCell ⟨w46.heap.size, 2, none⟩ (.string ⟨d.toArray⟩)).setCell ⟨w46.heap.size, 4, none⟩ (.string ⟨#[]⟩)).setCell ⟨w46.heap.size, 8, none⟩ (.bool false)).cell? ⟨w46.heap.size, 6, none⟩ = some (.bool vha) := U7.cell 6
              have l7 : (((w48.setCell ⟨w46.heap.size, 2, none⟩ (.string ⟨d.toArray⟩)).setCell ⟨w46.heap.size, 4, none⟩ (.string ⟨#[]⟩)).setCell ⟨w46.heap.size, 8, none⟩ (.bool false)).cell? ⟨w46.heap.size, 7, none⟩ = some (.bool vhq) := U7.cell 7
              have l8 : (((w48.setCell ⟨w46.heap.size, 2, none⟩ (.string ⟨d.toArray⟩)).setCell ⟨w46.heap.size, 4, none⟩ (.string ⟨#[]⟩)).setCell ⟨w46.heap.size, 8, none⟩ (.bool false)).cell? ⟨w46.heap.size, 8, none⟩ = some (.bool false) := U7.cell 8
              go_wp2_with fail
              cases J with
              | none =>
                simp only [ansO] at jn2 emp2
                refine (jn2.out _ M7).mono ?_
                rintro e w49 ⟨rfl, k_w49⟩
                have K_w49 := K7.trans k_w49
                have M_w49 := hM.keeps K_w49 (by simp)
                go_wp2_with fail
                refine (emp2.out _ M_w49).mono ?_
                rintro e w50 ⟨rfl, k_w50⟩
                have K_w50 := K_w49.trans k_w50
                go_wp2_with fail
                go_ret
                exact ⟨rfl, K_w50⟩
              | some x =>
                simp only [ansO] at jn2 emp2
                refine (jn2.out _ M7).mono ?_
                rintro e w51 ⟨rfl, k_w51⟩
                have K_w51 := K7.trans k_w51
                have M_w51 := hM.keeps K_w51 (by simp)
                go_wp2_with fail
                refine (emp2.out _ M_w51).mono ?_
                rintro e w52 ⟨rfl, k_w52⟩
                have K_w52 := K_w51.trans k_w52
                go_wp2_with fail
                go_ret
                exact ⟨rfl, K_w52⟩
      · have ha' : (ea == 0) = false := by simpa using ha
        clear own
        go_enter Try.func4, Try.ntmps4
        go_wp2_with fail
        refine (urlBegun_any _ hM).mono ?_
        rintro e w53 ⟨rfl, K_w53⟩
        have M_w53 := hM.keeps K_w53 (by simp)
        go_wp2_with fail
        refine (spS.out _ hs M_w53).mono ?_
        rintro e w54 ⟨rfl, k_w54⟩
        have K_w54 := K_w53.trans k_w54
        have M_w54 := hM.keeps K_w54 (by simp)
        have K_w55 : Keeps [] w (w54.alloc (.cells #[.string ⟨us.toArray⟩, .string ⟨ua.toArray⟩, .string ⟨up.toArray⟩, .string ⟨uq.toArray⟩, .string ⟨uf.toArray⟩, .bool true, .bool uha, .bool uhq, .bool uhf] 23)) := K_w54.alloc _
        have M_w55 := hM.keeps K_w55 (by simp)
        go_wp2_with fail
        refine (rA.out _ M_w55).mono ?_
        rintro e w56 ⟨rfl, k_w56⟩
        have K_w56 := K_w55.trans k_w56
        have M_w56 := hM.keeps K_w56 (by simp)
        go_wp2_with fail
        refine (rB.out _ M_w56).mono ?_
        rintro e w57 ⟨rfl, k_w57⟩
        have K_w57 := K_w56.trans k_w57
        have M_w57 := hM.keeps K_w57 (by simp)
        go_wp2_with fail
        by_cases hb : 3000 < base.size
        · skip
          refine (sbL.out _ hb).mono ?_
          rintro e w58 ⟨rfl, k_w58⟩
          have K_w58 := K_w57.trans k_w58
          have M_w58 := hM.keeps K_w58 (by simp)
          go_wp2_with fail
          go_ret
          exact ⟨rfl, K_w58.alloc _⟩
        · cases vhs
          · skip
            refine (sbS.out _ hb M_w57).mono ?_
            rintro e w59 ⟨rfl, k_w59⟩
            have K_w59 := K_w57.trans k_w59
            have M_w59 := hM.keeps K_w59 (by simp)
            go_wp2_with fail
            go_ret
            exact ⟨rfl, K_w59.alloc _⟩
          · have emp2 := hide (emp.out (by first | rfl | trivial) hb)
            have jn2 := hide (jn.out hb)
            have dt2 := hide (dt.out hb)
            clear emp jn dt
            generalize joinsL ⟨vs, va, d, vq, [], true, vha, vhq, false⟩ = J at *
            refine (sbS.out _ hb M_w57).mono ?_
            rintro e w60 ⟨rfl, k_w60⟩
            have K_w60 := K_w57.trans k_w60
            have M_w60 := hM.keeps K_w60 (by simp)
            have hU : IsUrl (w60.alloc (.cells #[.string ⟨vs.toArray⟩, .string ⟨va.toArray⟩, .string ⟨vp.toArray⟩, .string ⟨vq.toArray⟩, .string ⟨vf.toArray⟩, .bool true, .bool vha, .bool vhq, .bool vhf] 23)) w60.heap.size ⟨vs, va, vp, vq, vf, true, vha, vhq, vhf⟩ := heap_alloc_new _ _
            have K_w61 : Keeps [] w (w60.alloc (.cells #[.string ⟨vs.toArray⟩, .string ⟨va.toArray⟩, .string ⟨vp.toArray⟩, .string ⟨vq.toArray⟩, .string ⟨vf.toArray⟩, .bool true, .bool vha, .bool vhq, .bool vhf] 23)) := K_w60.alloc _
            have M_w61 := hM.keeps K_w61 (by simp)
            go_wp2_with fail
            refine (dt2.out _).mono ?_
            rintro e w62 ⟨rfl, k_w62⟩
            have K_w62 := K_w61.trans k_w62
            have U4 := hU.keeps k_w62 (by simp)
            have U5 := U4.set2 d
            have U6 := U5.set4 []
            have U7 := U6.set8 false
            have hbw : w.heap.size ≤ w60.heap.size := K_w60.size
            have K5 := K_w62.setCell (p := ⟨w60.heap.size, 2, none⟩) (.inr hbw) (.string ⟨d.toArray⟩)
            have K6 := K5.setCell (p := ⟨w60.heap.size, 4, none⟩) (.inr hbw) (.string ⟨([] : List UInt8).toArray⟩)
            have K7 := K6.setCell (p := ⟨w60.heap.size, 8, none⟩) (.inr hbw) (.bool false)
            have M7 := hM.keeps K7 (by simp)
            have c2 : w62.cell? ⟨w60.heap.size, 2, none⟩ = some (.string ⟨vp.toArray⟩) := U4.cell 2
            have f2 := U4.free 2
            have c4 : (w62.setCell ⟨w60.heap.size, 2, none⟩ (.string ⟨d.toArray⟩)).cell? ⟨w60.heap.size, 4, none⟩ = some (.string ⟨vf.toArray⟩) := U5.cell 4
            have f4 := U5.free 4
            have c8 : ((w62.setCell ⟨w60.heap.size, 2, none⟩ (.string ⟨d.toArray⟩)).setCell ⟨w60.heap.size, 4, none⟩ (.string ⟨#[]⟩)).cell? ⟨w60.heap.size, 8, none⟩ = some (.bool vhf) := U6.cell 8
            have f8 := U6.free 8
            have l0 : (((w62.setCell ⟨w60.heap.size, 2, none⟩ (.string ⟨d.toArray⟩)).setCell ⟨w60.heap.size, 4, none⟩ (.string ⟨#[]⟩)).setCell ⟨w60.heap.size, 8, none⟩ (.bool false)).cell? ⟨w60.heap.size, 0, none⟩ = some (.string ⟨vs.toArray⟩) := U7.cell 0
            have l1 : (((w62.setCell ⟨w60.heap.size, 2, none⟩ (.string ⟨d.toArray⟩)).setCell ⟨w60.heap.size, 4, none⟩ (.string ⟨#[]⟩)).setCell ⟨w60.heap.size, 8, none⟩ (.bool false)).cell? ⟨w60.heap.size, 1, none⟩ = some (.string ⟨va.toArray⟩) := U7.cell 1
            have l2 : (((w62.setCell ⟨w60.heap.size, 2, none⟩ (.string ⟨d.toArray⟩)).setCell ⟨w60.heap.size, 4, none⟩ (.string ⟨#[]⟩)).setCell ⟨w60.heap.size, 8, none⟩ (.bool false)).cell? ⟨w60.heap.size, 2, none⟩ = some (.string ⟨d.toArray⟩) := U7.cell 2
            have l3 : (((w62.setCell ⟨w60.heap.size, 2, none⟩ (.string ⟨d.toArray⟩)).setCell ⟨w60.heap.size, 4, none⟩ (.string ⟨#[]⟩)).setCell ⟨w60.heap.size, 8, none⟩ (.bool false)).cell? ⟨w60.heap.size, 3, none⟩ = some (.string ⟨vq.toArray⟩) := U7.cell 3
            have l4 : (((w62.setCell ⟨w60.heap.size, 2, none⟩ (.string ⟨d.toArray⟩)).setCell ⟨w60.heap.size, 4, none⟩ (.string ⟨#[]⟩)).setCell ⟨w60.heap.size, 8, none⟩ (.bool false)).cell? ⟨w60.heap.size, 4, none⟩ = some (.string ⟨#[]⟩) := U7.cell 4
            have l5 : (((w62.setCell ⟨w60.heap.size, 2, none⟩ (.string ⟨d.toArray⟩)).setCell ⟨w60.heap.size, 4, none⟩ (.string ⟨#[]⟩)).setCell ⟨w60.heap.size, 8, none⟩ (.bool false)).cell? ⟨w60.heap.size, 5, none⟩ = some (.bool true) := U7.cell 5
            have l6 : (((w62.setCell ⟨w60.heap.size, 2, none⟩ (.string ⟨d.toArray⟩)).setCell ⟨w60.heap.size, 4, none⟩ (.string ⟨#[]⟩)).setCell ⟨w60.heap.size, 8, none⟩ (.bool false)).cell? ⟨w60.heap.size, 6, none⟩ = some (.bool vha) := U7.cell 6
            have l7 : (((w62.setCell ⟨w60.heap.size, 2, none⟩ (.string ⟨d.toArray⟩)).setCell ⟨w60.heap.size, 4, none⟩ (.string ⟨#[]⟩)).setCell ⟨w60.heap.size, 8, none⟩ (.bool false)).cell? ⟨w60.heap.size, 7, none⟩ = some (.bool vhq) := U7.cell 7
            have l8 : (((w62.setCell ⟨w60.heap.size, 2, none⟩ (.string ⟨d.toArray⟩)).setCell ⟨w60.heap.size, 4, none⟩ (.string ⟨#[]⟩)).setCell ⟨w60.heap.size, 8, none⟩ (.bool false)).cell? ⟨w60.heap.size, 8, none⟩ = some (.bool false) := U7.cell 8
            go_wp2_with fail
            cases J with
            | none =>
              simp only [ansO] at jn2 emp2
              refine (jn2.out _ M7).mono ?_
              rintro e w63 ⟨rfl, k_w63⟩
              have K_w63 := K7.trans k_w63
              have M_w63 := hM.keeps K_w63 (by simp)
              go_wp2_with fail
              refine (emp2.out _ M_w63).mono ?_
              rintro e w64 ⟨rfl, k_w64⟩
              have K_w64 := K_w63.trans k_w64
              go_wp2_with fail
              go_ret
              exact ⟨rfl, K_w64⟩
            | some x =>
              simp only [ansO] at jn2 emp2
              refine (jn2.out _ M7).mono ?_
              rintro e w65 ⟨rfl, k_w65⟩
              have K_w65 := K7.trans k_w65
              have M_w65 := hM.keeps K_w65 (by simp)
              go_wp2_with fail
              refine (emp2.out _ M_w65).mono ?_
              rintro e w66 ⟨rfl, k_w66⟩
              have K_w66 := K_w65.trans k_w66
              go_wp2_with fail
              go_ret
              exact ⟨rfl, K_w66⟩
end Go.Proofs.Ytaeblkmkpfklkac
