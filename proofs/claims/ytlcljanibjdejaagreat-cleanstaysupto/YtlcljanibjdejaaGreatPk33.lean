/- What is cleaned stays so: as texts and as trees, in the light of a base or of none. The law CleanStays, called: it returns true and keeps what there is. The law CleanStays, called: it returns true and keeps what there is. The law CleanStays, called: it returns true and keeps what there is. The law CleanStays, called, whatever the text. CleanStays holds, for arguments of bulk up to 1048576: it returns true, and each argument reads behind the call as it read before. -/
import Derived.Test.YtlcljanibjdejaaGreatPk31
import Derived.Test.YtlcljanibjdejaaGreatPk30
import Derived.Test.YtlcljanibjdejaaGreatPk32
namespace Go.Proofs.YtlcljanibjdejaaGreat

theorem light_none (s : List UInt8) : lightL [] s = s := by
  unfold lightL
  split
  · rfl
  · have : resAns [] s = none := by unfold resAns; rw [if_neg (by simp [splitL, schemeL])]
    rw [this]; rfl
theorem told_none (a : Pair) : toldA [] a = a := by
  unfold toldA
  split
  · rw [light_none]
  · rfl
theorem allTold_none : ∀ l : List Nd, AllTold [] l
  | [] => by simp [AllTold]
  | .mk n a t k :: r => by
    rw [AllTold]
    exact ⟨fun _ x _ => told_none x, allTold_none k, allTold_none r⟩
theorem clean_none (base : List UInt8) (l : List Nd) (h : Rt [] false l) : cleanL [] (cleanL base l) = cleanL base l := cleanL_same [] _ (cleanL_right base l h) (cleanL_stands base l).1 (allTold_none _)

theorem html_again (base s : List UInt8) (hs : s.length ≤ 3000) : htmlL base (htmlL base s) = htmlL base s ∧ htmlL [] (htmlL base s) = htmlL base s := by
  obtain ⟨h1, h2, h3, h4, h5, h6, h7, h8, h9, h10⟩ := html_facts base s hs
  have hr := ((chkTree_ok _).1 h5).2
  have e1 : readL (htmlL base s) = flatL (htmlT base s) := read_printed _ h6
  have e2 : buildL (flatL (htmlT base s)) = htmlT base s := build_flat _ hr
  have h11 := ((chkTree_ok _).1 h3).2
  have e3 : htmlT base (htmlL base s) = htmlT base s := by
    unfold htmlT at e1 e2 ⊢
    rw [e1, e2]
    exact cleanL_again base _ h11
  have e4 : htmlT [] (htmlL base s) = htmlT base s := by
    unfold htmlT at e1 e2 ⊢
    rw [e1, e2]
    exact clean_none base _ h11
  constructor
  · show toksP (flatL (htmlT base (htmlL base s))) = _
    rw [e3]; rfl
  · show toksP (flatL (htmlT [] (htmlL base s))) = _
    rw [e4]; rfl

def Lst.sz (s : Lst) : Nat := szNs s.all + if s.text.isEmpty = true then 0 else 1 + s.text.length
theorem szNs_append (a b : List Nd) : szNs (a ++ b) = szNs a + szNs b := by
  induction a with
  | nil => simp [szNs]
  | cons n a ih => cases n; simp only [List.cons_append, szNs, ih]; omega
theorem sz_done (s : Lst) : szNs s.done = s.sz := by
  unfold Lst.done Lst.sz
  split
  · rfl
  · rw [szNs_append]
    simp [textN, szNs]
theorem sz_put (s : Lst) (n : Nd) : (s.put n).sz ≤ s.sz + szNs [n] := by
  unfold Lst.put
  split
  · obtain ⟨n, a, t, k⟩ := n
    unfold Lst.sz
    simp only [Nd.text, szNs]
    cases s.text <;> cases t <;> simp <;> omega
  · unfold Lst.sz
    simp only
    rw [szNs_append, sz_done]
    simp [Lst.sz]
theorem clean_sz (base : List UInt8) : ∀ (l : List Nd) (s : Lst), (cleanIn base s l).sz ≤ s.sz + szNs l
  | [], s => by rw [cleanIn]; exact Nat.le_add_right _ _
  | .mk n a t k :: r, s => by
    rw [cleanIn, szNs]
    split
    · have h1 := clean_sz base r (s.put (.mk n a t k))
      have h2 := sz_put s (.mk n a t k)
      rw [szNs, szNs] at h2
      omega
    · split
      · have := clean_sz base r s
        omega
      · split
        · have := clean_sz base r (cleanIn base s k)
          have := clean_sz base k s
          omega
        · split
          · have h1 := clean_sz base r (s.put (.mk n (keptA base n a) [] (cleanIn base ⟨[], []⟩ k).done))
            have h2 := sz_put s (.mk n (keptA base n a) [] (cleanIn base ⟨[], []⟩ k).done)
            have h3 := clean_sz base k ⟨[], []⟩
            have h4 := sz_done (cleanIn base ⟨[], []⟩ k)
            have h5 : (⟨[], []⟩ : Lst).sz = 0 := by simp [Lst.sz, szNs]
            rw [szNs, szNs] at h2
            simp only [List.length_nil] at h2
            omega
          · have := clean_sz base r s
            omega
theorem cleanL_sz (base : List UInt8) (l : List Nd) : szNs (cleanL base l) ≤ szNs l := by
  have := clean_sz base l ⟨[], []⟩
  unfold cleanL
  rw [sz_done]
  have h5 : (⟨[], []⟩ : Lst).sz = 0 := by simp [Lst.sz, szNs]
  omega

theorem val_app (a b : List Nd) : ValNs (a ++ b) ↔ ValNs a ∧ ValNs b := by
  induction a with
  | nil => simp [ValNs]
  | cons n a ih => cases n; simp [ValNs, ih, and_assoc]
theorem val_done {s : Lst} (h : ValNs s.all) : ValNs s.done := by
  unfold Lst.done
  split
  · exact h
  · exact (val_app _ _).2 ⟨h, by simp [ValNs, textN]⟩
theorem attrE_len {el : List UInt8} {a : Pair} (h : attrE el a = 0) (hl : linkN a.1 = true) : a.2.length ≤ 3000 := by
  unfold attrE at h
  by_cases h1 : allowedA el a.1 = false
  · rw [if_pos h1] at h; simp at h
  · rw [if_neg h1, if_neg (by simpa using hl)] at h
    by_cases h2 : 3000 < a.2.length
    · rw [if_pos h2] at h; simp at h
    · omega
theorem kept_val (base n : List UInt8) (a : List Pair) (h : ∀ p ∈ a, p.2.length ≤ maxLen) : ∀ p ∈ keptA base n a, p.2.length ≤ maxLen := by
  intro p hp
  have h1 := kept_mem hp
  obtain ⟨b, hb, he⟩ := List.mem_map.1 (List.mem_filter.1 hp).1
  by_cases hl : linkN p.1 = true
  · have := attrE_len h1.1 hl
    unfold maxLen; omega
  · have : toldA base b = b := by
      unfold toldA
      rw [if_neg (by rw [← told_name base b, he]; exact hl)]
    rw [← he, this]
    exact h b hb
theorem clean_val (base : List UInt8) : ∀ (l : List Nd) (s : Lst), ValNs l → ValNs s.all → ValNs (cleanIn base s l).all
  | [], s, _, h => by rw [cleanIn]; exact h
  | .mk n a t k :: r, s, h1, h => by
    rw [ValNs] at h1
    rw [cleanIn]
    split
    · rename_i hn
      refine clean_val base r _ h1.2.2 ?_
      unfold Lst.put; rw [if_pos (show (Nd.mk n a t k).name.isEmpty = true from hn)]; exact h
    · rename_i hn
      split
      · exact clean_val base r s h1.2.2 h
      · split
        · exact clean_val base r _ h1.2.2 (clean_val base k s h1.2.1 h)
        · split
          · have hk := val_done (clean_val base k ⟨[], []⟩ h1.2.1 (by simp [ValNs]))
            refine clean_val base r _ h1.2.2 ?_
            unfold Lst.put; rw [if_neg (show ¬ (Nd.mk n (keptA base n a) [] (cleanIn base ⟨[], []⟩ k).done).name.isEmpty = true from hn)]
            refine (val_app _ _).2 ⟨val_done h, ?_⟩
            simp only [ValNs]
            exact ⟨⟨Nat.le_trans (Nat.le_trans (List.length_filter_le _ _) (by simp)) h1.1.1, kept_val base n a h1.1.2⟩, hk, trivial⟩
          · exact clean_val base r s h1.2.2 h
theorem cleanL_val (base : List UInt8) (l : List Nd) (h : ValNs l) : ValNs (cleanL base l) := val_done (clean_val base l ⟨[], []⟩ h (by simp [ValNs]))

/-- What Tree answers of what it answered. -/
theorem tree_again (base : List UInt8) (ns : List Nd) (h : treeE base ns = 0) : treeE base (cleanL base ns) = 0 ∧ cleanL base (cleanL base ns) = cleanL base ns ∧ chkTree (cleanL base ns) = 0 ∧ isE (cleanL base ns) = 0 := by
  unfold treeE at h
  by_cases hc : chkTree ns = 0
  · rw [if_neg (by simpa using hc)] at h
    by_cases hb : 3000 < base.length
    · rw [if_pos hb] at h; simp at h
    · obtain ⟨h1, h2⟩ := (chkTree_ok ns).1 hc
      have h3 := cleanL_size base ns
      have h4 : chkTree (cleanL base ns) = 0 := (chkTree_ok _).2 ⟨by omega, cleanL_right base ns h2⟩
      refine ⟨?_, cleanL_again base ns h2, h4, (isE_stands _).2 (cleanL_stands base ns).1⟩
      unfold treeE
      rw [if_neg (by simpa using h4), if_neg hb]
  · rw [if_pos hc] at h
    exact absurd h hc
end Go.Proofs.YtlcljanibjdejaaGreat

namespace Go.Proofs.YtlcljanibjdejaaGreat
open Go.RowKit Go.Maps

set_option maxRecDepth 4000 in
set_option maxHeartbeats 8000000 in
theorem cleanStays_long (base text : List UInt8) (v : Value) (ns : List Nd) (w : World) (hN : Ns w (fun _ => True) v ns) (hbn : bulkNs ns ≤ 1100000) (hb : base.length ≤ maxLen) (ht : text.length ≤ maxLen) (hM : HasMax w) (hy : ¬ (text.length ≤ 3000 ∧ base.length ≤ 3000)) :
    Calls Tryz.prog 4 #[.string ⟨base.toArray⟩, .string ⟨text.toArray⟩, v] w fun e w' => e = .returned (.bool true) ∧ Keeps [] w w' := by
  have nn : ∀ g, g ∉ ([] : List Nat) := fun _ => List.not_mem_nil
  have hfit := bulkNs_fits ns hbn
  have hval := bulk_val ns hbn
  have hsz := bulkNs_size ns
  have csz := cleanL_size base ns
  have cfit := cleanL_fit base ns hfit.2 hfit.1
  have cval := cleanL_val base ns hval.1
  have cst := cleanL_sz base ns
  have HM := hide (fun (w1 : World) (hk : Keeps [] w w1) => hM.keeps hk (nn _))
  have hmb := hM
  have cb := hide (cleanBegun_any w hmb)
  have tb := hide (fun (w1 : World) (hk : Keeps [] w w1) => treeBegun_any w1 (hM.keeps hk (nn _)))
  have tr := hide (fun (w1 : World) (hk : Keeps [] w w1) => cleanTree_any base w1 _ v ns (hN.keeps0 hk) (hM.keeps hk (nn _)) (by omega) hfit.1 hval.1 (by omega) hb)
  have h1 := hide (fun (w1 : World) (hk : Keeps [] w w1) => (html_any base text w1 (hM.keeps hk (nn _)) ht hb).mono (R' := fun e w' => e = .returned (.tuple #[.string ⟨#[]⟩, .int .i64 2]) ∧ Keeps [] w1 w') (fun e w' h => ⟨h.1.elim (fun h => absurd h.1 hy) (fun h => h.2), h.2⟩))
  obtain ⟨o, c, hv⟩ := hN.form
  subst hv
  have ta := tree_again base ns
  clear hN hmb
  clear hy
  by_cases hE : treeE base ns = 0
  · obtain ⟨a1, a2, a3, a4⟩ := ta hE
    rw [hE] at tr
    simp only [if_true] at tr
    have is1 := hide (fun (w1 : World) (P : Nat → Prop) (v1 : Value) (hk : Keeps [] w w1) (hv : Ns w1 P v1 (cleanL base ns)) => cleanIs_any w1 P v1 _ hv (hM.keeps hk (nn _)) (by omega) cfit.2 cval)
    have tr2 := hide (fun (w1 : World) (P : Nat → Prop) (v1 : Value) (hk : Keeps [] w w1) (hv : Ns w1 P v1 (cleanL base ns)) => cleanTree_any base w1 P v1 _ hv (hM.keeps hk (nn _)) (by omega) cfit.2 cval (by omega) hb)
    have ck := hide (fun (w1 : World) (P : Nat → Prop) (v1 : Value) (hv : Ns w1 P v1 (cleanL base ns)) => treeCheck_any w1 P v1 _ hv (by omega) cfit.2)
    rw [a1, a2] at tr2
    rw [a3, a4] at is1
    rw [a3] at ck
    simp only [if_true, decide_true, Bool.and_self] at is1 tr2 ck
    clear ta a1 a2 a3 a4 hE cfit cval csz cst hfit hval hsz hM
    generalize cleanL base ns = CL at *
    go_enter Tryz.func4, Tryz.ntmps4
    go_wp2_with fail
    refine cb.out.mono ?_
    rintro e w1 ⟨rfl, hk1⟩
    go_wp2_with fail
    refine (tb.out w1 hk1).mono ?_
    rintro e w2 ⟨rfl, hk2⟩
    have hk02 := hk1.trans hk2
    clear hk1 hk2
    go_wp2_with fail
    refine (h1.out w2 hk02).mono ?_
    rintro e w3 ⟨rfl, hk3⟩
    have hk0 := hk02.trans hk3
    clear hk02 hk3
    go_wp2_with fail
    refine (tr.out _ hk0).mono ?_
    rintro e x1 ⟨o1, n1, c1, rfl, hN1, hkx⟩
    have hk1 := hk0.trans hkx
    have HN1 := hide hN1
    clear hkx hN1
    go_wp2_with fail
    refine (is1.out x1 _ _ hk1 HN1.out).mono ?_
    rintro e x2 ⟨rfl, hkx⟩
    have hk2 := hk1.trans hkx
    have HN2 := hide (HN1.out.keeps0 hkx)
    clear hkx
    go_wp2_with fail
    refine (tr2.out x2 _ _ hk2 HN2.out).mono ?_
    rintro e x3 ⟨o3, n3, c3, rfl, hN3, hkx⟩
    have hk3 := hk2.trans hkx
    have HN3 := hide (HN2.out.keeps0 hkx)
    have HM3 := hide hN3
    have sn := hide (sameNodes_eq _ _ x3 _ CL HN3.out _ x3 (Keeps.refl _ _) hN3)
    clear hkx hN3
    go_wp2_with fail
    refine sn.out.mono ?_
    rintro e x4 ⟨rfl, n4, rfl⟩
    have hk4 := hk3.drewN n4
    have ck2 := hide (ck.out (x3.drewN n4) _ _ (HN3.out.keeps0 ((Keeps.refl [] x3).drewN n4)))
    go_wp2_with fail
    refine ck2.out.mono ?_
    rintro e x5 ⟨rfl, hk5⟩
    go_wp2_with fail
    go_ret
    exact ⟨by simp, hk4.trans hk5⟩
  · generalize treeE base ns = E at *
    simp only [hE, if_false] at tr
    have hEb : (E != 0) = true := by simpa using hE
    clear ta cfit cval csz cst hfit hval hsz hM
    go_enter Tryz.func4, Tryz.ntmps4
    go_wp2_with fail
    refine cb.out.mono ?_
    rintro e w1 ⟨rfl, hk1⟩
    go_wp2_with fail
    refine (tb.out w1 hk1).mono ?_
    rintro e w2 ⟨rfl, hk2⟩
    have hk02 := hk1.trans hk2
    clear hk1 hk2
    go_wp2_with fail
    refine (h1.out w2 hk02).mono ?_
    rintro e w3 ⟨rfl, hk3⟩
    have hk0 := hk02.trans hk3
    clear hk02 hk3
    go_wp2_with fail
    refine (tr.out _ hk0).mono ?_
    rintro e x1 ⟨o1, n1, c1, rfl, hN1, hkx⟩
    obtain ⟨o9, c9, h9⟩ := hN1.form
    simp only [Value.slice.injEq, List.length_nil] at h9
    obtain ⟨rfl, rfl, rfl⟩ := h9
    go_wp2_with fail
    go_ret
    exact ⟨by simp, hk0.trans hkx⟩
end Go.Proofs.YtlcljanibjdejaaGreat

namespace Go.Proofs.YtlcljanibjdejaaGreat
open Go.RowKit Go.Maps

set_option maxRecDepth 4000 in
set_option maxHeartbeats 8000000 in
theorem cleanStays_great (base text : List UInt8) (v : Value) (ns : List Nd) (w : World) (hN : Ns w (fun _ => True) v ns) (hbn : bulkNs ns ≤ 1100000) (hb : base.length ≤ maxLen) (ht : text.length ≤ maxLen) (hM : HasMax w) (hy : text.length ≤ 3000 ∧ base.length ≤ 3000) (hl : 3000 < (htmlL base text).length) :
    Calls Tryz.prog 4 #[.string ⟨base.toArray⟩, .string ⟨text.toArray⟩, v] w fun e w' => e = .returned (.bool true) ∧ Keeps [] w w' := by
  have nn : ∀ g, g ∉ ([] : List Nat) := fun _ => List.not_mem_nil
  have hfit := bulkNs_fits ns hbn
  have hval := bulk_val ns hbn
  have hsz := bulkNs_size ns
  have csz := cleanL_size base ns
  have cfit := cleanL_fit base ns hfit.2 hfit.1
  have cval := cleanL_val base ns hval.1
  have cst := cleanL_sz base ns
  have HM := hide (fun (w1 : World) (hk : Keeps [] w w1) => hM.keeps hk (nn _))
  have hmb := hM
  have cb := hide (cleanBegun_any w hmb)
  have tb := hide (fun (w1 : World) (hk : Keeps [] w w1) => treeBegun_any w1 (hM.keeps hk (nn _)))
  have tr := hide (fun (w1 : World) (hk : Keeps [] w w1) => cleanTree_any base w1 _ v ns (hN.keeps0 hk) (hM.keeps hk (nn _)) (by omega) hfit.1 hval.1 (by omega) hb)
  have h1 := hide (fun (w1 : World) (hk : Keeps [] w w1) => (html_any base text w1 (hM.keeps hk (nn _)) ht hb).mono (R' := fun e w' => e = .returned (.tuple #[.string ⟨(htmlL base text).toArray⟩, .int .i64 0]) ∧ Keeps [] w1 w') (fun e w' h => ⟨h.1.elim (fun h => h.2) (fun h => absurd hy h.1), h.2⟩))
  have hsO : (⟨(htmlL base text).toArray⟩ : ByteArray).size = (htmlL base text).length := str_size _
  obtain ⟨o, c, hv⟩ := hN.form
  subst hv
  have ta := tree_again base ns
  clear hN hmb
  generalize (⟨(htmlL base text).toArray⟩ : ByteArray) = O at *
  have d1 : decide ((O.size : Int) ≤ 3000) = false := decide_eq_false (by omega)
  clear hl hsO hy
  by_cases hE : treeE base ns = 0
  · obtain ⟨a1, a2, a3, a4⟩ := ta hE
    rw [hE] at tr
    simp only [if_true] at tr
    have is1 := hide (fun (w1 : World) (P : Nat → Prop) (v1 : Value) (hk : Keeps [] w w1) (hv : Ns w1 P v1 (cleanL base ns)) => cleanIs_any w1 P v1 _ hv (hM.keeps hk (nn _)) (by omega) cfit.2 cval)
    have tr2 := hide (fun (w1 : World) (P : Nat → Prop) (v1 : Value) (hk : Keeps [] w w1) (hv : Ns w1 P v1 (cleanL base ns)) => cleanTree_any base w1 P v1 _ hv (hM.keeps hk (nn _)) (by omega) cfit.2 cval (by omega) hb)
    have ck := hide (fun (w1 : World) (P : Nat → Prop) (v1 : Value) (hv : Ns w1 P v1 (cleanL base ns)) => treeCheck_any w1 P v1 _ hv (by omega) cfit.2)
    rw [a1, a2] at tr2
    rw [a3, a4] at is1
    rw [a3] at ck
    simp only [if_true, decide_true, Bool.and_self] at is1 tr2 ck
    clear ta a1 a2 a3 a4 hE cfit cval csz cst hfit hval hsz hM
    generalize cleanL base ns = CL at *
    go_enter Tryz.func4, Tryz.ntmps4
    go_wp2_with fail
    refine cb.out.mono ?_
    rintro e w1 ⟨rfl, hk1⟩
    go_wp2_with fail
    refine (tb.out w1 hk1).mono ?_
    rintro e w2 ⟨rfl, hk2⟩
    have hk02 := hk1.trans hk2
    clear hk1 hk2
    go_wp2_with fail
    refine (h1.out w2 hk02).mono ?_
    rintro e w3 ⟨rfl, hk3⟩
    have hk0 := hk02.trans hk3
    clear hk02 hk3
    go_wp2_with fail
    refine (tr.out _ hk0).mono ?_
    rintro e x1 ⟨o1, n1, c1, rfl, hN1, hkx⟩
    have hk1 := hk0.trans hkx
    have HN1 := hide hN1
    clear hkx hN1
    go_wp2_with fail
    refine (is1.out x1 _ _ hk1 HN1.out).mono ?_
    rintro e x2 ⟨rfl, hkx⟩
    have hk2 := hk1.trans hkx
    have HN2 := hide (HN1.out.keeps0 hkx)
    clear hkx
    go_wp2_with fail
    refine (tr2.out x2 _ _ hk2 HN2.out).mono ?_
    rintro e x3 ⟨o3, n3, c3, rfl, hN3, hkx⟩
    have hk3 := hk2.trans hkx
    have HN3 := hide (HN2.out.keeps0 hkx)
    have HM3 := hide hN3
    have sn := hide (sameNodes_eq _ _ x3 _ CL HN3.out _ x3 (Keeps.refl _ _) hN3)
    clear hkx hN3
    go_wp2_with fail
    refine sn.out.mono ?_
    rintro e x4 ⟨rfl, n4, rfl⟩
    have hk4 := hk3.drewN n4
    have ck2 := hide (ck.out (x3.drewN n4) _ _ (HN3.out.keeps0 ((Keeps.refl [] x3).drewN n4)))
    go_wp2_with fail
    refine ck2.out.mono ?_
    rintro e x5 ⟨rfl, hk5⟩
    go_wp2_with fail
    go_ret
    exact ⟨by simp, hk4.trans hk5⟩
  · generalize treeE base ns = E at *
    simp only [hE, if_false] at tr
    have hEb : (E != 0) = true := by simpa using hE
    clear ta cfit cval csz cst hfit hval hsz hM
    go_enter Tryz.func4, Tryz.ntmps4
    go_wp2_with fail
    refine cb.out.mono ?_
    rintro e w1 ⟨rfl, hk1⟩
    go_wp2_with fail
    refine (tb.out w1 hk1).mono ?_
    rintro e w2 ⟨rfl, hk2⟩
    have hk02 := hk1.trans hk2
    clear hk1 hk2
    go_wp2_with fail
    refine (h1.out w2 hk02).mono ?_
    rintro e w3 ⟨rfl, hk3⟩
    have hk0 := hk02.trans hk3
    clear hk02 hk3
    go_wp2_with fail
    refine (tr.out _ hk0).mono ?_
    rintro e x1 ⟨o1, n1, c1, rfl, hN1, hkx⟩
    obtain ⟨o9, c9, h9⟩ := hN1.form
    simp only [Value.slice.injEq, List.length_nil] at h9
    obtain ⟨rfl, rfl, rfl⟩ := h9
    go_wp2_with fail
    go_ret
    exact ⟨by simp, hk0.trans hkx⟩
end Go.Proofs.YtlcljanibjdejaaGreat

namespace Go.Proofs.YtlcljanibjdejaaGreat
open Go.RowKit Go.Maps

set_option maxRecDepth 4000 in
set_option maxHeartbeats 8000000 in
theorem cleanStays_small (base text : List UInt8) (v : Value) (ns : List Nd) (w : World) (hN : Ns w (fun _ => True) v ns) (hbn : bulkNs ns ≤ 1100000) (hb : base.length ≤ maxLen) (ht : text.length ≤ maxLen) (hM : HasMax w) (hy : text.length ≤ 3000 ∧ base.length ≤ 3000) (hl : (htmlL base text).length ≤ 3000) :
    Calls Tryz.prog 4 #[.string ⟨base.toArray⟩, .string ⟨text.toArray⟩, v] w fun e w' => e = .returned (.bool true) ∧ Keeps [] w w' := by
  have nn : ∀ g, g ∉ ([] : List Nat) := fun _ => List.not_mem_nil
  have hfit := bulkNs_fits ns hbn
  have hval := bulk_val ns hbn
  have hsz := bulkNs_size ns
  have csz := cleanL_size base ns
  have cfit := cleanL_fit base ns hfit.2 hfit.1
  have cval := cleanL_val base ns hval.1
  have cst := cleanL_sz base ns
  have HM := hide (fun (w1 : World) (hk : Keeps [] w w1) => hM.keeps hk (nn _))
  have hmb := hM
  have cb := hide (cleanBegun_any w hmb)
  have tb := hide (fun (w1 : World) (hk : Keeps [] w w1) => treeBegun_any w1 (hM.keeps hk (nn _)))
  have tr := hide (fun (w1 : World) (hk : Keeps [] w w1) => cleanTree_any base w1 _ v ns (hN.keeps0 hk) (hM.keeps hk (nn _)) (by omega) hfit.1 hval.1 (by omega) hb)
  have h1 := hide (fun (w1 : World) (hk : Keeps [] w w1) => (html_any base text w1 (hM.keeps hk (nn _)) ht hb).mono (R' := fun e w' => e = .returned (.tuple #[.string ⟨(htmlL base text).toArray⟩, .int .i64 0]) ∧ Keeps [] w1 w') (fun e w' h => ⟨h.1.elim (fun h => h.2) (fun h => absurd hy h.1), h.2⟩))
  have hsO : (⟨(htmlL base text).toArray⟩ : ByteArray).size = (htmlL base text).length := str_size _
  have ha := html_again base text hy.1
  have h2 := hide (fun (w1 : World) (hk : Keeps [] w w1) => (html_any base (htmlL base text) w1 (hM.keeps hk (nn _)) (by unfold maxLen; omega) hb).mono (R' := fun e w' => e = .returned (.tuple #[.string ⟨(htmlL base text).toArray⟩, .int .i64 0]) ∧ Keeps [] w1 w') (fun e w' h => ⟨h.1.elim (fun h => by rw [h.2, ha.1]) (fun h => absurd ⟨hl, hy.2⟩ h.1), h.2⟩))
  have h3 := hide (fun (w1 : World) (hk : Keeps [] w w1) => (html_any [] (htmlL base text) w1 (hM.keeps hk (nn _)) (by unfold maxLen; omega) (by simp [maxLen])).mono (R' := fun e w' => e = .returned (.tuple #[.string ⟨(htmlL base text).toArray⟩, .int .i64 0]) ∧ Keeps [] w1 w') (fun e w' h => ⟨h.1.elim (fun h => by rw [h.2, ha.2]) (fun h => absurd ⟨hl, by simp⟩ h.1), h.2⟩))
  clear ha
  obtain ⟨o, c, hv⟩ := hN.form
  subst hv
  have ta := tree_again base ns
  clear hN hmb
  generalize (⟨(htmlL base text).toArray⟩ : ByteArray) = O at *
  have d1 : decide ((O.size : Int) ≤ 3000) = true := decide_eq_true (by omega)
  have h3 : Hid (∀ (w1 : World) (hk : Keeps [] w w1), Calls Tryz.prog 15 #[.string ⟨#[]⟩, .string O] w1 fun e w' => e = .returned (.tuple #[.string O, .int .i64 0]) ∧ Keeps [] w1 w') := h3
  clear hl hsO hy
  by_cases hE : treeE base ns = 0
  · obtain ⟨a1, a2, a3, a4⟩ := ta hE
    rw [hE] at tr
    simp only [if_true] at tr
    have is1 := hide (fun (w1 : World) (P : Nat → Prop) (v1 : Value) (hk : Keeps [] w w1) (hv : Ns w1 P v1 (cleanL base ns)) => cleanIs_any w1 P v1 _ hv (hM.keeps hk (nn _)) (by omega) cfit.2 cval)
    have tr2 := hide (fun (w1 : World) (P : Nat → Prop) (v1 : Value) (hk : Keeps [] w w1) (hv : Ns w1 P v1 (cleanL base ns)) => cleanTree_any base w1 P v1 _ hv (hM.keeps hk (nn _)) (by omega) cfit.2 cval (by omega) hb)
    have ck := hide (fun (w1 : World) (P : Nat → Prop) (v1 : Value) (hv : Ns w1 P v1 (cleanL base ns)) => treeCheck_any w1 P v1 _ hv (by omega) cfit.2)
    rw [a1, a2] at tr2
    rw [a3, a4] at is1
    rw [a3] at ck
    simp only [if_true, decide_true, Bool.and_self] at is1 tr2 ck
    clear ta a1 a2 a3 a4 hE cfit cval csz cst hfit hval hsz hM
    generalize cleanL base ns = CL at *
    go_enter Tryz.func4, Tryz.ntmps4
    go_wp2_with fail
    refine cb.out.mono ?_
    rintro e w1 ⟨rfl, hk1⟩
    go_wp2_with fail
    refine (tb.out w1 hk1).mono ?_
    rintro e w2 ⟨rfl, hk2⟩
    have hk02 := hk1.trans hk2
    clear hk1 hk2
    go_wp2_with fail
    refine (h1.out w2 hk02).mono ?_
    rintro e w3 ⟨rfl, hk3⟩
    have hk0 := hk02.trans hk3
    clear hk02 hk3
    go_wp2_with fail
    refine (h2.out w3 hk0).mono ?_
    rintro e w4 ⟨rfl, hk4⟩
    have hk04 := hk0.trans hk4
    clear hk0 hk4
    go_wp2_with fail
    refine (h3.out w4 hk04).mono ?_
    rintro e w5 ⟨rfl, hk5⟩
    have hk0 := hk04.trans hk5
    clear hk04 hk5
    go_wp2_with fail
    refine (tr.out _ hk0).mono ?_
    rintro e x1 ⟨o1, n1, c1, rfl, hN1, hkx⟩
    have hk1 := hk0.trans hkx
    have HN1 := hide hN1
    clear hkx hN1
    go_wp2_with fail
    refine (is1.out x1 _ _ hk1 HN1.out).mono ?_
    rintro e x2 ⟨rfl, hkx⟩
    have hk2 := hk1.trans hkx
    have HN2 := hide (HN1.out.keeps0 hkx)
    clear hkx
    go_wp2_with fail
    refine (tr2.out x2 _ _ hk2 HN2.out).mono ?_
    rintro e x3 ⟨o3, n3, c3, rfl, hN3, hkx⟩
    have hk3 := hk2.trans hkx
    have HN3 := hide (HN2.out.keeps0 hkx)
    have HM3 := hide hN3
    have sn := hide (sameNodes_eq _ _ x3 _ CL HN3.out _ x3 (Keeps.refl _ _) hN3)
    clear hkx hN3
    go_wp2_with fail
    refine sn.out.mono ?_
    rintro e x4 ⟨rfl, n4, rfl⟩
    have hk4 := hk3.drewN n4
    have ck2 := hide (ck.out (x3.drewN n4) _ _ (HN3.out.keeps0 ((Keeps.refl [] x3).drewN n4)))
    go_wp2_with fail
    refine ck2.out.mono ?_
    rintro e x5 ⟨rfl, hk5⟩
    go_wp2_with fail
    go_ret
    exact ⟨by simp, hk4.trans hk5⟩
  · generalize treeE base ns = E at *
    simp only [hE, if_false] at tr
    have hEb : (E != 0) = true := by simpa using hE
    clear ta cfit cval csz cst hfit hval hsz hM
    go_enter Tryz.func4, Tryz.ntmps4
    go_wp2_with fail
    refine cb.out.mono ?_
    rintro e w1 ⟨rfl, hk1⟩
    go_wp2_with fail
    refine (tb.out w1 hk1).mono ?_
    rintro e w2 ⟨rfl, hk2⟩
    have hk02 := hk1.trans hk2
    clear hk1 hk2
    go_wp2_with fail
    refine (h1.out w2 hk02).mono ?_
    rintro e w3 ⟨rfl, hk3⟩
    have hk0 := hk02.trans hk3
    clear hk02 hk3
    go_wp2_with fail
    refine (h2.out w3 hk0).mono ?_
    rintro e w4 ⟨rfl, hk4⟩
    have hk04 := hk0.trans hk4
    clear hk0 hk4
    go_wp2_with fail
    refine (h3.out w4 hk04).mono ?_
    rintro e w5 ⟨rfl, hk5⟩
    have hk0 := hk04.trans hk5
    clear hk04 hk5
    go_wp2_with fail
    refine (tr.out _ hk0).mono ?_
    rintro e x1 ⟨o1, n1, c1, rfl, hN1, hkx⟩
    obtain ⟨o9, c9, h9⟩ := hN1.form
    simp only [Value.slice.injEq, List.length_nil] at h9
    obtain ⟨rfl, rfl, rfl⟩ := h9
    go_wp2_with fail
    go_ret
    exact ⟨by simp, hk0.trans hkx⟩
end Go.Proofs.YtlcljanibjdejaaGreat

namespace Go.Proofs.YtlcljanibjdejaaGreat
open Go.RowKit Go.Maps
theorem cleanStays_law (base text : List UInt8) (v : Value) (ns : List Nd) (w : World) (hN : Ns w (fun _ => True) v ns) (hbn : bulkNs ns ≤ 1100000) (hb : base.length ≤ maxLen) (ht : text.length ≤ maxLen) (hM : HasMax w) :
    Calls Tryz.prog 4 #[.string ⟨base.toArray⟩, .string ⟨text.toArray⟩, v] w fun e w' => e = .returned (.bool true) ∧ Keeps [] w w' := by
  by_cases hy : text.length ≤ 3000 ∧ base.length ≤ 3000
  · by_cases hl : 3000 < (htmlL base text).length
    · exact cleanStays_great base text v ns w hN hbn hb ht hM hy hl
    · exact cleanStays_small base text v ns w hN hbn hb ht hM hy (by omega)
  · exact cleanStays_long base text v ns w hN hbn hb ht hM hy
end Go.Proofs.YtlcljanibjdejaaGreat

namespace Go.Proofs.YtlcljanibjdejaaGreat
open Go.RowKit Go.Maps
open Go.ChangeShapes Go.WideShapes Go.ChangeAt
open Go.ChangeMaps (open_string shut_string)

set_option maxRecDepth 100000 in
theorem cleanStays_lifted (os : Os) (started : os.Started) (H : Type) (enc : TypeId × Value → H) (F : Stop.Interp) :
    ReturnsInHanded {} Tryz.checked os 4 .any ((Rows.OpenSpec.upto Rows.cleanStaysSpec).pre6 enc Tryz.prog Tryz.f4 Rows.cleanStaysUptoRow.domain false) (((Rows.OpenSpec.upto Rows.cleanStaysSpec).at F).post enc Tryz.prog Tryz.f4 false true false false) := by
  refine of_cond_shaped (C := Tryz.checked) (s := Rows.OpenSpec.upto Rows.cleanStaysSpec) (k := Rows.uptoSmall) rfl knob_own started (by kernel_rfl) Tryz.func4
    (OpenSpec.witness (enc := enc) (C := Tryz.checked) (s := Rows.OpenSpec.upto Rows.cleanStaysSpec) (k := Rows.uptoSmall) rfl false ⟨#[], #[.string ByteArray.empty, .string ByteArray.empty, .slice none 0 0], []⟩ 8 (by kernel_rfl) (by kernel_rfl) (by kernel_rfl)
      (x := ([.lit (.string []), .lit (.string []), .nil], [], [])) (by kernel_rfl) rfl (by kernel_rfl)) ?_
  intro W base args ds gs before hval0 hW hk hsh
  have hval : ∀ (j : Nat) t v, Tryz.f4.params[j]? = some t → args[j]? = some v → Value.okWide Tryz.prog W .any base t v := hval0
  have hM : HasMax W := max_shaped W hsh
  have hW' := hW
  obtain ⟨p, q, hA0, hV, rfl, hfz, hnd⟩ := hW
  have hA : DataW.TrodAll enc Tryz.prog W 0 (fun _ => true) true Tryz.f4.params.toList args.toList ds p := hA0
  rw [Tryz.params4] at hA hval
  obtain ⟨v0, v1, v2, d0, d1, d2, p0, p1, p2, rfl, rfl, rfl, h0, h1, h2⟩ := trodAll_three hA
  obtain ⟨rfl, rfl⟩ := trodVars_none hV
  obtain ⟨a0, rfl, rfl, rfl, w0⟩ := open_string Tryz.underlying9 (hval 0 9 v0 rfl rfl) h0
  obtain ⟨a1, rfl, rfl, rfl, w1⟩ := open_string Tryz.underlying9 (hval 1 9 v1 rfl rfl) h1
  have hlt : ∀ x ∈ p2, x.block < W.heap.size := fun x hx => hW'.lt x (by simpa using hx)
  have hb : Rows.uptoBulkAll ([.lit (.string a0.data.toList), .lit (.string a1.data.toList), d2] ++ ([] : List (DataW H))) ≤ 1048576 := of_decide_eq_true hk
  simp only [List.append_nil, Rows.uptoBulkAll, Rows.uptoBulk] at hb
  obtain ⟨fuel2, hf2⟩ := id h2
  obtain ⟨o2, n2, c2, rfl⟩ := okWide_slice Tryz.underlying29 (hval 2 29 v2 rfl rfl)
  obtain ⟨ns2, hns2, hbn2⟩ := nodes_down _ _ _ _ (Nat.le_refl _) (by simpa [Value.cells] using hf2)
  simp only at hbn2
  clear hA0 hval0
  simp only [List.append_nil] at hW'
  have hl0 : a0.data.toList.length ≤ 1048576 := by simp at hb ⊢; omega
  have hl1 : a1.data.toList.length ≤ 1048576 := by simp at hb ⊢; omega
  have law := cleanStays_law a0.data.toList a1.data.toList _ ns2 W hns2 (by omega) (by unfold maxLen; omega) (by unfold maxLen; omega) hM
  simp only [str_backA] at law
  refine law.mono fun e W' ⟨he, hg⟩ => ?_
  subst he
  refine ⟨_, rfl, _, _, _, [], [] ++ ([] ++ (p2 ++ ([]))), [], hW', trodAll_cons_mk (shut_bool Tryz.underlying4 _) trodAll_mk0, ?_, rfl, hg.nil_below.frame _, fun h => by cases h⟩
  exact trodAll_cons_mk (shut_string Tryz.underlying9 w0) (trodAll_cons_mk (shut_string Tryz.underlying9 w1) (trodAll_cons_mk (Below.trod laid_out (by kernel_rfl) (of_decide_eq_true (by kernel_rfl)) h2 hg.nil_below (fun x hx => hlt x (by simp [hx]))) trodAll_mk0))

set_option maxHeartbeats 8000000 in
theorem cleanStays_closed : joinedFacts Tryz.prog 4 Tryz.f4 (Rows.OpenSpec.upto Rows.cleanStaysSpec).bare Rows.cleanStaysUptoRow = true := by
  simp only [joinedFacts, Bool.and_eq_true]
  refine ⟨⟨⟨⟨⟨⟨⟨⟨⟨⟨⟨⟨⟨⟨⟨⟨⟨⟨⟨⟨⟨⟨⟨⟨⟨⟨⟨⟨⟨⟨⟨?_, laid_out⟩, prog_maps⟩, ?_⟩, ?_⟩, ?_⟩, ?_⟩, ?_⟩, ?_⟩, ?_⟩, ?_⟩, ?_⟩, ?_⟩, ?_⟩, ?_⟩, ?_⟩, ?_⟩, ?_⟩, ?_⟩, ?_⟩, ?_⟩, ?_⟩, prog_plain⟩, ?_⟩, prog_heard⟩, prog_enter⟩, prog_lifted⟩, prog_make⟩, ?_⟩, ?_⟩, ?_⟩, ?_⟩
  all_goals as_aux_lemma => kernel_rfl
theorem cleanStays_named : Tryz.prog.funcNamed Rows.cleanStaysUptoRow.func = some 4 := by kernel_rfl

theorem cleanStays_upto : Rows.CleanStaysUptoSaid :=
  OpenClaim.holds_of_cond 4 Tryz.f4 rfl rfl rfl rfl rfl rfl rfl ⟨rfl, rfl, rfl, rfl, rfl⟩ rfl rfl rfl rfl rfl cleanStays_named Tryz.func4 cleanStays_closed
    (of_decide_eq_true (by as_aux_lemma => kernel_rfl)) (by unfold Func.isWrapper; first | (rw [if_pos (by decide +kernel)]; kernel_rfl) | (rw [if_neg (by decide +kernel)]; exact ⟨rfl, rfl⟩))
    (fun os started H enc _ F => cleanStays_lifted os started H enc F)
#print axioms cleanStays_upto
end Go.Proofs.YtlcljanibjdejaaGreat
