/- CleanGood holds: for every input the law returns true, and each argument reads behind the call as it read before; no condition. A part of its proof. -/
import Derived.Test.YtlcljanibjdejaaGreatCg13
import Derived.RegionDies
namespace Go.Proofs.YtlcljanibjdejaaGreat
def cleanIn (base : List UInt8) : Lst → List Nd → Lst
  | s, [] => s
  | s, .mk n a t k :: r =>
    if n.isEmpty = true then cleanIn base (s.put (.mk n a t k)) r
    else if goneN n = true then cleanIn base s r
    else if allowedN n = false then cleanIn base (cleanIn base s k) r
    else if standE n (keptA base n a) = 0 then cleanIn base (s.put (.mk n (keptA base n a) [] (cleanIn base ⟨[], []⟩ k).done)) r
    else cleanIn base s r
def cleanL (base : List UInt8) (l : List Nd) : List Nd := (cleanIn base ⟨[], []⟩ l).done
theorem light_again (base s : List UInt8) : lightL base (lightL base s) = lightL base s := by
  unfold lightL
  by_cases h : 3000 < s.length
  · rw [if_pos h, if_pos h]
  · rw [if_neg h]
    cases hr : resAns base s with
    | none => rw [Option.getD_none, if_neg h, hr]; rfl
    | some r =>
      have := res_again hr
      rw [Option.getD_some, if_neg (by omega), this.2.1]
      rfl
theorem told_again (base : List UInt8) (a : Pair) : toldA base (toldA base a) = toldA base a := by
  unfold toldA
  by_cases h : linkN a.1 = true
  · rw [if_pos h]
    simp only
    rw [if_pos h, light_again]
  · rw [if_neg h, if_neg h]
theorem told_name (base : List UInt8) (a : Pair) : (toldA base a).1 = a.1 := by unfold toldA; split <;> rfl
theorem filter_same {p : Pair → Bool} : ∀ {l : List Pair}, (∀ a ∈ l, p a = true) → l.filter p = l := fun h => List.filter_eq_self.2 h
theorem kept_same {base el : List UInt8} {l : List Pair} (h1 : ∀ a ∈ l, attrE el a = 0) (h2 : ∀ a ∈ l, toldA base a = a) : keptA base el l = l := by
  unfold keptA
  have e : l.map (toldA base) = l := by
    conv => rhs; rw [← List.map_id l]
    exact List.map_congr_left (fun a ha => by rw [h2 a ha]; rfl)
  rw [e]
  exact filter_same fun a ha => by simp [h1 a ha]
theorem kept_mem {base el : List UInt8} {l : List Pair} {a : Pair} (h : a ∈ keptA base el l) : attrE el a = 0 ∧ toldA base a = a := by
  have h := List.mem_filter.1 h
  obtain ⟨b, _, hb⟩ := List.mem_map.1 h.1
  subst hb
  exact ⟨by simpa using h.2, told_again base b⟩
theorem chkA_less (f : Pair → Pair) (p : Pair → Bool) (hf : ∀ a, (f a).1 = a.1) : ∀ (l : List Pair) (m m' : List (List UInt8)), chkA l m = 0 → (∀ x, x ∈ m' → x ∈ m) → chkA ((l.map f).filter p) m' = 0
  | [], _, _, _, _ => rfl
  | a :: r, m, m', h, hm => by
    rw [chkA] at h
    by_cases h1 : isNameL a.1 = false
    · rw [if_pos h1] at h; simp at h
    · rw [if_neg h1] at h
      by_cases h2 : a.1 ∈ m
      · rw [if_pos h2] at h; simp at h
      · rw [if_neg h2] at h
        rw [List.map_cons]
        by_cases hp : p (f a) = true
        · rw [List.filter_cons_of_pos hp, chkA, hf, if_neg h1, if_neg (fun hx => h2 (hm _ hx))]
          exact chkA_less f p hf r _ _ h (fun x hx => by
            rcases List.mem_append.1 hx with hx | hx
            · exact List.mem_append_left _ (hm x hx)
            · exact List.mem_append_right _ hx)
        · rw [List.filter_cons_of_neg hp]
          exact chkA_less f p hf r _ _ h (fun x hx => List.mem_append_left _ (hm x hx))
theorem chkA_kept (base el : List UInt8) (l : List Pair) (h : chkA l [] = 0) : chkA (keptA base el l) [] = 0 := chkA_less (toldA base) _ (told_name base) l [] [] h (fun _ hx => hx)
theorem opens_filter (is hides : List UInt8 → Bool) (h1 : ∀ x, is x = true → allowedN x = true) (h2 : ∀ x, hides x = true → allowedN x = true) (ns : List (List UInt8)) : opens is hides (ns.filter allowedN) = opens is hides ns := by
  have H : ∀ l : List (List UInt8), opens is hides (l.reverse.filter allowedN) = opens is hides l.reverse := by
    intro l
    induction l with
    | nil => rfl
    | cons x l ih =>
      rw [List.reverse_cons, List.filter_append, opens_snoc]
      by_cases hx : allowedN x = true
      · rw [List.filter_cons_of_pos hx, List.filter_nil, opens_snoc, ih]
      · rw [List.filter_cons_of_neg hx, List.filter_nil, List.append_nil, ih, if_neg (fun h => hx (h1 x h)), if_neg (fun h => hx (h2 x h))]
  have := H ns.reverse
  rwa [List.reverse_reverse] at this
theorem innerL_le' (is hides : List UInt8 → Bool) (ns : List (List UInt8)) : innerL is hides ns ≤ ns.length := innerTo_le _ _ _ _ (Nat.le_refl _)
theorem inner_filter (is hides : List UInt8 → Bool) (h1 : ∀ x, is x = true → allowedN x = true) (h2 : ∀ x, hides x = true → allowedN x = true) (ns : List (List UInt8)) (h : innerL is hides ns = ns.length) : innerL is hides (ns.filter allowedN) = (ns.filter allowedN).length := by
  have h3 := opens_filter is hides h1 h2 ns
  have h4 : opens is hides ns = false := by unfold opens; rw [h]; simp
  rw [h4] at h3
  unfold opens at h3
  have := innerL_le' is hides (ns.filter allowedN)
  simp at h3
  omega
theorem list_allowed : ∀ x, listN x = true → allowedN x = true := by
  intro x h
  simp only [listN, Bool.or_eq_true, beq_iff_eq] at h
  rcases h with rfl | rfl <;> decide
theorem wall_allowed : ∀ x, wallN x = true → allowedN x = true := by
  intro x h
  unfold wallN at h
  simp only [Bool.or_eq_true, beq_iff_eq] at h
  rcases h with (h | rfl) | rfl
  · exact list_allowed x h
  · decide
  · decide
theorem closed_filter (ns : List (List UInt8)) (n : List UInt8) (h : ns.length ≤ closedL ns n) : (ns.filter allowedN).length ≤ closedL (ns.filter allowedN) n := by
  have hp : ∀ x : List UInt8, (x == [112]) = true → allowedN x = true := fun x hx => by simp only [beq_iff_eq] at hx; subst hx; decide
  have hli : ∀ x : List UInt8, (x == [108, 105]) = true → allowedN x = true := fun x hx => by simp only [beq_iff_eq] at hx; subst hx; decide
  unfold closedL at h ⊢
  by_cases h1 : n = [108, 105]
  · subst h1
    have hb : blockN [108, 105] = true := by decide
    rw [if_pos rfl, if_pos hb] at h ⊢
    have a1 := innerL_le' (· == [112]) wallN ns
    have a2 := innerL_le' (· == [108, 105]) listN (ns.take (innerL (· == [112]) wallN ns))
    rw [List.length_take] at a2
    have a3 : innerL (· == [112]) wallN ns = ns.length := by omega
    rw [a3, List.take_length] at h
    have a4 : innerL (· == [108, 105]) listN ns = ns.length := Nat.le_antisymm (innerL_le' _ _ _) h
    rw [inner_filter _ _ hp wall_allowed ns a3, List.take_length, inner_filter _ _ hli list_allowed ns a4]
    exact Nat.le_refl _
  · rw [if_neg h1] at h ⊢
    by_cases h2 : blockN n = true
    · rw [if_pos h2] at h ⊢
      have a3 : innerL (· == [112]) wallN ns = ns.length := Nat.le_antisymm (innerL_le' _ _ _) h
      rw [inner_filter _ _ hp wall_allowed ns a3]
      exact Nat.le_refl _
    · rw [if_neg h2]
      exact Nat.le_refl _
def LstOk (ar : List (List UInt8)) (s : Lst) : Prop := Rt ar false s.all ∧ endsText s.all = false
theorem done_right {ar : List (List UInt8)} {s : Lst} (h : LstOk ar s) : Rt ar false s.done := by
  unfold Lst.done
  cases ht : s.text with
  | nil => exact h.1
  | cons c r => exact Rt_snoc_text _ _ _ _ h.1 (by simp) (fun _ => rfl) h.2
theorem put_rightT {ar : List (List UInt8)} {s : Lst} (h : LstOk ar s) (n : List UInt8) (a : List Pair) (t : List UInt8) (k : List Nd) (hn : n.isEmpty = true) : LstOk ar (s.put (.mk n a t k)) := by
  unfold Lst.put
  rw [if_pos (show (Nd.mk n a t k).name.isEmpty = true from hn)]
  exact h
theorem put_rightE {ar : List (List UInt8)} {s : Lst} (h : LstOk ar s) (n : Nd) (hn : ElOk ar n) : LstOk ar (s.put n) := by
  have hne := name_some hn.1
  unfold Lst.put
  rw [if_neg (by simpa using hne)]
  refine ⟨Rt_snoc_el _ _ _ _ (done_right h) hn, ?_⟩
  rw [endsText_snoc]
  simpa using hne
theorem clean_right (base : List UInt8) : ∀ (l : List Nd) (ar : List (List UInt8)) (prev : Bool) (s : Lst), Rt ar prev l → LstOk (ar.filter allowedN) s → LstOk (ar.filter allowedN) (cleanIn base s l)
  | [], ar, prev, s, _, hs => by rw [cleanIn]; exact hs
  | .mk n a t k :: r, ar, prev, s, h, hs => by
    rw [Rt] at h
    rw [cleanIn]
    by_cases hn : n = []
    · rw [if_pos hn] at h
      rw [if_pos (by simpa using hn)]
      exact clean_right base r ar true _ h.2.2.2.2 (put_rightT hs _ _ _ _ (by simpa using hn))
    · rw [if_neg hn] at h
      obtain ⟨h1, ht, h3, he, h5, h6, hk, hr⟩ := h
      rw [if_neg (by simpa using hn)]
      by_cases hg : goneN n = true
      · rw [if_pos hg]
        exact clean_right base r ar false _ hr hs
      · rw [if_neg hg]
        by_cases ha : allowedN n = false
        · rw [if_pos ha]
          refine clean_right base r ar false _ hr ?_
          have := clean_right base k (ar ++ [n]) false s hk (by rw [List.filter_append, List.filter_cons_of_neg (by simpa using ha), List.filter_nil, List.append_nil]; exact hs)
          rwa [List.filter_append, List.filter_cons_of_neg (by simpa using ha), List.filter_nil, List.append_nil] at this
        · rw [if_neg ha]
          by_cases hst : standE n (keptA base n a) = 0
          · rw [if_pos hst]
            refine clean_right base r ar false _ hr (put_rightE hs _ ?_)
            have ef : (ar ++ [n]).filter allowedN = ar.filter allowedN ++ [n] := by rw [List.filter_append, List.filter_cons_of_pos (by simpa using ha), List.filter_nil]
            have hks := clean_right base k (ar ++ [n]) false ⟨[], []⟩ hk ⟨Rt_nil _ _, rfl⟩
            rw [ef] at hks
            refine ⟨h1, rfl, chkA_kept base n a h3, fun hem => ?_, closed_filter ar n h5, Nat.lt_of_le_of_lt (List.length_filter_le _ _) h6, done_right hks⟩
            show (cleanIn base ⟨[], []⟩ k).done = []
            rw [he hem, cleanIn]
            rfl
          · rw [if_neg hst]
            exact clean_right base r ar false _ hr hs
theorem cleanL_right (base : List UInt8) (l : List Nd) (h : Rt [] false l) : Rt [] false (cleanL base l) := done_right (clean_right base l [] false _ h ⟨Rt_nil _ _, rfl⟩)
def Lst.size (s : Lst) : Nat := sizeNs s.all + if s.text.isEmpty = true then 0 else 1
theorem size_done (s : Lst) : sizeNs s.done = s.size := by
  unfold Lst.done Lst.size
  split
  · rfl
  · rw [sizeNs_append]; simp [sizeNs, textN]
theorem size_putT (s : Lst) (n : List UInt8) (a : List Pair) (t : List UInt8) (k : List Nd) (hn : n.isEmpty = true) : (s.put (.mk n a t k)).size ≤ s.size + 1 := by
  unfold Lst.put
  rw [if_pos (show (Nd.mk n a t k).name.isEmpty = true from hn)]
  unfold Lst.size
  simp only
  split <;> omega
theorem size_putE (s : Lst) (n : Nd) (hn : ¬ n.name.isEmpty = true) : (s.put n).size = s.size + 1 + sizeNs n.kids := by
  unfold Lst.put
  rw [if_neg hn]
  unfold Lst.size
  simp only
  rw [sizeNs_append, size_done, sizeNs_cons]
  simp [sizeNs, Lst.size]
  omega
theorem clean_size (base : List UInt8) : ∀ (l : List Nd) (s : Lst), (cleanIn base s l).size ≤ s.size + sizeNs l
  | [], s => by rw [cleanIn]; exact Nat.le_add_right _ _
  | .mk n a t k :: r, s => by
    rw [cleanIn, sizeNs]
    split
    · have := clean_size base r (s.put (.mk n a t k))
      have := size_putT s n a t k (by assumption)
      omega
    · split
      · have := clean_size base r s
        omega
      · split
        · have := clean_size base r (cleanIn base s k)
          have := clean_size base k s
          omega
        · split
          · have h1 := clean_size base r (s.put (.mk n (keptA base n a) [] (cleanIn base ⟨[], []⟩ k).done))
            have h2 := size_putE s (.mk n (keptA base n a) [] (cleanIn base ⟨[], []⟩ k).done) (by assumption)
            have h3 := clean_size base k ⟨[], []⟩
            have h4 := size_done (cleanIn base ⟨[], []⟩ k)
            have h5 : (⟨[], []⟩ : Lst).size = 0 := by simp [Lst.size, sizeNs]
            have h6 : sizeNs (Nd.mk n (keptA base n a) [] (cleanIn base ⟨[], []⟩ k).done).kids = (cleanIn base ⟨[], []⟩ k).size := h4
            omega
          · have := clean_size base r s
            omega
theorem cleanL_size (base : List UInt8) (l : List Nd) : sizeNs (cleanL base l) ≤ sizeNs l := by
  have := clean_size base l ⟨[], []⟩
  unfold cleanL
  rw [size_done]
  have h5 : (⟨[], []⟩ : Lst).size = 0 := by simp [Lst.size, sizeNs]
  omega
def AllSt : List Nd → Prop
  | [] => True
  | .mk n a _ k :: r => standE n a = 0 ∧ AllSt k ∧ AllSt r
def AllTold (base : List UInt8) : List Nd → Prop
  | [] => True
  | .mk n a _ k :: r => (n ≠ [] → ∀ x ∈ a, toldA base x = x) ∧ AllTold base k ∧ AllTold base r
theorem AllSt_append (a b : List Nd) : AllSt (a ++ b) ↔ AllSt a ∧ AllSt b := by
  induction a with
  | nil => simp [AllSt]
  | cons n a ih => cases n; simp [AllSt, ih, and_assoc]
theorem AllTold_append (base : List UInt8) (a b : List Nd) : AllTold base (a ++ b) ↔ AllTold base a ∧ AllTold base b := by
  induction a with
  | nil => simp [AllTold]
  | cons n a ih => cases n; simp [AllTold, ih, and_assoc]
theorem st_text (t : List UInt8) : AllSt [textN t] := by simp [AllSt, textN, standE]
theorem told_text (base t : List UInt8) : AllTold base [textN t] := by simp [AllTold, textN]
theorem st_done {s : Lst} (h : AllSt s.all) : AllSt s.done := by
  unfold Lst.done
  split
  · exact h
  · exact (AllSt_append _ _).2 ⟨h, st_text _⟩
theorem told_done {base : List UInt8} {s : Lst} (h : AllTold base s.all) : AllTold base s.done := by
  unfold Lst.done
  split
  · exact h
  · exact (AllTold_append _ _ _).2 ⟨h, told_text _ _⟩
theorem clean_stands (base : List UInt8) : ∀ (l : List Nd) (s : Lst), AllSt s.all → AllTold base s.all → AllSt (cleanIn base s l).all ∧ AllTold base (cleanIn base s l).all
  | [], s, h, h' => by rw [cleanIn]; exact ⟨h, h'⟩
  | .mk n a t k :: r, s, h, h' => by
    rw [cleanIn]
    split
    · rename_i hn
      refine clean_stands base r _ ?_ ?_
      · unfold Lst.put; rw [if_pos (show (Nd.mk n a t k).name.isEmpty = true from hn)]; exact h
      · unfold Lst.put; rw [if_pos (show (Nd.mk n a t k).name.isEmpty = true from hn)]; exact h'
    · rename_i hn
      split
      · exact clean_stands base r s h h'
      · split
        · have := clean_stands base k s h h'
          exact clean_stands base r _ this.1 this.2
        · split
          · rename_i hs
            have hk := clean_stands base k ⟨[], []⟩ (by simp [AllSt]) (by simp [AllTold])
            refine clean_stands base r _ ?_ ?_
            · unfold Lst.put; rw [if_neg (show ¬ (Nd.mk n (keptA base n a) [] (cleanIn base ⟨[], []⟩ k).done).name.isEmpty = true from hn)]
              refine (AllSt_append _ _).2 ⟨st_done h, ?_⟩
              simp only [AllSt]
              exact ⟨hs, st_done hk.1, trivial⟩
            · unfold Lst.put; rw [if_neg (show ¬ (Nd.mk n (keptA base n a) [] (cleanIn base ⟨[], []⟩ k).done).name.isEmpty = true from hn)]
              refine (AllTold_append _ _ _).2 ⟨told_done h', ?_⟩
              simp only [AllTold]
              exact ⟨fun _ x hx => (kept_mem hx).2, told_done hk.2, trivial⟩
          · exact clean_stands base r s h h'
theorem cleanL_stands (base : List UInt8) (l : List Nd) : AllSt (cleanL base l) ∧ AllTold base (cleanL base l) := by
  have := clean_stands base l ⟨[], []⟩ (by simp [AllSt]) (by simp [AllTold])
  exact ⟨st_done this.1, told_done this.2⟩
theorem attrsE_each {el : List UInt8} : ∀ {l : List Pair}, attrsE el l = 0 → ∀ a ∈ l, attrE el a = 0
  | b :: r, h, a, ha => by
    rw [attrsE] at h
    by_cases hb : attrE el b = 0
    · rw [if_pos hb] at h
      rcases List.mem_cons.1 ha with rfl | ha
      · exact hb
      · exact attrsE_each h a ha
    · rw [if_neg hb] at h
      exact absurd h hb
theorem stand_each {n : List UInt8} {l : List Pair} (hn : n ≠ []) (h : standE n l = 0) : allowedN n = true ∧ ∀ a ∈ l, attrE n a = 0 := by
  unfold standE at h
  rw [if_neg (by simpa using hn)] at h
  by_cases ha : allowedN n = false
  · rw [if_pos ha] at h; simp at h
  · rw [if_neg ha] at h
    refine ⟨by simpa using ha, ?_⟩
    by_cases hA : attrsE n l = 0
    · exact attrsE_each hA
    · rw [if_neg hA] at h
      exact absurd h hA
theorem gone_not {n : List UInt8} (h : allowedN n = true) : goneN n = false := by
  cases hg : goneN n with
  | false => rfl
  | true =>
    unfold goneN at hg
    simp only [Bool.or_eq_true, beq_iff_eq] at hg
    rcases hg with (rfl | rfl) | rfl <;> exact absurd h (by decide)
theorem clean_same (base : List UInt8) : ∀ (l : List Nd) (ar : List (List UInt8)) (prev : Bool) (s : Lst), Rt ar prev l → AllSt l → AllTold base l → (s.text ≠ [] → prev = true) → (cleanIn base s l).done = s.done ++ l
  | [], ar, prev, s, _, _, _, _ => by rw [cleanIn, List.append_nil]
  | .mk n a t k :: r, ar, prev, s, h, hS, hT, hp => by
    rw [Rt] at h
    rw [AllSt] at hS
    rw [AllTold] at hT
    rw [cleanIn]
    by_cases hn : n = []
    · rw [if_pos hn] at h
      obtain ⟨h1, h2, h3, h4, hr⟩ := h
      subst hn h2 h3
      have hs0 : s.text = [] := by
        cases hq : s.text with
        | nil => rfl
        | cons c x => have := hp (by rw [hq]; simp); rw [h4] at this; simp at this
      rw [if_pos (show ([] : List UInt8).isEmpty = true from rfl), clean_same base r ar true _ hr hS.2.2 hT.2.2 (fun _ => rfl)]
      have e1 : s.done = s.all := by unfold Lst.done; rw [hs0]; rfl
      have e2 : (s.put (.mk [] [] t [])).done = s.all ++ [textN t] := by
        have e3 : s.put (.mk [] [] t []) = ⟨s.all, t⟩ := by
          unfold Lst.put
          rw [if_pos (show (Nd.mk [] [] t []).name.isEmpty = true from rfl), hs0]
          rfl
        rw [e3]
        unfold Lst.done
        rw [if_neg (by simpa using h1)]
      rw [e1, e2, List.append_assoc]
      rfl
    · rw [if_neg hn] at h
      obtain ⟨_, ht, _, _, _, _, hk, hr⟩ := h
      subst ht
      obtain ⟨ha, hat⟩ := stand_each hn hS.1
      have hkept : keptA base n a = a := kept_same hat (hT.1 hn)
      rw [if_neg (by simpa using hn), if_neg (by rw [gone_not ha]; simp), if_neg (by rw [ha]; simp), hkept, if_pos hS.1]
      have ek := clean_same base k _ _ ⟨[], []⟩ hk hS.2.1 hT.2.1 (fun h => absurd rfl h)
      have ek2 : (cleanIn base ⟨[], []⟩ k).done = k := ek
      rw [ek2, clean_same base r ar false _ hr hS.2.2 hT.2.2 (fun h => by unfold Lst.put at h; rw [if_neg (show ¬ (Nd.mk n a [] k).name.isEmpty = true from by simpa [Nd.name] using hn)] at h; exact absurd rfl h)]
      have e3 : (s.put (.mk n a [] k)).done = s.done ++ [.mk n a [] k] := by
        unfold Lst.put
        rw [if_neg (show ¬ (Nd.mk n a [] k).name.isEmpty = true from by simpa [Nd.name] using hn)]
        rfl
      rw [e3, List.append_assoc]
      rfl
theorem cleanL_same (base : List UInt8) (l : List Nd) (h : Rt [] false l) (hS : AllSt l) (hT : AllTold base l) : cleanL base l = l := by
  unfold cleanL
  rw [clean_same base l [] false _ h hS hT (fun h => absurd rfl h)]
  rfl
end Go.Proofs.YtlcljanibjdejaaGreat
namespace Go.Proofs.YtlcljanibjdejaaGreat
open Go.RowKit Go.Maps
set_option maxHeartbeats 2000000 in
theorem cleanLink_any (base s : List UInt8) (w : World) (hM : HasMax w) (hb : base.length ≤ 3000) (hs : s.length ≤ maxLen) :
    Calls Tryz.prog 323 #[.agg #[.string ⟨base.toArray⟩], .string ⟨s.toArray⟩] w fun e w' => e = .returned (.string ⟨(lightL base s).toArray⟩) ∧ Keeps [] w w' := by
  have hkA : Keeps [] w (w.alloc (.cells #[.string ⟨base.toArray⟩] 126)) := (Keeps.refl [] w).alloc _
  have hM1 := hM.keeps hkA List.not_mem_nil
  unfold lightL
  by_cases h3 : 3000 < s.length
  · rw [if_pos h3]
    have hc := hide (fun w => resolve_long ⟨base.toArray⟩ ⟨s.toArray⟩ w (by rw [str_size]; unfold maxLen; omega) (by rw [str_size]; exact hs) (.inr (by rw [str_size]; exact h3)))
    clear h3 hs
    go_enter Tryz.func323, Tryz.ntmps323
    go_wp2_with fail
    refine (hc.out _).mono ?_
    rintro e w1 ⟨rfl, h9⟩
    subst h9
    go_wp2_with fail
    go_ret
    exact ⟨rfl, hkA⟩
  · rw [if_neg h3]
    have hc := hide (resolve_any ⟨base.toArray⟩ ⟨s.toArray⟩ _ (by rw [str_size]; omega) (by rw [str_size]; omega) hM1)
    rw [str_list, str_list] at hc
    generalize resAns base s = A at *
    clear h3 hs hb
    cases A with
    | none =>
      simp only [ansO] at hc
      go_enter Tryz.func323, Tryz.ntmps323
      go_wp2_with fail
      refine hc.out.mono ?_
      rintro e w1 ⟨rfl, hk1⟩
      go_wp2_with fail
      go_ret
      exact ⟨rfl, hkA.trans hk1⟩
    | some x =>
      simp only [ansO] at hc
      go_enter Tryz.func323, Tryz.ntmps323
      go_wp2_with fail
      refine hc.out.mono ?_
      rintro e w1 ⟨rfl, hk1⟩
      go_wp2_with fail
      go_ret
      exact ⟨rfl, hkA.trans hk1⟩
theorem light_len {base s : List UInt8} (hs : s.length ≤ maxLen) : (lightL base s).length ≤ maxLen := by
  unfold lightL
  split
  · exact hs
  · cases h : resAns base s with
    | none => exact hs
    | some r => have := (res_again h).2.2; rw [Option.getD_some]; unfold maxLen; omega
theorem told_len {base : List UInt8} {a : Pair} (ha : a.2.length ≤ maxLen) : (toldA base a).2.length ≤ maxLen := by
  unfold toldA
  split
  · exact light_len ha
  · exact ha
theorem pair_set1 {w : World} {b : Nat} {n v : List UInt8} {t : TypeId} (h : w.heap[b]? = some (.cells #[.string ⟨n.toArray⟩, .string ⟨v.toArray⟩] t (0, 0))) (u : List UInt8) : (w.setCell ⟨b, 1, none⟩ (.string ⟨u.toArray⟩)).heap[b]? = some (.cells #[.string ⟨n.toArray⟩, .string ⟨u.toArray⟩] t (0, 0)) := by
  simp [World.setCell, Array.getElem?_modify, h]
theorem pair_set01 {w : World} {b : Nat} {x y : Value} {t : TypeId} (h : w.heap[b]? = some (.cells #[x, y] t (0, 0))) (u v : Value) : ((w.setCell ⟨b, 0, none⟩ u).setCell ⟨b, 1, none⟩ v).heap[b]? = some (.cells #[u, v] t (0, 0)) := by
  simp [World.setCell, Array.getElem?_modify, h]
set_option maxRecDepth 4000 in
set_option maxHeartbeats 4000000 in
theorem cleanAttr_any (base el : List UInt8) (a : Pair) (w : World) (hM : HasMax w) (hb : base.length ≤ 3000) (ha : a.2.length ≤ maxLen) :
    Calls Tryz.prog 297 #[.agg #[.string ⟨base.toArray⟩], .string ⟨el.toArray⟩, .agg #[.string ⟨a.1.toArray⟩, .string ⟨a.2.toArray⟩]] w fun e w' =>
      (attrE el (toldA base a) = 0 ∧ e = .returned (.agg #[.string ⟨(toldA base a).1.toArray⟩, .string ⟨(toldA base a).2.toArray⟩]) ∨ attrE el (toldA base a) ≠ 0 ∧ e = .panicked (stopped (attrE el (toldA base a)))) ∧ Keeps [] w w' := by
  have htl := told_len (base := base) ha
  obtain ⟨n, v⟩ := a
  simp only at ha
  have htn : (toldA base (n, v)).1 = n := told_name base (n, v)
  obtain ⟨u, hu⟩ : ∃ u, (toldA base (n, v)).2 = u := ⟨_, rfl⟩
  have hT : toldA base (n, v) = (n, u) := Prod.ext htn hu
  rw [hT] at htl ⊢
  have hUv : (linkN n = true → u = lightL base v) ∧ (linkN n = false → u = v) := by
    rw [← hu]
    unfold toldA
    constructor
    · intro h; rw [if_pos h]
    · intro h; rw [if_neg (by rw [h]; simp)]
  clear htn hu
  simp only at htl
  obtain ⟨W, hW⟩ : ∃ W, ((w.alloc (.cells #[.string ⟨base.toArray⟩] 126)).alloc (.cells #[.string ⟨n.toArray⟩, .string ⟨v.toArray⟩] 52)).alloc (.cells #[.string ⟨#[]⟩, .string ⟨#[]⟩] 52) = W := ⟨_, rfl⟩
  have hkW : Keeps [] w W := by rw [← hW]; exact (((Keeps.refl [] w).alloc _).alloc _).alloc _
  have s1 : (w.alloc (.cells #[.string ⟨base.toArray⟩] 126)).heap.size = w.heap.size + 1 := by simp
  have s2 : ((w.alloc (.cells #[.string ⟨base.toArray⟩] 126)).alloc (.cells #[.string ⟨n.toArray⟩, .string ⟨v.toArray⟩] 52)).heap.size = w.heap.size + 1 + 1 := by simp
  have hb0 : W.heap[w.heap.size]? = some (.cells #[.string ⟨base.toArray⟩] 126 (0, 0)) := by
    rw [← hW, Below.heap_alloc _ _ _ (by rw [s2]; omega), Below.heap_alloc _ _ _ (by rw [s1]; omega)]
    exact heap_alloc_new w _
  have hb1 : W.heap[w.heap.size + 1]? = some (.cells #[.string ⟨n.toArray⟩, .string ⟨v.toArray⟩] 52 (0, 0)) := by
    rw [← hW, Below.heap_alloc _ _ _ (by rw [s2]; omega), ← s1]
    exact heap_alloc_new _ _
  have hb2 : W.heap[w.heap.size + 1 + 1]? = some (.cells #[.string ⟨#[]⟩, .string ⟨#[]⟩] 52 (0, 0)) := by
    rw [← hW, ← s2]
    exact heap_alloc_new _ _
  clear s1 s2
  have hM1 := hide (hM.keeps hkW List.not_mem_nil)
  have hln := hide (fun w => isLink_any n w)
  have c00 : W.cell? ⟨w.heap.size, 0, none⟩ = some (.string ⟨base.toArray⟩) := cell_blk hb0 0
  have c10 : W.cell? ⟨w.heap.size + 1, 0, none⟩ = some (.string ⟨n.toArray⟩) := cell_blk hb1 0
  have c11 : W.cell? ⟨w.heap.size + 1, 1, none⟩ = some (.string ⟨v.toArray⟩) := cell_blk hb1 1
  have HB1 := hide hb1
  have HB2 := hide hb2
  clear hb0 hb1 hb2
  have hres : ∀ (tmps : Array Value) (w3 : World), tmps.getD 6 undef = .pointer (some ⟨w.heap.size + 1 + 1, 0, none⟩) → w3.heap[w.heap.size + 1 + 1]? = some (.cells #[.string ⟨n.toArray⟩, .string ⟨u.toArray⟩] 52 (0, 0)) → (results Tryz.f297 tmps).run Tryz.prog w3 = .ok (.agg #[.string ⟨n.toArray⟩, .string ⟨u.toArray⟩]) w3 := fun tmps w3 hp hg => results_cell_row (P := Tryz.prog) rfl tmps w3 _ 52 _ (0, 0) _ hp hg Tryz.underlying52 rfl (by kernel_rfl)
  cases hl : linkN n
  · have huv := hUv.2 hl
    subst huv
    rw [hl] at hln
    have hmu := hide (attrMust_any el (n, u) W hM1.out htl)
    generalize attrE el (n, u) = E at *
    go_enter Tryz.func297, Tryz.ntmps297
    go_wp2_with fail
    refine (hln.out _).mono ?_
    rintro e w1 ⟨rfl, h9⟩
    obtain rfl : W = w1 := h9.symm
    go_wp2_with fail
    refine hmu.out.mono ?_
    rintro e w1 ⟨⟨hE, rfl⟩ | ⟨hE, rfl⟩, hk1⟩
    · have d1 := (hk1.block _ (lt_of_block HB1.out) List.not_mem_nil).trans HB1.out
      have d2 := (hk1.block _ (lt_of_block HB2.out) List.not_mem_nil).trans HB2.out
      have e10 : w1.cell? ⟨w.heap.size + 1, 0, none⟩ = some (.string ⟨n.toArray⟩) := cell_blk d1 0
      have e11 : w1.cell? ⟨w.heap.size + 1, 1, none⟩ = some (.string ⟨u.toArray⟩) := cell_blk d1 1
      have e20 : w1.cell? ⟨w.heap.size + 1 + 1, 0, none⟩ = some (.string ⟨#[]⟩) := cell_blk d2 0
      have e21 : w1.cell? ⟨w.heap.size + 1 + 1, 1, none⟩ = some (.string ⟨#[]⟩) := cell_blk d2 1
      have f20 : w1.frozen? ⟨w.heap.size + 1 + 1, 0, none⟩ = false := free_blk d2 0
      have f21 : w1.frozen? ⟨w.heap.size + 1 + 1, 1, none⟩ = false := free_blk d2 1
      clear c00 c10 c11
      go_wp2_with fail
      exact ⟨rfl, _, hres _ _ rfl (pair_set01 d2 _ _), .inl ⟨hE, rfl⟩, keeps_on (hkW.trans hk1) (((Keeps.refl [w.heap.size + 1 + 1] w1).setCell (p := ⟨w.heap.size + 1 + 1, 0, none⟩) (.inl (by simp)) _).setCell (p := ⟨w.heap.size + 1 + 1, 1, none⟩) (.inl (by simp)) _) (fun g hg hlt => by simp at hg; omega)⟩
    · exact ⟨rfl, .inr ⟨hE, rfl⟩, hkW.trans hk1⟩
  · have huv := hUv.1 hl
    rw [hl] at hln
    have hlk := hide (cleanLink_any base v W hM1.out hb ha)
    rw [← huv] at hlk
    have hmu := hide (fun W2 hM2 => attrMust_any el (n, u) W2 hM2 htl)
    generalize attrE el (n, u) = E at *
    clear huv hUv hT
    go_enter Tryz.func297, Tryz.ntmps297
    go_wp2_with fail
    refine (hln.out _).mono ?_
    rintro e w1 ⟨rfl, h9⟩
    obtain rfl : W = w1 := h9.symm
    go_wp2_with fail
    refine hlk.out.mono ?_
    rintro e w1 ⟨rfl, hk1⟩
    have d1 := (hk1.block _ (lt_of_block HB1.out) List.not_mem_nil).trans HB1.out
    have d2 := (hk1.block _ (lt_of_block HB2.out) List.not_mem_nil).trans HB2.out
    have e11 : w1.cell? ⟨w.heap.size + 1, 1, none⟩ = some (.string ⟨v.toArray⟩) := cell_blk d1 1
    have f11 : w1.frozen? ⟨w.heap.size + 1, 1, none⟩ = false := free_blk d1 1
    have hks : Keeps [w.heap.size + 1] w1 (w1.setCell ⟨w.heap.size + 1, 1, none⟩ (.string ⟨u.toArray⟩)) := (Keeps.refl [w.heap.size + 1] w1).setCell (.inl (by simp)) _
    obtain ⟨W2, hW2⟩ : ∃ W2, w1.setCell ⟨w.heap.size + 1, 1, none⟩ (.string ⟨u.toArray⟩) = W2 := ⟨_, rfl⟩
    have hM2 : HasMax W2 := by rw [← hW2]; exact (hM1.out.keeps hk1 List.not_mem_nil).keeps hks (fun h => by simp at h)
    have p1 := pair_set1 d1 u
    have p2 := (hks.block _ (lt_of_block d2) (by simp)).trans d2
    rw [hW2] at p1 p2 hks
    have e10' : W2.cell? ⟨w.heap.size + 1, 0, none⟩ = some (.string ⟨n.toArray⟩) := cell_blk p1 0
    have e11' : W2.cell? ⟨w.heap.size + 1, 1, none⟩ = some (.string ⟨u.toArray⟩) := cell_blk p1 1
    clear c00 c10 c11
    go_wp2_with fail
    refine (hmu.out _ hM2).mono ?_
    rintro e w3 ⟨⟨hE, rfl⟩ | ⟨hE, rfl⟩, hk3⟩
    · have q1 := (hk3.block _ (lt_of_block p1) List.not_mem_nil).trans p1
      have q2 := (hk3.block _ (lt_of_block p2) List.not_mem_nil).trans p2
      have e10 : w3.cell? ⟨w.heap.size + 1, 0, none⟩ = some (.string ⟨n.toArray⟩) := cell_blk q1 0
      have e11 : w3.cell? ⟨w.heap.size + 1, 1, none⟩ = some (.string ⟨u.toArray⟩) := cell_blk q1 1
      have e20 : w3.cell? ⟨w.heap.size + 1 + 1, 0, none⟩ = some (.string ⟨#[]⟩) := cell_blk q2 0
      have e21 : w3.cell? ⟨w.heap.size + 1 + 1, 1, none⟩ = some (.string ⟨#[]⟩) := cell_blk q2 1
      have f20 : w3.frozen? ⟨w.heap.size + 1 + 1, 0, none⟩ = false := free_blk q2 0
      have f21 : w3.frozen? ⟨w.heap.size + 1 + 1, 1, none⟩ = false := free_blk q2 1
      clear e10' e11' f11
      go_wp2_with fail
      exact ⟨rfl, _, hres _ _ rfl (pair_set01 q2 _ _), .inl ⟨hE, rfl⟩, keeps_on (keeps_on (hkW.trans hk1) (hks.trans (hk3.to (by simp))) (fun g hg hlt => by simp at hg; omega)) (((Keeps.refl [w.heap.size + 1 + 1] w3).setCell (p := ⟨w.heap.size + 1 + 1, 0, none⟩) (.inl (by simp)) _).setCell (p := ⟨w.heap.size + 1 + 1, 1, none⟩) (.inl (by simp)) _) (fun g hg hlt => by simp at hg; omega)⟩
    · exact ⟨rfl, .inr ⟨hE, rfl⟩, keeps_on (hkW.trans hk1) (hks.trans (hk3.to (by simp))) (fun g hg hlt => by simp at hg; omega)⟩
structure Kp (w : World) (B q : Nat) (n : List UInt8) (av : Value) (kl : List Pair) : Prop where
  blk : w.heap[q]? = some (.cells #[.string ⟨n.toArray⟩, av, .string ⟨#[]⟩, .slice none 0 0] 45 (0, 0))
  row : w.ownsRow B 52 2 av kl.length (pairCells kl)
theorem Kp.ne {w : World} {B q : Nat} {n : List UInt8} {av : Value} {kl : List Pair} (h : Kp w B q n av kl) : q ∉ av.ownBlock.toList := fun hm => block_ne h.row h.blk (by decide) (by simpa using hm)
theorem Kp.keeps {w w' : World} {B q : Nat} {n : List UInt8} {av : Value} {kl : List Pair} {S : List Nat} (h : Kp w B q n av kl) (hk : Keeps S w w') (hq : q ∉ S) (ha : ∀ g, av.ownBlock = some g → g ∉ S) : Kp w' B q n av kl :=
  ⟨by rw [hk.block q (lt_of_block h.blk) hq]; exact h.blk, hk.owns h.row ha⟩
theorem Kp.grow {w w' : World} {B q : Nat} {n : List UInt8} {av : Value} {kl : List Pair} (h : Kp w B q n av kl) (hk : Keeps av.ownBlock.toList w w') {av' : Value} {p : Pair} (ho : w'.ownsRow B 52 2 av' (kl.length + 1) (pairCells kl ++ [.string ⟨p.1.toArray⟩, .string ⟨p.2.toArray⟩])) :
    Kp (w'.setCell ⟨q, 1, none⟩ av') B q n av' (kl ++ [p]) := by
  have hb : w'.heap[q]? = some (.cells #[.string ⟨n.toArray⟩, av, .string ⟨#[]⟩, .slice none 0 0] 45 (0, 0)) := (hk.block q (lt_of_block h.blk) h.ne).trans h.blk
  refine ⟨?_, ?_⟩
  · simp [World.setCell, Array.getElem?_modify, hb]
  · have e : pairCells (kl ++ [p]) = pairCells kl ++ [.string ⟨p.1.toArray⟩, .string ⟨p.2.toArray⟩] := by simp [pairCells]
    rw [e, List.length_append, List.length_singleton]
    exact set_row ho (block_ne ho hb (by decide)) _
theorem enters297 : Enters 297 := enters_of Tryz.func297 (by kernel_rfl) (by kernel_rfl)
set_option maxRecDepth 4000 in
set_option maxHeartbeats 8000000 in
theorem keep1_yes (base n : List UInt8) (a : Pair) (B q cb nb ab : Nat) (av : Value) (kl : List Pair) (w : World) (hM : HasMax w) (hb : base.length ≤ 3000) (ha : a.2.length ≤ maxLen) (hl : kl.length ≤ 1000000) (hB : B ≤ w.heap.size)
    (hK : Kp w B q n av kl) (hcb : w.heap[cb]? = some (.cells #[.string ⟨base.toArray⟩] 126 (0, 0))) (hE : attrE n (toldA base a) = 0) (hnb : w.cell? ⟨nb, 0, none⟩ = some (.string ⟨n.toArray⟩)) (hab : w.heap[ab]? = some (.cells #[.string ⟨a.1.toArray⟩, .string ⟨a.2.toArray⟩] 52 (0, 0))) :
    Calls Tryz.prog 296 #[.pointer (some ⟨q, 0, none⟩), .pointer (some ⟨cb, 0, none⟩), .pointer (some ⟨nb, 0, none⟩), .pointer (some ⟨ab, 0, none⟩)] w fun e w' =>
      (e = .returned (.tuple #[]) ∧ ∃ av', Kp w' B q n av' (kl ++ [toldA base a]) ∧ (av'.ownBlock = av.ownBlock ∨ ∃ g, av'.ownBlock = some g ∧ w.heap.size ≤ g)) ∧ Keeps (q :: av.ownBlock.toList) w w' := by
  have hca := hide (fun w (hM : HasMax w) => cleanAttr_any base n a w hM hb ha)
  generalize toldA base a = p at *
  generalize attrE n p = E at *
  obtain ⟨o, c, hav⟩ := row_form hK.row
  subst hav
  obtain ⟨i0, hi, hz0, hz1, hz2⟩ := info_parts info88
  have hqA := hK.ne
  have c1 : w.cell? ⟨q, 1, none⟩ = some (.slice o kl.length c) := cell_blk hK.blk 1
  have c0 : w.cell? ⟨cb, 0, none⟩ = some (.string ⟨base.toArray⟩) := cell_blk hcb 0
  have a0 : w.cell? ⟨ab, 0, none⟩ = some (.string ⟨a.1.toArray⟩) := cell_blk hab 0
  have a1 : w.cell? ⟨ab, 1, none⟩ = some (.string ⟨a.2.toArray⟩) := cell_blk hab 1
  subst hE
  have hcy := hide (fun w (hM : HasMax w) => (hca.out w hM).mono (R' := fun e w' => e = .returned (.agg #[.string ⟨p.1.toArray⟩, .string ⟨p.2.toArray⟩]) ∧ Keeps [] w w') (fun e w' h => ⟨h.1.elim (fun h => h.2) (fun h => absurd rfl h.1), h.2⟩))
  clear hca
  go_enter Tryz.func296, Tryz.ntmps296
  go_upto_region 0 with fail
  go_region_law (first
    | (refine step_call rfl 297 _ _ rfl enters297 #[.agg #[.string ⟨base.toArray⟩], .string ⟨n.toArray⟩, .agg #[.string ⟨a.1.toArray⟩, .string ⟨a.2.toArray⟩]] (by first | (simp [Act.eval]; done) | (simp [Act.eval, Act.put]; done) | kernel_rfl) (hcy.out _ (hM.keeps ((Keeps.refl [] w).drew) List.not_mem_nil)) ?_; rintro e w2 ⟨rfl, hk2⟩; refine ⟨_, rfl, ?_⟩; have hk2' : Keeps [] w w2 := keeps_drew hk2; have hK2 := hK.keeps hk2' List.not_mem_nil (fun _ _ => List.not_mem_nil); have d1 : w2.cell? ⟨q, 1, none⟩ = some (.slice o kl.length c) := cell_blk hK2.blk 1; have d1a : ∀ o', (w2.alloc o').cell? ⟨q, 1, none⟩ = some (.slice o kl.length c) := fun o' => (cell_past (a := ⟨q, 1, none⟩) (lt_of_block hK2.blk) o').trans d1)
    | (refine step_own_at rfl _ _ 43 rfl B 52 i0 _ 2 32 Tryz.underlying43 hi hz0 hz1 hz2 (by kernel_rfl) (by decide) (.slice o kl.length c) kl.length (pairCells kl) rfl (hK2.row.alloc _) ⟨w2.heap.size, 0, none⟩ 1 1 [.string ⟨p.1.toArray⟩, .string ⟨p.2.toArray⟩] rfl rfl (lit_cells w2 _ 52) (by intro u hu; simp at hu; rcases hu with rfl | rfl <;> rfl) (by unfold maxLen; omega) (by omega) (Nat.le_trans hB (Nat.le_trans hk2'.size (by simp))) ?_; intro v3 w3 ho3 hg3 hw3; obtain ⟨o3, c3, hv3⟩ := row_form ho3; subst hv3; have hk3 : Keeps (Value.slice o kl.length c).ownBlock.toList w2 w3 := ((Keeps.refl _ w2).alloc _).grown hg3 (fun i e => .inl (by simp [e])); have hb3 := (hk3.block q (lt_of_block hK2.blk) hK2.ne).trans hK2.blk; have d3 : w3.cell? ⟨q, 1, none⟩ = some (.slice o kl.length c) := cell_blk hb3 1; have f3 : w3.frozen? ⟨q, 1, none⟩ = false := free_blk hb3 1))
  all_goals go_wp2
  all_goals go_end0
  all_goals have hfin := hK2.grow (p := p) hk3 ho3
  all_goals have hkq : Keeps [q] w3 (w3.setCell ⟨q, 1, none⟩ (.slice o3 (kl.length + 1) c3)) := (Keeps.refl [q] w3).setCell (.inl (by simp)) _
  all_goals refine ⟨⟨rfl, _, hfin, hw3.imp id (fun h => ⟨_, h, Nat.le_trans hk2'.size (by simp)⟩)⟩, keeps_on (keeps_on (hk2'.to (by simp)) hk3 (fun g hg hlt => by simp at hg ⊢; exact .inr hg)) hkq (fun g hg hlt => by simp at hg ⊢; exact .inl hg)⟩
set_option maxRecDepth 4000 in
set_option maxHeartbeats 8000000 in
theorem keep1_no (base n : List UInt8) (a : Pair) (B q cb nb ab : Nat) (av : Value) (kl : List Pair) (w : World) (hM : HasMax w) (hb : base.length ≤ 3000) (ha : a.2.length ≤ maxLen)
    (hK : Kp w B q n av kl) (hcb : w.heap[cb]? = some (.cells #[.string ⟨base.toArray⟩] 126 (0, 0))) (hE : attrE n (toldA base a) ≠ 0) (hnb : w.cell? ⟨nb, 0, none⟩ = some (.string ⟨n.toArray⟩)) (hab : w.heap[ab]? = some (.cells #[.string ⟨a.1.toArray⟩, .string ⟨a.2.toArray⟩] 52 (0, 0))) :
    Calls Tryz.prog 296 #[.pointer (some ⟨q, 0, none⟩), .pointer (some ⟨cb, 0, none⟩), .pointer (some ⟨nb, 0, none⟩), .pointer (some ⟨ab, 0, none⟩)] w fun e w' =>
      (e = .panicked (stopped (attrE n (toldA base a))) ∧ Kp w' B q n av kl) ∧ Keeps (q :: av.ownBlock.toList) w w' := by
  have hca := hide (fun w (hM : HasMax w) => cleanAttr_any base n a w hM hb ha)
  generalize toldA base a = p at *
  generalize attrE n p = E at *
  obtain ⟨o, c, hav⟩ := row_form hK.row
  subst hav
  have c1 : w.cell? ⟨q, 1, none⟩ = some (.slice o kl.length c) := cell_blk hK.blk 1
  have c0 : w.cell? ⟨cb, 0, none⟩ = some (.string ⟨base.toArray⟩) := cell_blk hcb 0
  have a0 : w.cell? ⟨ab, 0, none⟩ = some (.string ⟨a.1.toArray⟩) := cell_blk hab 0
  have a1 : w.cell? ⟨ab, 1, none⟩ = some (.string ⟨a.2.toArray⟩) := cell_blk hab 1
  have hcn := hide (fun w (hM : HasMax w) => (hca.out w hM).mono (R' := fun e w' => e = .panicked (stopped E) ∧ Keeps [] w w') (fun e w' h => ⟨h.1.elim (fun h => absurd h.1 hE) (fun h => h.2), h.2⟩))
  clear hca
  go_enter Tryz.func296, Tryz.ntmps296
  go_upto_region 0 with fail
  go_region_dies
  all_goals refine (hcn.out _ (hM.keeps ((Keeps.refl [] w).drew) List.not_mem_nil)).mono ?_
  all_goals rintro e w2 ⟨rfl, hk2⟩
  all_goals have hk2' : Keeps [] w w2 := keeps_drew hk2
  all_goals have hK2 := hK.keeps hk2' List.not_mem_nil (fun _ _ => List.not_mem_nil)
  all_goals exact ⟨rfl, ⟨rfl, hK2⟩, hk2'.to (by simp)⟩
theorem LsT.ns {w : World} {B r : Nat} {s : Lst} {T : List Nat} (h : LsT w B r s T) : ∃ allv textv, w.heap[r]? = some (.cells #[allv, textv] 199 (0, 0)) ∧ (∃ o n c, allv = .slice o n c) ∧ Ns w (fun g => B ≤ g) allv s.all := by
  obtain ⟨allv, textv, l, rfl, e2, h⟩ := h
  obtain ⟨o, c, ho⟩ := row_form h.all
  refine ⟨allv, textv, h.blk, ⟨o, _, c, ho⟩, .mk _ l _ e2 (LiesP.of_row h.all (fun g hg => (h.all.lt g hg).1)) (fun p hp => (h.done p hp).1.mono (fun _ _ hg => hg.1)) (fun p hp => (h.done p hp).2.mono (fun _ _ hg => hg.1))⟩
set_option maxHeartbeats 1000000 in
theorem allL_any (B r : Nat) (s : Lst) (T : List Nat) (w : World) (h : LsT w B r s T) (hw : s.weight ≤ 4000000) :
    Calls Tryz.prog 180 #[.pointer (some ⟨r, 0, none⟩)] w fun e w' => ∃ v, e = .returned v ∧ Ns w' (fun g => B ≤ g) v s.done ∧ Keeps T w w' := by
  have het := hide (endTextL_any B r s T w h hw)
  clear h
  go_enter Tryz.func180, Tryz.ntmps180
  go_wp2_with fail
  refine het.out.mono ?_
  rintro e w1 ⟨rfl, T1, h1, hs1⟩
  obtain ⟨allv, textv, hb, ⟨o, n, c, rfl⟩, hN⟩ := h1.ns
  have c0 : w1.cell? ⟨r, 0, none⟩ = some (.slice o n c) := cell_blk hb 0
  go_wp2_with fail
  go_ret
  exact ⟨_, rfl, hN, hs1.1⟩
theorem start_ls (w : World) (h0 : 0 < w.heap.size) : LsT (w.alloc (.cells #[.slice none 0 0, .slice none 0 0] 199)) w.heap.size w.heap.size ⟨[], []⟩ (touchL w.heap.size (.slice none 0 0) (.slice none 0 0)) :=
  ⟨.slice none 0 0, .slice none 0 0, [], rfl, rfl, heap_alloc_new w _, World.ownsRow_nil _ _ _ _, World.ownsRow_nil _ _ _ _, by simp, Nat.le_refl _, h0⟩
theorem cell_int {w : World} {g o pe : Nat} {k : Int} {t : List UInt8} {ty : TypeId} (hp : w.heap[pe]? = some (.cells #[.int .i64 k] ty (0, 0))) (h : w.cell? ⟨g, o, none⟩ = some (.string ⟨t.toArray⟩)) : g ≠ pe := by
  rintro rfl
  unfold World.cell? at h
  simp only at h
  rw [hp] at h
  cases o with
  | zero => simp at h
  | succ o => simp at h
theorem LiesP.avoid {w : World} {P : Nat → Prop} {v : Value} {n z : Nat} {xs : List Value} (h : LiesP w P v n z xs) (h0 : 0 < n → ∃ t : List UInt8, xs[0]? = some (.string ⟨t.toArray⟩)) {pe : Nat} {k : Int} {ty : TypeId} (hp : w.heap[pe]? = some (.cells #[.int .i64 k] ty (0, 0))) : LiesP w (fun g => P g ∧ g ≠ pe) v n z xs := by
  refine ⟨h.1, ?_⟩
  rcases h.2 with h1 | ⟨g, o, c, rfl, h1, h2, h3, h4, h5⟩
  · exact .inl h1
  · by_cases hn : n = 0
    · subst hn
      exact .inl ⟨rfl, _, c, rfl, h2⟩
    · obtain ⟨t, ht⟩ := h0 (by omega)
      exact .inr ⟨g, o, c, rfl, h1, h2, h3, ⟨h4, cell_int hp (h5 0 _ ht)⟩, h5⟩
theorem pairs_first (l : List Pair) : 0 < l.length → ∃ t : List UInt8, (pairCells l)[0]? = some (.string ⟨t.toArray⟩) := fun h => ⟨_, pair_at0 l 0 h⟩
theorem pns_first (l : List Pn) : 0 < l.length → ∃ t : List UInt8, (pnsCells l)[0]? = some (.string ⟨t.toArray⟩) := fun h => by
  have := pn_at l 0 0 h (by omega)
  exact ⟨_, this.trans rfl⟩
theorem Ns.avoid {w : World} {P : Nat → Prop} {v : Value} {ns : List Nd} (h : Ns w P v ns) {pe : Nat} {k : Int} {ty : TypeId} (hp : w.heap[pe]? = some (.cells #[.int .i64 k] ty (0, 0))) : Ns w (fun g => P g ∧ g ≠ pe) v ns := by
  induction h with
  | mk v l ns e h ha _ ih => exact .mk v l ns e (h.avoid (pns_first l) hp) (fun p hp' => (ha p hp').avoid (pairs_first _) hp) ih
theorem LiesP.keepsInt {w w' : World} {P : Nat → Prop} {n : Nat} {v : Value} {l : List Pair} (h : LiesP w P v n 2 (pairCells l)) (hn : n = l.length) {pe : Nat} {k : Int} {ty : TypeId} (hp : w.heap[pe]? = some (.cells #[.int .i64 k] ty (0, 0))) (hk : Keeps [pe] w w') : LiesP w' P v n 2 (pairCells l) :=
  ((h.avoid (fun h0 => pairs_first l (by omega)) hp).keeps hk (fun g hg => by simpa using hg.2)).mono (fun _ _ hg => hg.1)
theorem Ns.keepsInt {w w' : World} {P : Nat → Prop} {v : Value} {ns : List Nd} (h : Ns w P v ns) {pe : Nat} {k : Int} {ty : TypeId} (hp : w.heap[pe]? = some (.cells #[.int .i64 k] ty (0, 0))) (hk : Keeps [pe] w w') : Ns w' P v ns :=
  ((h.avoid hp).keeps hk (fun g hg => by simpa using hg.2)).mono (fun _ _ hg => hg.1)
theorem LsT.keepsInt {w w' : World} {B r : Nat} {s : Lst} {T : List Nat} (h : LsT w B r s T) {pe : Nat} {k : Int} (hp : w.heap[pe]? = some (.cells #[.int .i64 k] 22 (0, 0))) (hk : Keeps [pe] w w') : LsT w' B r s T := by
  obtain ⟨allv, textv, l, rfl, e2, h⟩ := h
  have hr : r ≠ pe := fun e => by
    have := h.blk
    rw [e, hp] at this
    simp at this
  refine ⟨allv, textv, l, rfl, e2, ⟨by rw [hk.block r h.lt (by simpa using hr)]; exact h.blk, hk.owns h.all (fun g hg hm => by simp at hm; subst hm; exact block_ne h.all hp (by decide) hg), hk.owns h.txt (fun g hg hm => by simp at hm; subst hm; exact block_ne h.txt hp (by decide) hg), fun q hq => ⟨(h.done q hq).1.keepsInt rfl hp hk, (h.done q hq).2.keepsInt hp hk⟩, h.hr, h.pos⟩⟩
theorem enters296 : Enters 296 := enters_of Tryz.func296 (by kernel_rfl) (by kernel_rfl)
theorem keep1_caught (base n : List UInt8) (a : Pair) (B q cb nb ab : Nat) (av : Value) (kl : List Pair) (w : World) (hM : HasMax w) (hb : base.length ≤ 3000) (ha : a.2.length ≤ maxLen) (hl : kl.length ≤ 1000000) (hB : B ≤ w.heap.size)
    (hK : Kp w B q n av kl) (hcb : w.heap[cb]? = some (.cells #[.string ⟨base.toArray⟩] 126 (0, 0))) (hnb : w.cell? ⟨nb, 0, none⟩ = some (.string ⟨n.toArray⟩)) (hab : w.heap[ab]? = some (.cells #[.string ⟨a.1.toArray⟩, .string ⟨a.2.toArray⟩] 52 (0, 0))) :
    Calls Tryz.prog 64 #[.func (.func 296) #[] #[.pointer (some ⟨q, 0, none⟩), .pointer (some ⟨cb, 0, none⟩), .pointer (some ⟨nb, 0, none⟩), .pointer (some ⟨ab, 0, none⟩)]] w fun e w' =>
      (∃ x, e = .returned (.int .i64 x)) ∧ (∃ av', Kp w' B q n av' (kl ++ (if attrE n (toldA base a) = 0 then [toldA base a] else []))) ∧ Keeps (q :: av.ownBlock.toList) w w' := by
  have hql := lt_of_block hK.blk
  have hav : ∀ g, av.ownBlock = some g → g < w.heap.size := fun g hg => (hK.row.lt g hg).2
  have hc := caught_any 296 #[.pointer (some ⟨q, 0, none⟩), .pointer (some ⟨cb, 0, none⟩), .pointer (some ⟨nb, 0, none⟩), .pointer (some ⟨ab, 0, none⟩)]
    (fun w2 => attrE n (toldA base a) = 0 ∧ ∃ av', Kp w2 B q n av' (kl ++ [toldA base a]) ∧ ∀ g, av'.ownBlock = some g → g ≠ w.heap.size) (fun _ w2 => attrE n (toldA base a) ≠ 0 ∧ Kp w2 B q n av kl) (q :: av.ownBlock.toList) w enters296
    (fun i hi => by
      rcases List.mem_cons.1 hi with rfl | hi
      · exact hql
      · exact hav i (by simpa using hi))
    (fun w2 w3 _ h hk => ⟨h.1, by
      obtain ⟨av', h1, h2⟩ := h.2
      exact ⟨av', h1.keeps hk (by simp; omega) (fun g hg hm => h2 g hg (by simpa using hm)), h2⟩⟩)
    (fun x w2 w3 _ h hk => ⟨h.1, h.2.keeps hk (by simp; omega) (fun g hg hm => by have := hav g hg; simp at hm; omega)⟩)
    (fun w1 hk hsz => by
      have n0 : ∀ g, g ∉ ([] : List Nat) := fun _ => List.not_mem_nil
      have hK1 := hK.keeps hk (n0 _) (fun _ _ => n0 _)
      have hc1 := (hk.block _ (lt_of_block hcb) (n0 _)).trans hcb
      have ha1 := (hk.block _ (lt_of_block hab) (n0 _)).trans hab
      have hn1 := cell_keeps hk hnb
      have hM1 := hM.keeps hk (n0 _)
      by_cases hE : attrE n (toldA base a) = 0
      · refine (keep1_yes base n a B q cb nb ab av kl w1 hM1 hb ha hl (Nat.le_trans hB hk.size) hK1 hc1 hE hn1 ha1).mono ?_
        rintro e w2 ⟨⟨rfl, av', h1, h2⟩, h3⟩
        refine ⟨.inl ⟨rfl, hE, av', h1, fun g hg => ?_⟩, h3⟩
        rcases h2 with h2 | ⟨g', h2, h4⟩
        · have := hav g (h2 ▸ hg); omega
        · rw [h2] at hg; simp at hg; omega
      · refine (keep1_no base n a B q cb nb ab av kl w1 hM1 hb ha hK1 hc1 hE hn1 ha1).mono ?_
        rintro e w2 ⟨⟨rfl, h1⟩, h3⟩
        exact ⟨.inr ⟨_, rfl, hE, h1⟩, h3⟩)
  refine hc.mono ?_
  rintro e w' ⟨⟨rfl, hE, av', h1, _⟩ | ⟨x, rfl, hE, h1⟩, hk⟩
  · exact ⟨⟨_, rfl⟩, ⟨av', by rw [if_pos hE]; exact h1⟩, hk⟩
  · exact ⟨⟨_, rfl⟩, ⟨av, by rw [if_neg hE, List.append_nil]; exact h1⟩, hk⟩
theorem four_set {w : World} {b : Nat} {x y z t : Value} {ty : TypeId} (h : w.heap[b]? = some (.cells #[x, y, z, t] ty (0, 0))) (u0 u1 u2 u3 : Value) : ((((w.setCell ⟨b, 0, none⟩ u0).setCell ⟨b, 1, none⟩ u1).setCell ⟨b, 2, none⟩ u2).setCell ⟨b, 3, none⟩ u3).heap[b]? = some (.cells #[u0, u1, u2, u3] ty (0, 0)) := by
  simp [World.setCell, Array.getElem?_modify, h]
theorem kept_drop (base n : List UInt8) (l : List Pair) (k : Nat) (hk : k < l.length) : keptA base n (l.drop k) = (if attrE n (toldA base l[k]) = 0 then [toldA base l[k]] else []) ++ keptA base n (l.drop (k + 1)) := by
  rw [List.drop_eq_getElem_cons hk]
  unfold keptA
  rw [List.map_cons, List.filter_cons]
  by_cases h : attrE n (toldA base l[k]) = 0
  · simp [h]
  · simp [h]
theorem kept_le (base n : List UInt8) (l : List Pair) : (keptA base n l).length ≤ l.length := by
  unfold keptA
  exact Nat.le_trans (List.length_filter_le _ _) (by simp)
theorem kept_len {base n : List UInt8} {l : List Pair} (h : ∀ p ∈ l, p.2.length ≤ maxLen) : ∀ p ∈ keptA base n l, p.2.length ≤ maxLen := by
  intro p hp
  obtain ⟨b, hb, rfl⟩ := List.mem_map.1 (List.mem_filter.1 hp).1
  exact told_len (h b hb)
set_option maxRecDepth 8000 in
set_option maxHeartbeats 8000000 in
theorem element_any (base n tx : List UInt8) (l : List Pair) (ks : List Nd) (ao ko : Option Addr) (an ac kn kc : Nat) (P : Nat → Prop) (w : World) (hM : HasMax w) (hb : base.length ≤ 3000) (hll : l.length ≤ 1000000) (hv : LiesP w P (.slice ao an ac) l.length 2 (pairCells l)) (hlen : ∀ p ∈ l, p.2.length ≤ maxLen)
    (hcl : ∀ w1, Keeps [] w w1 → Calls Tryz.prog 91 #[.agg #[.string ⟨base.toArray⟩], .slice ko kn kc] w1 fun e w' => ∃ o m c, e = .returned (.slice o m c) ∧ Ns w' (fun g => w1.heap.size ≤ g) (.slice o m c) (cleanL base ks) ∧ Keeps [] w1 w') :
    Calls Tryz.prog 249 #[.agg #[.string ⟨base.toArray⟩], .agg #[.string ⟨n.toArray⟩, .slice ao an ac, .string ⟨tx.toArray⟩, .slice ko kn kc]] w fun e w' =>
      (standE n (keptA base n l) = 0 ∧ (∃ o m c o' m' c', e = .returned (.agg #[.string ⟨n.toArray⟩, .slice o m c, .string ⟨#[]⟩, .slice o' m' c']) ∧ LiesP w' (fun g => w.heap.size ≤ g) (.slice o m c) (keptA base n l).length 2 (pairCells (keptA base n l)) ∧ Ns w' (fun g => w.heap.size ≤ g) (.slice o' m' c') (cleanL base ks)) ∨
        standE n (keptA base n l) ≠ 0 ∧ e = .panicked (stopped (standE n (keptA base n l)))) ∧ Keeps [] w w' := by
  have hkl := kept_le base n l
  have hkn := kept_len (base := base) (n := n) hlen
  obtain ⟨KL, hKL⟩ : ∃ KL, keptA base n l = KL := ⟨_, rfl⟩
  rw [hKL] at hkl hkn ⊢
  have HKL := hide hKL
  clear hKL
  obtain ⟨o, c, hvv, h1, h2⟩ := hv.lies.form
  simp only [Value.slice.injEq] at hvv
  obtain ⟨rfl, rfl, rfl⟩ := hvv
  have HV := hide hv.lies
  have HL := hide hlen
  have HC := hide hcl
  have HN := hide hkn
  clear hv hlen hcl hkn
  unfold maxLen at h2
  obtain ⟨W, hW⟩ : ∃ W, (((w.alloc (.cells #[.string ⟨base.toArray⟩] 126)).alloc (.cells #[.string ⟨n.toArray⟩, .slice ao l.length ac, .string ⟨tx.toArray⟩, .slice ko kn kc] 45)).alloc (.cells #[.string ⟨#[]⟩, .slice none 0 0, .string ⟨#[]⟩, .slice none 0 0] 45)).alloc (.cells #[.string ⟨n.toArray⟩, .slice none 0 0, .string ⟨#[]⟩, .slice none 0 0] 45) = W := ⟨_, rfl⟩
  have hkW : Keeps [] w W := by rw [← hW]; exact ((((Keeps.refl [] w).alloc _).alloc _).alloc _).alloc _
  have s1 : ∀ o, (w.alloc o).heap.size = w.heap.size + 1 := fun o => by simp
  have s2 : ∀ o o', ((w.alloc o).alloc o').heap.size = w.heap.size + 1 + 1 := fun o o' => by simp
  have s3 : ∀ o o' o'', (((w.alloc o).alloc o').alloc o'').heap.size = w.heap.size + 1 + 1 + 1 := fun o o' o'' => by simp
  have s4 : W.heap.size = w.heap.size + 1 + 1 + 1 + 1 := by rw [← hW]; simp
  have hb0 : W.heap[w.heap.size]? = some (.cells #[.string ⟨base.toArray⟩] 126 (0, 0)) := by
    rw [← hW, Below.heap_alloc _ _ _ (by rw [s3]; omega), Below.heap_alloc _ _ _ (by rw [s2]; omega), Below.heap_alloc _ _ _ (by rw [s1]; omega)]
    exact heap_alloc_new w _
  have hb1 : W.heap[w.heap.size + 1]? = some (.cells #[.string ⟨n.toArray⟩, .slice ao l.length ac, .string ⟨tx.toArray⟩, .slice ko kn kc] 45 (0, 0)) := by
    rw [← hW, Below.heap_alloc _ _ _ (by rw [s3]; omega), Below.heap_alloc _ _ _ (by rw [s2]; omega), ← s1]
    exact heap_alloc_new _ _
  have hb2 : W.heap[w.heap.size + 1 + 1]? = some (.cells #[.string ⟨#[]⟩, .slice none 0 0, .string ⟨#[]⟩, .slice none 0 0] 45 (0, 0)) := by
    rw [← hW, Below.heap_alloc _ _ _ (by rw [s3]; omega), ← s2]
    exact heap_alloc_new _ _
  have hb3 : W.heap[w.heap.size + 1 + 1 + 1]? = some (.cells #[.string ⟨n.toArray⟩, .slice none 0 0, .string ⟨#[]⟩, .slice none 0 0] 45 (0, 0)) := by
    rw [← hW, ← s3]
    exact heap_alloc_new _ _
  clear s1 s2 s3
  have c11 : W.cell? ⟨w.heap.size + 1, 1, none⟩ = some (.slice ao l.length ac) := cell_blk hb1 1
  have c10 : W.cell? ⟨w.heap.size + 1, 0, none⟩ = some (.string ⟨n.toArray⟩) := cell_blk hb1 0
  have hKp : Kp W W.heap.size (w.heap.size + 1 + 1 + 1) n (.slice none 0 0) [] := ⟨hb3, World.ownsRow_nil _ _ _ _⟩
  have hres : ∀ (tmps : Array Value) (w3 : World) (cs : Array Value), cs.size = 4 → tmps.getD 4 undef = .pointer (some ⟨w.heap.size + 1 + 1, 0, none⟩) → w3.heap[w.heap.size + 1 + 1]? = some (.cells cs 45 (0, 0)) → (results Tryz.f249 tmps).run Tryz.prog w3 = .ok (.agg cs) w3 := fun tmps w3 cs hcs hp hg => results_cell_row (P := Tryz.prog) rfl tmps w3 _ 45 cs (0, 0) _ hp hg Tryz.underlying45 rfl (by rw [hcs]; kernel_rfl)
  have HR := hide hres
  have HB0 := hide hb0
  have HB1 := hide hb1
  have HB2 := hide hb2
  have HS4 := hide s4
  have HM1 := hide (hM.keeps hkW List.not_mem_nil)
  have hK0 := hide hKp
  clear hres hb0 hb1 hb2 hb3 s4 hKp
  have hmf : ∀ (fn : Fn) (first cap : Array Value) (w : World), (Instr.makeFunc fn first cap).run Tryz.prog w = .ok (.func fn first cap) w := fun _ _ _ _ => rfl
  have HW := hide hW
  clear hW
  go_enter Tryz.func249, Tryz.ntmps249
  go_upto_region 2 with fail
  rw [HW.out]
  go_wp2_with fail
  go_loopw [14] (fun i wr => ∃ k : Nat, k ≤ l.length ∧ i = .int .i64 k ∧ Hid (Keeps [w.heap.size + 1 + 1 + 1] W wr) ∧ Hid (∃ av kl, Kp wr W.heap.size (w.heap.size + 1 + 1 + 1) n av kl ∧ kl ++ keptA base n (l.drop k) = KL)) (fun i _ => l.length - (intOf i).toNat)
  case atStart => exact ⟨0, Nat.zero_le _, rfl, Keeps.refl _ _, _, [], hK0.out, HKL.out⟩
  case round =>
    obtain ⟨k, hk, rfl, hkr, hKp⟩ := hrel
    clear hK0 HKL c10 c11
    have n3 : ∀ g, g < w.heap.size + 1 + 1 + 1 → g ∉ [w.heap.size + 1 + 1 + 1] := fun g hg hm => by simp at hm; omega
    have hkw : Keeps [] w wr := keeps_on hkW hkr.out (fun g hg hlt => by simp at hg; omega)
    have e0 := (hkr.out.block _ (lt_of_block HB0.out) (n3 _ (by omega))).trans HB0.out
    have e1 := (hkr.out.block _ (lt_of_block HB1.out) (n3 _ (by omega))).trans HB1.out
    have e2 := (hkr.out.block _ (lt_of_block HB2.out) (n3 _ (by omega))).trans HB2.out
    have hMr := HM1.out.keeps hkr.out (fun h => by simp at h)
    have hWr := hkr.out.size
    obtain ⟨av, kl, hKp, hKL⟩ := hKp.out
    have HE0 := hide e0
    have HE1 := hide e1
    have HE2 := hide e2
    have HMr := hide hMr
    have HKP := hide hKp
    have HK3 := hide hKL
    have HWr := hide hWr
    have HKW := hide hkw
    clear e0 e1 e2 hMr hKp hKL hWr hkw
    by_cases hlt : k < l.length
    · obtain ⟨g, x, rfl, hc⟩ := (HV.out.keeps HKW.out).addr (by omega)
      have a0 := hc _ _ (pair_at0 l k hlt)
      have a1 := hc _ _ (pair_at1 l k hlt)
      rw [← Nat.add_assoc] at a1
      have hvl := HL.out _ (List.getElem_mem hlt)
      have hC1 := HK3.out
      rw [kept_drop base n l k hlt] at hC1
      have hkk : kl.length ≤ KL.length := by rw [← HK3.out, List.length_append]; omega
      have HC1 := hide hC1
      clear hc hC1 HK3
      generalize l[k] = p at *
      obtain ⟨pn, pv⟩ := p
      simp only at a0 a1 hvl
      have hkB : Keeps [] wr (wr.alloc (.cells #[.string ⟨pn.toArray⟩, .string ⟨pv.toArray⟩] 52)) := (Keeps.refl [] wr).alloc _
      have hbB := heap_alloc_new wr (.cells #[.string ⟨pn.toArray⟩, .string ⟨pv.toArray⟩] 52)
      have nn : ∀ g, g ∉ ([] : List Nat) := fun _ => List.not_mem_nil
      have hcall := hide (keep1_caught base n (pn, pv) W.heap.size (w.heap.size + 1 + 1 + 1) w.heap.size (w.heap.size + 1) wr.heap.size av kl _ (HMr.out.keeps hkB (nn _)) hb hvl (by omega) (Nat.le_trans HWr.out hkB.size) (HKP.out.keeps hkB (nn _) (fun _ _ => nn _)) ((hkB.block _ (lt_of_block HE0.out) (nn _)).trans HE0.out) (cell_keeps hkB (cell_blk HE1.out 0)) hbB)
      have HKB := hide hkB
      clear hkB hbB nn
      go_wp2_with fail
      refine hcall.out.mono ?_
      rintro e w1 ⟨⟨x9, rfl⟩, ⟨av', hK'⟩, hk1⟩
      clear a0 a1
      go_wp2_with fail
      go_roundw
      case rel =>
        refine ⟨k + 1, by omega, by go_num, ?_, av', _, hK', ?_⟩
        · refine keeps_on (hkr.out.trans (HKB.out.to (by simp))) hk1 (fun g hg hlt => ?_)
          rcases List.mem_cons.1 hg with rfl | hg
          · simp
          · have := (HKP.out.row.lt g (by simpa using hg)).1
            omega
        · rw [List.append_assoc]; exact HC1.out
      case measure => simp [intOf]; omega
    · have hkl2 : kl = KL := by
        rw [← HK3.out, List.drop_eq_nil_of_le (by omega)]
        simp [keptA]
      subst hkl2
      obtain ⟨o, c, hav⟩ := row_form HKP.out.row
      subst hav
      have d0 : wr.cell? ⟨w.heap.size + 1 + 1 + 1, 0, none⟩ = some (.string ⟨n.toArray⟩) := cell_blk HKP.out.blk 0
      have d1 : wr.cell? ⟨w.heap.size + 1 + 1 + 1, 1, none⟩ = some (.slice o kl.length c) := cell_blk HKP.out.blk 1
      have d2 : wr.cell? ⟨w.heap.size + 1 + 1 + 1, 2, none⟩ = some (.string ⟨#[]⟩) := cell_blk HKP.out.blk 2
      have d3 : wr.cell? ⟨w.heap.size + 1 + 1 + 1, 3, none⟩ = some (.slice none 0 0) := cell_blk HKP.out.blk 3
      have hms := hide (mustStand_any n [] kl o kl.length c (.slice none 0 0) wr HMr.out (Lies.of_row HKP.out.row) HN.out ⟨_, _, _, rfl⟩)
      go_wp2_with fail
      refine hms.out.mono ?_
      rintro e w1 ⟨⟨hE, rfl⟩ | ⟨hE, rfl⟩, hk1⟩
      · have nn : ∀ g, g ∉ ([] : List Nat) := fun _ => List.not_mem_nil
        have hcl := hide (HC.out w1 (HKW.out.trans hk1))
        have e0 := (hk1.block _ (lt_of_block HE0.out) (nn _)).trans HE0.out
        have e1 := (hk1.block _ (lt_of_block HE1.out) (nn _)).trans HE1.out
        have e2 := (hk1.block _ (lt_of_block HE2.out) (nn _)).trans HE2.out
        have hK1 := HKP.out.keeps hk1 (nn _) (fun _ _ => nn _)
        have x0 : w1.cell? ⟨w.heap.size, 0, none⟩ = some (.string ⟨base.toArray⟩) := cell_blk e0 0
        have x1 : w1.cell? ⟨w.heap.size + 1, 3, none⟩ = some (.slice ko kn kc) := cell_blk e1 3
        have HE2' := hide e2
        have HK1 := hide hK1
        clear d0 d1 d2 d3 e0 e1 e2 hK1
        go_wp2_with fail
        refine hcl.out.mono ?_
        rintro e w2 ⟨o2, m2, c2, rfl, hN2, hk2⟩
        have hK2 := HK1.out.keeps hk2 (nn _) (fun _ _ => nn _)
        have e2 := (hk2.block _ (lt_of_block HE2'.out) (nn _)).trans HE2'.out
        have y3 : w2.cell? ⟨w.heap.size + 1 + 1 + 1, 3, none⟩ = some (.slice none 0 0) := cell_blk hK2.blk 3
        have f3 : w2.frozen? ⟨w.heap.size + 1 + 1 + 1, 3, none⟩ = false := free_blk hK2.blk 3
        obtain ⟨W3, hW3⟩ : ∃ W3, w2.setCell ⟨w.heap.size + 1 + 1 + 1, 3, none⟩ (.slice o2 m2 c2) = W3 := ⟨_, rfl⟩
        have hks : Keeps [w.heap.size + 1 + 1 + 1] w2 W3 := by rw [← hW3]; exact (Keeps.refl _ w2).setCell (.inl (by simp)) _
        have b3 : W3.heap[w.heap.size + 1 + 1 + 1]? = some (.cells #[.string ⟨n.toArray⟩, .slice o kl.length c, .string ⟨#[]⟩, .slice o2 m2 c2] 45 (0, 0)) := by
          rw [← hW3]
          simp [World.setCell, Array.getElem?_modify, hK2.blk]
        have b2 := (hks.block _ (lt_of_block e2) (n3 _ (by omega))).trans e2
        have z0 : W3.cell? ⟨w.heap.size + 1 + 1 + 1, 0, none⟩ = some (.string ⟨n.toArray⟩) := cell_blk b3 0
        have z1 : W3.cell? ⟨w.heap.size + 1 + 1 + 1, 1, none⟩ = some (.slice o kl.length c) := cell_blk b3 1
        have z2 : W3.cell? ⟨w.heap.size + 1 + 1 + 1, 2, none⟩ = some (.string ⟨#[]⟩) := cell_blk b3 2
        have z3 : W3.cell? ⟨w.heap.size + 1 + 1 + 1, 3, none⟩ = some (.slice o2 m2 c2) := cell_blk b3 3
        have r0 : W3.cell? ⟨w.heap.size + 1 + 1, 0, none⟩ = some (.string ⟨#[]⟩) := cell_blk b2 0
        have r1 : W3.cell? ⟨w.heap.size + 1 + 1, 1, none⟩ = some (.slice none 0 0) := cell_blk b2 1
        have r2 : W3.cell? ⟨w.heap.size + 1 + 1, 2, none⟩ = some (.string ⟨#[]⟩) := cell_blk b2 2
        have r3 : W3.cell? ⟨w.heap.size + 1 + 1, 3, none⟩ = some (.slice none 0 0) := cell_blk b2 3
        have g0 : W3.frozen? ⟨w.heap.size + 1 + 1, 0, none⟩ = false := free_blk b2 0
        have g1 : W3.frozen? ⟨w.heap.size + 1 + 1, 1, none⟩ = false := free_blk b2 1
        have g2 : W3.frozen? ⟨w.heap.size + 1 + 1, 2, none⟩ = false := free_blk b2 2
        have g3 : W3.frozen? ⟨w.heap.size + 1 + 1, 3, none⟩ = false := free_blk b2 3
        have HB3 := hide b3
        have HB2' := hide b2
        have HK2 := hide hK2
        clear b3 b2 hK2 e2 x0 x1
        go_wp2_with fail
        have hs4 := HS4.out
        have hsz := Nat.le_trans HWr.out hk1.size
        have hk3 : Keeps [w.heap.size + 1 + 1 + 1, w.heap.size + 1 + 1] w2 ((((W3.setCell ⟨w.heap.size + 1 + 1, 0, none⟩ (.string ⟨n.toArray⟩)).setCell ⟨w.heap.size + 1 + 1, 1, none⟩ (.slice o kl.length c)).setCell ⟨w.heap.size + 1 + 1, 2, none⟩ (.string ⟨#[]⟩)).setCell ⟨w.heap.size + 1 + 1, 3, none⟩ (.slice o2 m2 c2)) :=
          ((((hks.to (by simp)).setCell (p := ⟨w.heap.size + 1 + 1, 0, none⟩) (.inl (by simp)) _).setCell (p := ⟨w.heap.size + 1 + 1, 1, none⟩) (.inl (by simp)) _).setCell (p := ⟨w.heap.size + 1 + 1, 2, none⟩) (.inl (by simp)) _).setCell (p := ⟨w.heap.size + 1 + 1, 3, none⟩) (.inl (by simp)) _
        have hN3 := (hN2.keeps hk3 (fun g hg hm => by simp at hm; omega)).mono (Q := fun g => w.heap.size ≤ g) (fun g _ hg => by omega)
        have hL3 := ((LiesP.of_row HK2.out.row (P := fun g => W.heap.size ≤ g) (fun g hg => (HK2.out.row.lt g hg).1)).keeps hk3 (fun g hg hm => by simp at hm; omega)).mono (Q := fun g => w.heap.size ≤ g) (fun g _ hg => by omega)
        exact ⟨rfl, _, HR.out _ _ #[.string ⟨n.toArray⟩, .slice o kl.length c, .string ⟨#[]⟩, .slice o2 m2 c2] rfl rfl (four_set HB2'.out _ _ _ _), .inl ⟨hE, _, _, _, _, _, _, rfl, hL3, hN3⟩, keeps_on ((HKW.out.trans hk1).trans hk2) hk3 (fun g hg hlt => by simp at hg; omega)⟩
      · exact ⟨rfl, .inr ⟨hE, rfl⟩, HKW.out.trans hk1⟩
theorem enters249 : Enters 249 := enters_of Tryz.func249 (by kernel_rfl) (by kernel_rfl)
theorem enters246 : Enters 246 := enters_of Tryz.func246 (by kernel_rfl) (by kernel_rfl)
theorem enters248 : Enters 248 := enters_of Tryz.func248 (by kernel_rfl) (by kernel_rfl)
set_option maxRecDepth 4000 in
set_option maxHeartbeats 8000000 in
theorem put1_yes (base n tx : List UInt8) (kl : List Pair) (ks : List Nd) (B r ob cb nb : Nat) (s : Lst) (T : List Nat) (av kv : Value) (w : World) (h : LsT w B r s T) (hw : s.weight ≤ 3000000) (hob : w.heap[ob]? = some (.cells #[.pointer (some ⟨r, 0, none⟩)] 201 (0, 0))) (hcb : w.heap[cb]? = some (.cells #[.string ⟨base.toArray⟩] 126 (0, 0))) (hnb : w.heap[nb]? = some (.cells #[.string ⟨n.toArray⟩, av, .string ⟨tx.toArray⟩, kv] 45 (0, 0)))
    (hel : ∀ w1, Keeps [] w w1 → Calls Tryz.prog 249 #[.agg #[.string ⟨base.toArray⟩], .agg #[.string ⟨n.toArray⟩, av, .string ⟨tx.toArray⟩, kv]] w1 fun e w' => (∃ o m c o' m' c', e = .returned (.agg #[.string ⟨n.toArray⟩, .slice o m c, .string ⟨#[]⟩, .slice o' m' c']) ∧ LiesP w' (fun g => w1.heap.size ≤ g) (.slice o m c) kl.length 2 (pairCells kl) ∧ Ns w' (fun g => w1.heap.size ≤ g) (.slice o' m' c') ks) ∧ Keeps [] w1 w') :
    Calls Tryz.prog 248 #[.pointer (some ⟨ob, 0, none⟩), .pointer (some ⟨cb, 0, none⟩), .pointer (some ⟨nb, 0, none⟩)] w fun e w' => e = .returned (.tuple #[]) ∧ ∃ T', LsT w' B r (s.put (.mk n kl [] ks)) T' ∧ Stp w T w' T' := by
  have o0 : w.cell? ⟨ob, 0, none⟩ = some (.pointer (some ⟨r, 0, none⟩)) := cell_blk hob 0
  have c0 : w.cell? ⟨cb, 0, none⟩ = some (.string ⟨base.toArray⟩) := cell_blk hcb 0
  have n0 : w.cell? ⟨nb, 0, none⟩ = some (.string ⟨n.toArray⟩) := cell_blk hnb 0
  have n1 : w.cell? ⟨nb, 1, none⟩ = some av := cell_blk hnb 1
  have n2 : w.cell? ⟨nb, 2, none⟩ = some (.string ⟨tx.toArray⟩) := cell_blk hnb 2
  have n3 : w.cell? ⟨nb, 3, none⟩ = some kv := cell_blk hnb 3
  have hel1 := hide (hel w.drew ((Keeps.refl [] w).drew))
  have HOB := hide hob
  obtain ⟨R, hR⟩ : ∃ R, s.put (.mk n kl [] ks) = R := ⟨_, rfl⟩
  rw [hR]
  have HR := hide hR
  have Hh := hide h
  clear hel hR h hob
  go_enter Tryz.func248, Tryz.ntmps248
  go_upto_region 0 with fail
  go_region_law (first
    | (refine step_call rfl 249 _ _ rfl enters249 #[.agg #[.string ⟨base.toArray⟩], .agg #[.string ⟨n.toArray⟩, av, .string ⟨tx.toArray⟩, kv]] (by first | (simp [Act.eval]; done) | (simp [Act.eval, Act.put]; done) | kernel_rfl) hel1.out ?_; rintro e w2 ⟨⟨o, m, c, o', m', c', rfl, hL2, hN2⟩, hk2⟩; refine ⟨_, rfl, ?_⟩; have hk2' : Keeps [] w w2 := keeps_drew hk2; have hh2 := (Hh.out).keepsNil hk2'; have e0 : w2.cell? ⟨ob, 0, none⟩ = some (.pointer (some ⟨r, 0, none⟩)) := cell_keeps hk2' (cell_blk HOB.out 0); have e0a : ∀ o, (w2.alloc o).cell? ⟨ob, 0, none⟩ = some (.pointer (some ⟨r, 0, none⟩)) := fun o9 => cell_keeps (hk2'.alloc o9) (cell_blk HOB.out 0))
    | (refine step_call rfl 246 _ _ rfl enters246 #[.pointer (some ⟨r, 0, none⟩), .slice (some ⟨w2.heap.size, 0, none⟩) 1 1] (by first | (simp [Act.eval]; done) | (simp [Act.eval, Act.put]; done) | kernel_rfl) (putL_any B r s T _ (hh2.keepsNil ((Keeps.refl [] w2).alloc _)) n [] kl ks (by simp; omega) o o' m c m' c' w2.heap.size (IsNd.of (heap_alloc_new w2 _)) (fun _ => ⟨(hL2.mono (fun g _ hg => DoneB.fresh ((Hh.out).ge.2) (fun g hg => ((Hh.out).ge.1 g hg).2) hg)).keeps ((Keeps.refl [] w2).alloc _) (fun _ _ => List.not_mem_nil), (hN2.mono (fun g _ hg => DoneB.fresh ((Hh.out).ge.2) (fun g hg => ((Hh.out).ge.1 g hg).2) hg)).keeps0 ((Keeps.refl [] w2).alloc _)⟩)) ?_; rintro e w4 ⟨rfl, T4, h4, hs4⟩; refine ⟨_, rfl, ?_⟩))
  all_goals go_wp2
  all_goals go_end0
  all_goals rw [← HR.out]
  all_goals exact ⟨rfl, T4, h4, (Stp.nil (hk2'.alloc _) T).trans hs4⟩
set_option maxRecDepth 4000 in
set_option maxHeartbeats 8000000 in
theorem put1_no (base n tx : List UInt8) (x : Int) (r ob cb nb : Nat) (av kv : Value) (w : World) (hob : w.heap[ob]? = some (.cells #[.pointer (some ⟨r, 0, none⟩)] 201 (0, 0))) (hcb : w.heap[cb]? = some (.cells #[.string ⟨base.toArray⟩] 126 (0, 0))) (hnb : w.heap[nb]? = some (.cells #[.string ⟨n.toArray⟩, av, .string ⟨tx.toArray⟩, kv] 45 (0, 0)))
    (hel : ∀ w1, Keeps [] w w1 → Calls Tryz.prog 249 #[.agg #[.string ⟨base.toArray⟩], .agg #[.string ⟨n.toArray⟩, av, .string ⟨tx.toArray⟩, kv]] w1 fun e w' => e = .panicked (stopped x) ∧ Keeps [] w1 w') :
    Calls Tryz.prog 248 #[.pointer (some ⟨ob, 0, none⟩), .pointer (some ⟨cb, 0, none⟩), .pointer (some ⟨nb, 0, none⟩)] w fun e w' => e = .panicked (stopped x) ∧ Keeps [] w w' := by
  have o0 : w.cell? ⟨ob, 0, none⟩ = some (.pointer (some ⟨r, 0, none⟩)) := cell_blk hob 0
  have c0 : w.cell? ⟨cb, 0, none⟩ = some (.string ⟨base.toArray⟩) := cell_blk hcb 0
  have n0 : w.cell? ⟨nb, 0, none⟩ = some (.string ⟨n.toArray⟩) := cell_blk hnb 0
  have n1 : w.cell? ⟨nb, 1, none⟩ = some av := cell_blk hnb 1
  have n2 : w.cell? ⟨nb, 2, none⟩ = some (.string ⟨tx.toArray⟩) := cell_blk hnb 2
  have n3 : w.cell? ⟨nb, 3, none⟩ = some kv := cell_blk hnb 3
  have hel1 := hide (hel w.drew ((Keeps.refl [] w).drew))
  clear hel
  go_enter Tryz.func248, Tryz.ntmps248
  go_upto_region 0 with fail
  go_region_dies
  all_goals refine hel1.out.mono ?_
  all_goals rintro e w2 ⟨rfl, hk2⟩
  all_goals exact ⟨rfl, rfl, keeps_drew hk2⟩
theorem put1_caught (base n tx : List UInt8) (kl : List Pair) (ks : List Nd) (B r ob cb nb : Nat) (s : Lst) (T : List Nat) (av kv : Value) (w : World) (h : LsT w B r s T) (hw : s.weight ≤ 3000000) (hob : w.heap[ob]? = some (.cells #[.pointer (some ⟨r, 0, none⟩)] 201 (0, 0))) (hcb : w.heap[cb]? = some (.cells #[.string ⟨base.toArray⟩] 126 (0, 0))) (hnb : w.heap[nb]? = some (.cells #[.string ⟨n.toArray⟩, av, .string ⟨tx.toArray⟩, kv] 45 (0, 0)))
    (hel : ∀ w1, Keeps [] w w1 → Calls Tryz.prog 249 #[.agg #[.string ⟨base.toArray⟩], .agg #[.string ⟨n.toArray⟩, av, .string ⟨tx.toArray⟩, kv]] w1 fun e w' => (standE n kl = 0 ∧ (∃ o m c o' m' c', e = .returned (.agg #[.string ⟨n.toArray⟩, .slice o m c, .string ⟨#[]⟩, .slice o' m' c']) ∧ LiesP w' (fun g => w1.heap.size ≤ g) (.slice o m c) kl.length 2 (pairCells kl) ∧ Ns w' (fun g => w1.heap.size ≤ g) (.slice o' m' c') ks) ∨ standE n kl ≠ 0 ∧ e = .panicked (stopped (standE n kl))) ∧ Keeps [] w1 w') :
    Calls Tryz.prog 64 #[.func (.func 248) #[] #[.pointer (some ⟨ob, 0, none⟩), .pointer (some ⟨cb, 0, none⟩), .pointer (some ⟨nb, 0, none⟩)]] w fun e w' =>
      (∃ x, e = .returned (.int .i64 x)) ∧ ∃ T', LsT w' B r (if standE n kl = 0 then s.put (.mk n kl [] ks) else s) T' ∧ Stp w T w' T' := by
  have hge := h.ge
  have hc := caught_any 248 #[.pointer (some ⟨ob, 0, none⟩), .pointer (some ⟨cb, 0, none⟩), .pointer (some ⟨nb, 0, none⟩)]
    (fun w2 => ∃ T', LsT w2 B r (if standE n kl = 0 then s.put (.mk n kl [] ks) else s) T' ∧ ∀ g, g ∈ T' → g ≤ w.heap.size → g ∈ T) (fun _ w2 => ∃ T', LsT w2 B r (if standE n kl = 0 then s.put (.mk n kl [] ks) else s) T' ∧ ∀ g, g ∈ T' → g ≤ w.heap.size → g ∈ T) T w enters248
    (fun i hi => (hge.1 i hi).2)
    (fun w2 w3 hp h hk => by
      obtain ⟨T', h1, h2⟩ := h
      exact ⟨T', h1.keepsInt hp hk, h2⟩)
    (fun x w2 w3 hp h hk => by
      obtain ⟨T', h1, h2⟩ := h
      exact ⟨T', h1.keepsInt hp hk, h2⟩)
    (fun w1 hk hsz => by
      have nn : ∀ g, g ∉ ([] : List Nat) := fun _ => List.not_mem_nil
      have h1 := h.keepsNil hk
      have ob1 := (hk.block _ (lt_of_block hob) (nn _)).trans hob
      have cb1 := (hk.block _ (lt_of_block hcb) (nn _)).trans hcb
      have nb1 := (hk.block _ (lt_of_block hnb) (nn _)).trans hnb
      by_cases hE : standE n kl = 0
      · refine (put1_yes base n tx kl ks B r ob cb nb s T av kv w1 h1 hw ob1 cb1 nb1 (fun w2 hk2 => (hel w2 (hk.trans hk2)).mono (fun e w' hr => ⟨hr.1.elim (fun h => h.2) (fun h => absurd hE h.1), hr.2⟩))).mono ?_
        rintro e w2 ⟨rfl, T', h2, h3⟩
        exact ⟨.inl ⟨rfl, T', by rw [if_pos hE]; exact h2, fun g hg hlt => h3.2 g hg (by omega)⟩, h3.1⟩
      · refine (put1_no base n tx (standE n kl) r ob cb nb av kv w1 ob1 cb1 nb1 (fun w2 hk2 => (hel w2 (hk.trans hk2)).mono (fun e w' hr => ⟨hr.1.elim (fun h => absurd h.1 hE) (fun h => h.2), hr.2⟩))).mono ?_
        rintro e w2 ⟨rfl, hk2⟩
        exact ⟨.inr ⟨_, rfl, T, by rw [if_neg hE]; exact h1.keepsNil hk2, fun g hg _ => hg⟩, hk2.to (by simp)⟩)
  refine hc.mono ?_
  rintro e w' ⟨⟨rfl, T', h1, h2⟩ | ⟨x, rfl, T', h1, h2⟩, hk⟩
  · exact ⟨⟨_, rfl⟩, T', h1, hk, fun g hg hlt => h2 g hg (by omega)⟩
  · exact ⟨⟨_, rfl⟩, T', h1, hk, fun g hg hlt => h2 g hg (by omega)⟩
theorem below_keeps {B : Nat} {w w' : World} (h : Below B w w') : Keeps ((List.range w.heap.size).filter (fun g => decide (B ≤ g))) w w' :=
  ⟨h.os, h.tape, h.output, h.size, fun k hk hS => h.block k (by
    rcases Nat.lt_or_ge k B with h1 | h1
    · exact h1
    · exact absurd (List.mem_filter.2 ⟨List.mem_range.2 hk, by simpa using h1⟩) hS)⟩
theorem Ns.belowB {w w' : World} {B : Nat} {v : Value} {ns : List Nd} (h : Ns w (fun g => g < B) v ns) (hb : Below B w w') : Ns w' (fun g => g < B) v ns :=
  h.keeps (below_keeps hb) (fun g hg hm => by have := (List.mem_filter.1 hm).2; simp at this; omega)
theorem LiesP.belowB {w w' : World} {B : Nat} {v : Value} {n z : Nat} {xs : List Value} (h : LiesP w (fun g => g < B) v n z xs) (hb : Below B w w') : LiesP w' (fun g => g < B) v n z xs :=
  h.keeps (below_keeps hb) (fun g hg hm => by have := (List.mem_filter.1 hm).2; simp at this; omega)
def szNs : List Nd → Nat
  | [] => 0
  | .mk _ _ t k :: r => 1 + t.length + szNs k + szNs r
theorem szNs_cons (n : Nd) (r : List Nd) : szNs (n :: r) = 1 + n.text.length + szNs n.kids + szNs r := by
  obtain ⟨n, a, t, k⟩ := n
  rw [szNs]
  rfl
theorem clean_weight (base : List UInt8) : ∀ (l : List Nd) (s : Lst), (cleanIn base s l).weight ≤ s.weight + szNs l
  | [], s => by rw [cleanIn]; exact Nat.le_add_right _ _
  | .mk n a t k :: r, s => by
    rw [cleanIn, szNs]
    split
    · have := clean_weight base r (s.put (.mk n a t k))
      have := s.put_weight (.mk n a t k)
      simp only [Nd.text] at this
      omega
    · split
      · have := clean_weight base r s
        omega
      · split
        · have := clean_weight base r (cleanIn base s k)
          have := clean_weight base k s
          omega
        · split
          · have := clean_weight base r (s.put (.mk n (keptA base n a) [] (cleanIn base ⟨[], []⟩ k).done))
            have := s.put_weight (.mk n (keptA base n a) [] (cleanIn base ⟨[], []⟩ k).done)
            simp only [Nd.text, List.length_nil] at this
            omega
          · have := clean_weight base r s
            omega
def ValNs : List Nd → Prop
  | [] => True
  | .mk _ a _ k :: r => (a.length ≤ 1000000 ∧ ∀ p ∈ a, p.2.length ≤ maxLen) ∧ ValNs k ∧ ValNs r
theorem ValNs.at {n : Nd} : {ns : List Nd} → ValNs ns → n ∈ ns → n.attrs.length ≤ 1000000 ∧ (∀ p ∈ n.attrs, p.2.length ≤ maxLen) ∧ ValNs n.kids
  | .mk _ a _ k :: r, h, hm => by
    rw [ValNs] at h
    rcases List.mem_cons.1 hm with rfl | hm
    · exact ⟨h.1.1, h.1.2, h.2.1⟩
    · exact ValNs.at h.2.2 hm
def stepC (base : List UInt8) (s : Lst) (n : Nd) : Lst :=
  if n.name.isEmpty = true then s.put n else if goneN n.name = true then s else if allowedN n.name = false then cleanIn base s n.kids
  else if standE n.name (keptA base n.name n.attrs) = 0 then s.put (.mk n.name (keptA base n.name n.attrs) [] (cleanL base n.kids)) else s
theorem cleanIn_cons (base : List UInt8) (s : Lst) (n : Nd) (r : List Nd) : cleanIn base s (n :: r) = cleanIn base (stepC base s n) r := by
  obtain ⟨n, a, t, k⟩ := n
  rw [cleanIn]
  show _ = cleanIn base (if n.isEmpty = true then s.put (.mk n a t k) else if goneN n = true then s else if allowedN n = false then cleanIn base s k else if standE n (keptA base n a) = 0 then s.put (.mk n (keptA base n a) [] (cleanIn base ⟨[], []⟩ k).done) else s) r
  by_cases h1 : n.isEmpty = true
  · rw [if_pos h1, if_pos h1]
  · rw [if_neg h1, if_neg h1]
    by_cases h2 : goneN n = true
    · rw [if_pos h2, if_pos h2]
    · rw [if_neg h2, if_neg h2]
      by_cases h3 : allowedN n = false
      · rw [if_pos h3, if_pos h3]
      · rw [if_neg h3, if_neg h3]
        by_cases h4 : standE n (keptA base n a) = 0
        · rw [if_pos h4, if_pos h4]
        · rw [if_neg h4, if_neg h4]
theorem stepC_weight (base : List UInt8) (s : Lst) (n : Nd) : (stepC base s n).weight ≤ s.weight + (1 + n.text.length + szNs n.kids) := by
  have h := clean_weight base [n] s
  rw [cleanIn_cons, cleanIn, szNs_cons, szNs] at h
  omega
def PutsAt (base : List UInt8) (B0 : Nat) (v : Value) (ns : List Nd) (w : World) : Prop := ∀ B r s T, B0 ≤ B → LsT w B r s T → s.weight + szNs ns ≤ 3000000 →
  Calls Tryz.prog 179 #[.agg #[.string ⟨base.toArray⟩], .pointer (some ⟨r, 0, none⟩), v] w fun e w' => e = .returned (.tuple #[]) ∧ ∃ T', LsT w' B r (cleanIn base s ns) T' ∧ Stp w T w' T'
set_option maxHeartbeats 2000000 in
theorem cleaned_of (base : List UInt8) (o : Option Addr) (n c : Nat) (ns : List Nd) (w : World) (B0 : Nat) (hB : B0 ≤ w.heap.size) (hsz : szNs ns ≤ 3000000) (hput : ∀ w1, Keeps [] w w1 → PutsAt base B0 (.slice o n c) ns w1) :
    Calls Tryz.prog 91 #[.agg #[.string ⟨base.toArray⟩], .slice o n c] w fun e w' => ∃ o m c, e = .returned (.slice o m c) ∧ Ns w' (fun g => w.heap.size ≤ g) (.slice o m c) (cleanL base ns) ∧ Keeps [] w w' := by
  have hk1 : Keeps [] w (w.alloc (.cells #[.string ⟨base.toArray⟩] 126)) := (Keeps.refl [] w).alloc _
  have hk2 := hk1.alloc (.cells #[.slice none 0 0, .slice none 0 0] 199)
  have hst := hide (start_ls (w.alloc (.cells #[.string ⟨base.toArray⟩] 126)) (by simp))
  obtain ⟨W, hW⟩ : ∃ W, (w.alloc (.cells #[.string ⟨base.toArray⟩] 126)).alloc (.cells #[.slice none 0 0, .slice none 0 0] 199) = W := ⟨_, rfl⟩
  have s1 : (w.alloc (.cells #[.string ⟨base.toArray⟩] 126)).heap.size = w.heap.size + 1 := by simp
  have hb0 : W.heap[w.heap.size]? = some (.cells #[.string ⟨base.toArray⟩] 126 (0, 0)) := by
    rw [← hW, Below.heap_alloc _ _ _ (by rw [s1]; omega)]
    exact heap_alloc_new w _
  rw [hW, s1] at hst
  rw [hW] at hk2
  have c0 : W.cell? ⟨w.heap.size, 0, none⟩ = some (.string ⟨base.toArray⟩) := cell_blk hb0 0
  have hp := hide (hput W hk2 _ _ _ _ (by omega) hst.out (by simpa [Lst.weight] using hsz))
  have hwt := clean_weight base ns ⟨[], []⟩
  have HW := hide hwt
  unfold cleanL
  generalize cleanIn base ⟨[], []⟩ ns = R at *
  clear hput hb0 s1
  go_enter Tryz.func91, Tryz.ntmps91
  go_wp2_with fail
  refine hp.out.mono ?_
  rintro e w1 ⟨rfl, T', h1, hs1⟩
  have hal := hide (allL_any _ _ R T' w1 h1 (by have h9 := HW.out; simp [Lst.weight] at h9 ⊢; omega))
  have hge := hst.out.ge
  have hbl := hs1.below (B := w.heap.size) (fun g hg => by have := (hge.1 g hg).1; omega) hk2.size
  clear c0
  go_wp2_with fail
  refine hal.out.mono ?_
  rintro e w2 ⟨v, rfl, hN, hk⟩
  obtain ⟨o9, c9, rfl⟩ := hN.form
  go_wp2_with fail
  go_ret
  refine ⟨_, _, _, rfl, hN.mono (fun g _ hg => by omega), ?_⟩
  have hk3 : Keeps [] w w1 := keeps_on hk2 hs1.1 (fun g hg hlt => by have := (hge.1 g hg).1; omega)
  refine keeps_on hk3 hk (fun g hg hlt => ?_)
  have := (h1.ge.1 g hg).1
  omega
def wT (t : Tok) : Nat := if t.kind = 2 then 2 else if t.kind = 1 then 1 else 0
def wL (ts : List Tok) : Nat := (ts.map wT).sum
theorem wL_app (a b : List Tok) : wL (a ++ b) = wL a + wL b := by simp [wL]
theorem endT_w (raw : List UInt8) : wL (endT raw) = if raw = [] then 0 else 1 := by
  unfold endT
  split
  · rfl
  · simp [wL, wT, textTok]
def Light (k : Nat) (raw : List UInt8) (out : List Tok) : Prop := wL out + (if raw = [] then 0 else 1) ≤ k
theorem Light.tag {k k' : Nat} {raw : List UInt8} {out : List Tok} (h : Light k raw out) (t : Tok) (hk : k + wT t ≤ k') : Light k' [] (out ++ endT raw ++ [t]) := by
  unfold Light at h ⊢
  rw [wL_app, wL_app, endT_w]
  have : wL [t] = wT t := by simp [wL]
  rw [this, if_pos rfl]
  omega
theorem Light.on {k k' : Nat} {raw raw' : List UInt8} {out : List Tok} (h : Light k raw out) (hk : k < k') : Light k' raw' out := by
  unfold Light at h ⊢
  split
  · omega
  · omega
theorem name_pos {N : List UInt8} (h : isNameL (lowerL N) = true) : 1 ≤ N.length := by
  unfold isNameL at h
  simp [lowerL] at h
  omega
theorem piece_light {l : List UInt8} {k : Nat} {raw : List UInt8} {out : List Tok} {k' : Nat} {raw' : List UInt8} {out' : List Tok} (h : pieceL l k raw out = some (k', raw', out')) (hk : k < l.length) (hg : Light k raw out) : Light k' raw' out' := by
  have hb := (pieceL_bound h hk).1
  unfold pieceL at h
  split at h
  · unfold openL at h
    split at h
    · simp at h
    · rename_i a k2 ha
      have hk2 := attrsAt_bulk _ _ _ _ _ _ ha
      split at h
      · rename_i hn
        have hp := name_pos hn
        simp only [Option.some.injEq, Prod.mk.injEq] at h
        obtain ⟨rfl, rfl, rfl⟩ := h
        refine hg.tag _ ?_
        have e0 : bulkP ([] : List Pair) = 0 := rfl
        rw [e0] at hk2
        have : wT ⟨2, lowerL ((l.drop (k + 1)).takeWhile tagN), a, []⟩ = 2 := rfl
        rw [this]
        omega
      · simp only [Option.some.injEq, Prod.mk.injEq] at h
        obtain ⟨rfl, rfl, rfl⟩ := h
        exact hg.on hb
  split at h
  · unfold closeL at h
    split at h
    · simp at h
    · split at h
      · simp only [Option.some.injEq, Prod.mk.injEq] at h
        obtain ⟨rfl, rfl, rfl⟩ := h
        refine hg.tag _ ?_
        have : wT ⟨3, lowerL ((l.drop (k + 2)).takeWhile tagN), [], []⟩ = 0 := rfl
        rw [this]
        omega
      · simp only [Option.some.injEq, Prod.mk.injEq] at h
        obtain ⟨rfl, rfl, rfl⟩ := h
        exact hg.on hb
  split at h
  · unfold comL at h
    split at h
    · simp at h
    · simp only [Option.some.injEq, Prod.mk.injEq] at h
      obtain ⟨rfl, rfl, rfl⟩ := h
      exact hg.on hb
  split at h
  · unfold declL at h
    split at h
    · simp at h
    · simp only [Option.some.injEq, Prod.mk.injEq] at h
      obtain ⟨rfl, rfl, rfl⟩ := h
      exact hg.on hb
  · unfold textL at h
    simp only [Option.some.injEq, Prod.mk.injEq] at h
    obtain ⟨rfl, rfl, rfl⟩ := h
    exact hg.on hb
theorem light_end {k : Nat} {raw : List UInt8} {out : List Tok} (h : Light k raw out) : wL (out ++ endT raw) ≤ k := by
  unfold Light at h
  rw [wL_app, endT_w]
  exact h
theorem readAt_light (l : List UInt8) : ∀ (f k : Nat) (raw : List UInt8) (out : List Tok), k ≤ l.length → Light k raw out → wL (readAt l f k raw out) ≤ l.length
  | 0, k, raw, out, hk, hg => Nat.le_trans (light_end hg) hk
  | f + 1, k, raw, out, hk, hg => by
    by_cases he : l.length ≤ k
    · rw [readAt_end he]
      exact Nat.le_trans (light_end hg) hk
    · have hlt : k < l.length := by omega
      cases hp : pieceL l k raw out with
      | none =>
        rw [readAt_none hlt hp]
        exact readAt_light l f _ _ _ (Nat.le_refl _) (hg.on hlt)
      | some q =>
        obtain ⟨k', raw', out'⟩ := q
        rw [readAt_some hlt hp]
        exact readAt_light l f _ _ _ (pieceL_bound hp hlt).2.1 (piece_light hp hlt hg)
theorem readL_light (l : List UInt8) : wL (readL l) ≤ l.length := readAt_light l _ 0 [] [] (Nat.zero_le _) (by simp [Light, wL])
theorem flat_app (a b : List Nd) : flatL (a ++ b) = flatL a ++ flatL b := by
  induction a with
  | nil => simp [flatL]
  | cons n a ih => rw [List.cons_append, flatL_cons, flatL_cons, ih, List.append_assoc]
def wN (ns : List Nd) : Nat := (flatL ns).length
theorem wN_app (a b : List Nd) : wN (a ++ b) = wN a + wN b := by simp [wN, flat_app]
theorem wN_nil : wN [] = 0 := by simp [wN, flatL]
theorem wN_text (t : List UInt8) : wN [textN t] = 1 := by simp [wN, flatL, textN]
theorem wN_cons (n : Nd) (r : List Nd) : wN (n :: r) = (if n.name.isEmpty = true then 1 else 1 + wN n.kids + (if emptyN n.name = true then 0 else 1)) + wN r := by
  unfold wN
  rw [flatL_cons, List.length_append]
  split
  · rfl
  · split <;> simp <;> omega
theorem wN_one (n : Nd) : wN [n] ≤ 2 + wN n.kids := by
  rw [wN_cons, wN_nil]
  split
  · omega
  · split <;> omega
def St.wt (s : St) : Nat := (s.all.map fun o => wN o.kids).sum + 2 * s.up.length + if s.text = [] then 0 else 1
theorem wt_all (s : St) : (s.all.map fun o => wN o.kids).sum = (s.up.map fun o => wN o.kids).sum + wN s.cur.kids := by
  simp [St.all, List.sum_reverse]
theorem wt_endText (s : St) : s.endText.wt = s.wt := by
  unfold St.endText
  split
  · rfl
  · next h =>
    unfold St.wt
    rw [wt_all, wt_all]
    simp only [Op.put, wN_app, wN_text, h, if_true, if_false]
    omega
theorem wt_pop (s : St) : s.pop.wt ≤ s.wt := by
  rw [← wt_endText s]
  have h1 := endText_up s
  have h2 := endText_text s
  unfold St.pop
  split
  · exact Nat.le_refl _
  · next o up h =>
    unfold St.wt
    rw [wt_all, wt_all, h1, h, h2]
    have := wN_one s.endText.cur.nd
    have e : s.endText.cur.nd.kids = s.endText.cur.kids := rfl
    rw [e] at this
    simp only [Op.put, wN_app, List.map_cons, List.sum_cons, List.length_cons, if_true]
    omega
theorem wt_close (k : Nat) (s : St) : (s.close k).wt ≤ s.wt := by
  induction k generalizing s with
  | zero => exact Nat.le_refl _
  | succ k ih => rw [St.close]; exact Nat.le_trans (ih _) (wt_pop s)
theorem wt_step (s : St) (t : Tok) : (s.step t).wt ≤ s.wt + wT t := by
  unfold St.step wT
  by_cases h1 : t.kind = 1
  · rw [if_pos h1, if_neg (by rw [h1]; decide), if_pos h1]
    unfold St.wt
    simp only [St.all]
    split <;> split <;> omega
  · rw [if_neg h1]
    by_cases h2 : t.kind = 2
    · rw [if_pos h2, if_pos h2]
      unfold St.openTag
      have hc := wt_close (s.up.length + 1 - closedL s.names t.name) s
      split
      · exact Nat.le_trans hc (by omega)
      · unfold St.closeFrom
        generalize s.close (s.up.length + 1 - closedL s.names t.name) = s1 at hc
        rw [← wt_endText s1] at hc
        refine Nat.le_trans ?_ (Nat.add_le_add_right hc 2)
        have h1 := endText_up s1
        have h2 := endText_text s1
        unfold St.openIn
        split
        · unfold St.wt
          rw [wt_all, wt_all]
          have := wN_one (.mk t.name t.attrs [] [])
          have e : wN (Nd.mk t.name t.attrs [] []).kids = 0 := wN_nil
          rw [e] at this
          simp only [St.put, Op.put, wN_app, h2]
          omega
        · unfold St.wt
          rw [wt_all, wt_all, h1, h2]
          simp only [List.map_cons, List.sum_cons, List.length_cons, wN_nil, if_true]
          omega
    · rw [if_neg h2, if_neg h2, if_neg h1]
      exact Nat.le_trans (wt_close _ s) (by omega)
theorem wt_fold (ts : List Tok) (s : St) : (ts.foldl St.step s).wt ≤ s.wt + wL ts := by
  induction ts generalizing s with
  | nil => simp [wL]
  | cons t ts ih =>
    rw [List.foldl_cons, show wL (t :: ts) = wT t + wL ts from by simp [wL]]
    have := ih (s.step t)
    have := wt_step s t
    omega
theorem wt_build (ts : List Tok) : wN (buildL ts) ≤ wL ts := by
  have h1 := wt_fold ts St.start
  have h0 : St.start.wt = 0 := by simp [St.wt, St.all, St.start, wN_nil]
  rw [h0] at h1
  unfold buildL St.closeFrom
  have h2 := wt_close ((ts.foldl St.step St.start).up.length + 1 - 1) (ts.foldl St.step St.start)
  generalize (ts.foldl St.step St.start).close ((ts.foldl St.step St.start).up.length + 1 - 1) = u at *
  rw [← wt_endText] at h2
  have h3 : wN u.endText.cur.kids ≤ u.endText.wt := by unfold St.wt; rw [wt_all]; omega
  omega
def Lst.wt (s : Lst) : Nat := wN s.all + if s.text.isEmpty = true then 0 else 1
theorem wt_done (s : Lst) : wN s.done = s.wt := by
  unfold Lst.done Lst.wt
  split
  · rfl
  · rw [wN_app, wN_text]
theorem wt_putE (s : Lst) (n : Nd) (hn : ¬ n.name.isEmpty = true) : (s.put n).wt = s.wt + wN [n] := by
  unfold Lst.put
  rw [if_neg hn]
  unfold Lst.wt
  simp only
  rw [wN_app, wt_done]
  simp [Lst.wt]
theorem clean_wt (base : List UInt8) : ∀ (l : List Nd) (s : Lst), (cleanIn base s l).wt ≤ s.wt + wN l
  | [], s => by rw [cleanIn, wN_nil]; exact Nat.le_refl _
  | .mk n a t k :: r, s => by
    rw [cleanIn, wN_cons]
    have e1 : (Nd.mk n a t k).name = n := rfl
    have e2 : (Nd.mk n a t k).kids = k := rfl
    rw [e1, e2]
    by_cases h1 : n.isEmpty = true
    · rw [if_pos h1, if_pos h1]
      have := clean_wt base r (s.put (.mk n a t k))
      have h2 : (s.put (.mk n a t k)).wt ≤ s.wt + 1 := by
        unfold Lst.put
        rw [if_pos (show (Nd.mk n a t k).name.isEmpty = true from h1)]
        unfold Lst.wt
        simp only
        split <;> omega
      omega
    · rw [if_neg h1, if_neg h1]
      by_cases h2 : goneN n = true
      · rw [if_pos h2]
        have := clean_wt base r s
        omega
      · rw [if_neg h2]
        by_cases h3 : allowedN n = false
        · rw [if_pos h3]
          have := clean_wt base r (cleanIn base s k)
          have := clean_wt base k s
          omega
        · rw [if_neg h3]
          by_cases h4 : standE n (keptA base n a) = 0
          · rw [if_pos h4]
            have g1 := clean_wt base r (s.put (.mk n (keptA base n a) [] (cleanIn base ⟨[], []⟩ k).done))
            have g2 := wt_putE s (.mk n (keptA base n a) [] (cleanIn base ⟨[], []⟩ k).done) h1
            have g3 := clean_wt base k ⟨[], []⟩
            have g4 := wt_done (cleanIn base ⟨[], []⟩ k)
            have g5 : (⟨[], []⟩ : Lst).wt = 0 := by simp [Lst.wt, wN_nil]
            rw [wN_cons, wN_nil] at g2
            have e3 : (Nd.mk n (keptA base n a) [] (cleanIn base ⟨[], []⟩ k).done).name = n := rfl
            have e4 : (Nd.mk n (keptA base n a) [] (cleanIn base ⟨[], []⟩ k).done).kids = (cleanIn base ⟨[], []⟩ k).done := rfl
            rw [e3, e4, if_neg h1] at g2
            omega
          · rw [if_neg h4]
            have := clean_wt base r s
            omega
theorem cleanL_wt (base : List UInt8) (l : List Nd) : wN (cleanL base l) ≤ wN l := by
  have := clean_wt base l ⟨[], []⟩
  unfold cleanL
  rw [wt_done]
  have h5 : (⟨[], []⟩ : Lst).wt = 0 := by simp [Lst.wt, wN_nil]
  omega
theorem html_few (base s : List UInt8) : (flatL (cleanL base (buildL (readL s)))).length ≤ s.length :=
  Nat.le_trans (cleanL_wt base _) (Nat.le_trans (wt_build _) (readL_light s))
theorem light_most {base v : List UInt8} : (lightL base v).length ≤ v.length + 3000 := by
  unfold lightL
  split
  · omega
  · cases h : resAns base v with
    | none => rw [Option.getD_none]; omega
    | some r => have := (res_again h).2.2; rw [Option.getD_some]; omega
def attrsN : List Nd → Nat
  | [] => 0
  | .mk _ a _ k :: r => a.length + attrsN k + attrsN r
theorem kept_bulk (base n : List UInt8) : ∀ l : List Pair, bulkP (keptA base n l) ≤ bulkP l + 3000 * l.length
  | [] => by simp [keptA, bulkP]
  | a :: l => by
    have h := kept_bulk base n l
    have ea : bulkP (a :: l) = (a.1.length + a.2.length + 2) + bulkP l := by simp [bulkP]
    have h1 : (toldA base a).2.length ≤ a.2.length + 3000 := by
      unfold toldA
      split
      · exact light_most
      · omega
    have h2 : (toldA base a).1.length = a.1.length := by rw [told_name]
    unfold keptA at h ⊢
    rw [List.map_cons, List.filter_cons, ea, List.length_cons]
    split
    · have e2 : bulkP (toldA base a :: (l.map (toldA base)).filter (fun a => attrE n a == 0)) = ((toldA base a).1.length + (toldA base a).2.length + 2) + bulkP ((l.map (toldA base)).filter (fun a => attrE n a == 0)) := by simp [bulkP]
      rw [e2]
      omega
    · omega
def Lst.bulk (s : Lst) : Nat := bulkNs s.all + if s.text.isEmpty = true then 0 else s.text.length + 3
theorem lbulk_done (s : Lst) : bulkNs s.done = s.bulk := by
  unfold Lst.done Lst.bulk
  split
  · rfl
  · rw [bulkNs_append]
    simp [textN, bulkNs, bulkP_nil]
theorem lbulk_putT (s : Lst) (n : List UInt8) (a : List Pair) (t : List UInt8) (k : List Nd) (hn : n.isEmpty = true) : (s.put (.mk n a t k)).bulk ≤ s.bulk + t.length + 3 := by
  unfold Lst.put
  rw [if_pos (show (Nd.mk n a t k).name.isEmpty = true from hn)]
  unfold Lst.bulk
  simp only [Nd.text]
  cases s.text <;> cases t <;> simp <;> omega
theorem lbulk_putE (s : Lst) (n : Nd) (hn : ¬ n.name.isEmpty = true) : (s.put n).bulk = s.bulk + bulkNs [n] := by
  unfold Lst.put
  rw [if_neg hn]
  unfold Lst.bulk
  simp only
  rw [bulkNs_append, lbulk_done]
  simp [Lst.bulk]
theorem clean_bulk (base : List UInt8) : ∀ (l : List Nd) (s : Lst), (cleanIn base s l).bulk ≤ s.bulk + (bulkNs l + 3000 * attrsN l)
  | [], s => by rw [cleanIn]; exact Nat.le_add_right _ _
  | .mk n a t k :: r, s => by
    rw [cleanIn, bulkNs, attrsN]
    by_cases h1 : n.isEmpty = true
    · rw [if_pos h1]
      have := clean_bulk base r (s.put (.mk n a t k))
      have := lbulk_putT s n a t k h1
      omega
    · rw [if_neg h1]
      by_cases h2 : goneN n = true
      · rw [if_pos h2]
        have := clean_bulk base r s
        omega
      · rw [if_neg h2]
        by_cases h3 : allowedN n = false
        · rw [if_pos h3]
          have := clean_bulk base r (cleanIn base s k)
          have := clean_bulk base k s
          omega
        · rw [if_neg h3]
          by_cases h4 : standE n (keptA base n a) = 0
          · rw [if_pos h4]
            have g1 := clean_bulk base r (s.put (.mk n (keptA base n a) [] (cleanIn base ⟨[], []⟩ k).done))
            have g2 := lbulk_putE s (.mk n (keptA base n a) [] (cleanIn base ⟨[], []⟩ k).done) h1
            have g3 := clean_bulk base k ⟨[], []⟩
            have g4 := lbulk_done (cleanIn base ⟨[], []⟩ k)
            have g5 : (⟨[], []⟩ : Lst).bulk = 0 := by simp [Lst.bulk, bulkNs]
            have g6 := kept_bulk base n a
            rw [bulkNs, bulkNs] at g2
            simp only [List.length_nil] at g2
            omega
          · rw [if_neg h4]
            have := clean_bulk base r s
            omega
theorem cleanL_bulk (base : List UInt8) (l : List Nd) : bulkNs (cleanL base l) ≤ bulkNs l + 3000 * attrsN l := by
  have := clean_bulk base l ⟨[], []⟩
  unfold cleanL
  rw [lbulk_done]
  have h5 : (⟨[], []⟩ : Lst).bulk = 0 := by simp [Lst.bulk, bulkNs]
  omega
def namesN : List Nd → Nat
  | [] => 0
  | .mk n _ _ k :: r => n.length + 5 + namesN k + namesN r
theorem names_bulk : (ns : List Nd) → namesN ns ≤ 2 * bulkNs ns
  | [] => by simp [namesN]
  | .mk n a t k :: r => by
    have h1 := names_bulk k
    have h2 := names_bulk r
    rw [namesN, bulkNs]
    omega
theorem names_app (a b : List Nd) : namesN (a ++ b) = namesN a + namesN b := by
  induction a with
  | nil => simp [namesN]
  | cons n a ih => cases n; rw [List.cons_append, namesN, namesN, ih]; omega
theorem flat_bulkL : (ns : List Nd) → bulkL (flatL ns) ≤ bulkNs ns + namesN ns
  | [] => by simp [flatL, bulkL]
  | .mk n a t k :: r => by
    have h1 := flat_bulkL k
    have h2 := flat_bulkL r
    rw [flatL, bulkNs, namesN, bulkL_app]
    split
    · have e1 : bulkL [⟨1, [], [], t⟩] = t.length + 4 := by simp [bulkL, bulkT, bulkP_nil]
      omega
    · rw [show (⟨2, n, a, []⟩ :: (flatL k ++ if emptyN n = true then [] else [⟨3, n, [], []⟩]) : List Tok) = [⟨2, n, a, []⟩] ++ (flatL k ++ if emptyN n = true then [] else [⟨3, n, [], []⟩]) from rfl, bulkL_app, bulkL_app]
      have e1 : bulkL [⟨2, n, a, []⟩] = n.length + bulkP a + 4 := by simp [bulkL, bulkT]
      have e2 : bulkL (if emptyN n = true then [] else [⟨3, n, [], []⟩]) ≤ n.length + 4 := by
        split
        · simp [bulkL]
        · simp [bulkL, bulkT, bulkP_nil]
      omega
def Lst.nm (s : Lst) : Nat := namesN s.all + if s.text.isEmpty = true then 0 else 5
theorem nm_done (s : Lst) : namesN s.done = s.nm := by
  unfold Lst.done Lst.nm
  split
  · rfl
  · rw [names_app]
    simp [textN, namesN]
theorem clean_nm (base : List UInt8) : ∀ (l : List Nd) (s : Lst), (cleanIn base s l).nm ≤ s.nm + namesN l
  | [], s => by rw [cleanIn]; exact Nat.le_add_right _ _
  | .mk n a t k :: r, s => by
    rw [cleanIn, namesN]
    by_cases h1 : n.isEmpty = true
    · rw [if_pos h1]
      have := clean_nm base r (s.put (.mk n a t k))
      have h2 : (s.put (.mk n a t k)).nm ≤ s.nm + 5 := by
        unfold Lst.put
        rw [if_pos (show (Nd.mk n a t k).name.isEmpty = true from h1)]
        unfold Lst.nm
        simp only
        split <;> omega
      omega
    · rw [if_neg h1]
      by_cases h2 : goneN n = true
      · rw [if_pos h2]
        have := clean_nm base r s
        omega
      · rw [if_neg h2]
        by_cases h3 : allowedN n = false
        · rw [if_pos h3]
          have := clean_nm base r (cleanIn base s k)
          have := clean_nm base k s
          omega
        · rw [if_neg h3]
          by_cases h4 : standE n (keptA base n a) = 0
          · rw [if_pos h4]
            have g1 := clean_nm base r (s.put (.mk n (keptA base n a) [] (cleanIn base ⟨[], []⟩ k).done))
            have g2 : (s.put (.mk n (keptA base n a) [] (cleanIn base ⟨[], []⟩ k).done)).nm = s.nm + (n.length + 5 + namesN (cleanIn base ⟨[], []⟩ k).done) := by
              unfold Lst.put
              rw [if_neg (show ¬ (Nd.mk n (keptA base n a) [] (cleanIn base ⟨[], []⟩ k).done).name.isEmpty = true from h1)]
              unfold Lst.nm
              simp only
              rw [names_app, nm_done, namesN, namesN]
              simp [Lst.nm]
            have g3 := clean_nm base k ⟨[], []⟩
            have g4 := nm_done (cleanIn base ⟨[], []⟩ k)
            have g5 : (⟨[], []⟩ : Lst).nm = 0 := by simp [Lst.nm, namesN]
            omega
          · rw [if_neg h4]
            have := clean_nm base r s
            omega
theorem cleanL_nm (base : List UInt8) (l : List Nd) : namesN (cleanL base l) ≤ namesN l := by
  have := clean_nm base l ⟨[], []⟩
  unfold cleanL
  rw [nm_done]
  have h5 : (⟨[], []⟩ : Lst).nm = 0 := by simp [Lst.nm, namesN]
  omega
theorem few_app (a b : List Nd) : FewNs (a ++ b) ↔ FewNs a ∧ FewNs b := by
  induction a with
  | nil => simp [FewNs]
  | cons n a ih => cases n; simp [FewNs, ih, and_assoc]
theorem fits_app (a b : List Nd) : FitsNs (a ++ b) ↔ FitsNs a ∧ FitsNs b := by
  induction a with
  | nil => simp [FitsNs]
  | cons n a ih => cases n; simp [FitsNs, ih, and_assoc]
theorem fit_text (t : List UInt8) : FewNs [textN t] ∧ FitsNs [textN t] := by simp [FewNs, FitsNs, textN, Fits]
theorem fit_done {s : Lst} (h : FewNs s.all ∧ FitsNs s.all) : FewNs s.done ∧ FitsNs s.done := by
  unfold Lst.done
  split
  · exact h
  · exact ⟨(few_app _ _).2 ⟨h.1, (fit_text _).1⟩, (fits_app _ _).2 ⟨h.2, (fit_text _).2⟩⟩
theorem clean_fit (base : List UInt8) : ∀ (l : List Nd) (s : Lst), FewNs l → FitsNs l → FewNs s.all ∧ FitsNs s.all → FewNs (cleanIn base s l).all ∧ FitsNs (cleanIn base s l).all
  | [], s, _, _, h => by rw [cleanIn]; exact h
  | .mk n a t k :: r, s, h1, h2, h => by
    rw [FewNs] at h1
    rw [FitsNs] at h2
    rw [cleanIn]
    split
    · rename_i hn
      refine clean_fit base r _ h1.2.2 h2.2.2 ?_
      unfold Lst.put; rw [if_pos (show (Nd.mk n a t k).name.isEmpty = true from hn)]; exact h
    · rename_i hn
      split
      · exact clean_fit base r s h1.2.2 h2.2.2 h
      · split
        · exact clean_fit base r _ h1.2.2 h2.2.2 (clean_fit base k s h1.2.1 h2.2.1 h)
        · split
          · have hk := fit_done (clean_fit base k ⟨[], []⟩ h1.2.1 h2.2.1 (by simp [FewNs, FitsNs]))
            refine clean_fit base r _ h1.2.2 h2.2.2 ?_
            unfold Lst.put; rw [if_neg (show ¬ (Nd.mk n (keptA base n a) [] (cleanIn base ⟨[], []⟩ k).done).name.isEmpty = true from hn)]
            have hd := fit_done h
            refine ⟨(few_app _ _).2 ⟨hd.1, ?_⟩, (fits_app _ _).2 ⟨hd.2, ?_⟩⟩
            · simp only [FewNs]
              exact ⟨Nat.le_trans (Nat.le_trans (List.length_filter_le _ _) (by simp)) h1.1, hk.1, trivial⟩
            · simp only [FitsNs]
              refine ⟨⟨h2.1.1, fun p hp => ?_⟩, hk.2, trivial⟩
              obtain ⟨b, hb, rfl⟩ := List.mem_map.1 (List.mem_filter.1 hp).1
              rw [told_name]
              exact h2.1.2 b hb
          · exact clean_fit base r s h1.2.2 h2.2.2 h
theorem cleanL_fit (base : List UInt8) (l : List Nd) (h1 : FewNs l) (h2 : FitsNs l) : FewNs (cleanL base l) ∧ FitsNs (cleanL base l) := fit_done (clean_fit base l ⟨[], []⟩ h1 h2 (by simp [FewNs, FitsNs]))
theorem bulk_val : (ns : List Nd) → bulkNs ns ≤ 1100000 → ValNs ns ∧ szNs ns ≤ bulkNs ns
  | [], _ => by simp [ValNs, szNs]
  | .mk n a t k :: r, h => by
    rw [bulkNs] at h
    have h1 := bulk_val k (by omega)
    have h2 := bulk_val r (by omega)
    have h3 := bulkP_len a
    have h4 : ∀ p ∈ a, p.2.length ≤ bulkP a := fun p hp => by
      clear h h1 h2 h3
      induction a with
      | nil => simp at hp
      | cons q a ih =>
        have ea : bulkP (q :: a) = (q.1.length + q.2.length + 2) + bulkP a := by simp [bulkP]
        rw [ea]
        rcases List.mem_cons.1 hp with rfl | hp
        · omega
        · have := ih hp; omega
    have h5 : 2 * a.length ≤ bulkP a := by
      have h6 : ∀ b : List Pair, 2 * b.length ≤ bulkP b := fun b => by
        induction b with
        | nil => simp [bulkP]
        | cons q b ih =>
          have ea : bulkP (q :: b) = (q.1.length + q.2.length + 2) + bulkP b := by simp [bulkP]
          rw [ea, List.length_cons]
          omega
      exact h6 a
    rw [ValNs, szNs, bulkNs]
    exact ⟨⟨⟨by omega, fun p hp => by have := h4 p hp; unfold maxLen; omega⟩, h1.1, h2.1⟩, by omega⟩
theorem named_bulk : ∀ (l : List Pair) (met : List (List UInt8)), chkA l met = 0 → 3 * l.length ≤ bulkP l
  | [], _, _ => by simp
  | p :: l, met, h => by
    unfold chkA at h
    split at h
    · simp at h
    · rename_i hn
      split at h
      · simp at h
      · have := named_bulk l _ h
        have ea : bulkP (p :: l) = (p.1.length + p.2.length + 2) + bulkP l := by simp [bulkP]
        have hp : p.1 ≠ [] := name_some (by simpa using hn)
        have := List.length_pos_iff.2 hp
        rw [ea, List.length_cons]
        omega
theorem attrs_bulk3 : ∀ (ns : List Nd) (ar : List (List UInt8)) (prev : Bool), Rt ar prev ns → 3 * attrsN ns ≤ bulkNs ns
  | [], _, _, _ => by simp [attrsN]
  | .mk n a t k :: r, ar, prev, h => by
    rw [Rt] at h
    rw [attrsN, bulkNs]
    by_cases hn : n = []
    · rw [if_pos hn] at h
      obtain ⟨_, ha, hk, _, hr⟩ := h
      subst ha hk
      have := attrs_bulk3 r ar true hr
      simp [attrsN, bulkNs, bulkP_nil]
      omega
    · rw [if_neg hn] at h
      obtain ⟨_, _, hc, _, _, _, hk, hr⟩ := h
      have h1 := attrs_bulk3 k _ _ hk
      have h2 := attrs_bulk3 r ar false hr
      have h3 := named_bulk a [] hc
      omega
def htmlT (base s : List UInt8) : List Nd := cleanL base (buildL (readL s))
theorem html_facts (base s : List UInt8) (hs : s.length ≤ 3000) :
    chkL (readL s) = 0 ∧ bulkL (readL s) ≤ 36000 ∧ chkTree (buildL (readL s)) = 0 ∧ bulkNs (buildL (readL s)) ≤ 36000 ∧ chkTree (htmlT base s) = 0 ∧ chkL (flatL (htmlT base s)) = 0 ∧ bulkL (flatL (htmlT base s)) ≤ 38000000 ∧ FewNs (htmlT base s) ∧ FitsNs (htmlT base s) ∧ sizeNs (htmlT base s) ≤ 3000 := by
  have h1 := readL_good s hs
  have h2 := readL_bulk s
  have h3 := chk_built _ h1
  have h4 := bulk_build (readL s)
  have h5 := (chkTree_ok _).1 h3
  have h6 := cleanL_right base _ h5.2
  have h7 := cleanL_size base (buildL (readL s))
  have h8 : chkTree (htmlT base s) = 0 := (chkTree_ok _).2 ⟨by unfold htmlT; omega, h6⟩
  have h9 := html_few base s
  have h10 : chkL (flatL (htmlT base s)) = 0 := chk_flat _ h6 (by unfold htmlT; omega)
  have h11 := flat_bulkL (htmlT base s)
  have h12 := cleanL_bulk base (buildL (readL s))
  have h13 := cleanL_nm base (buildL (readL s))
  have h14 := names_bulk (buildL (readL s))
  have h15 := attrs_bulk3 (buildL (readL s)) _ _ h5.2
  have h16 := bulkNs_fits (buildL (readL s)) (by omega)
  have h17 := cleanL_fit base _ h16.2 h16.1
  exact ⟨h1, by omega, h3, by omega, h8, h10, by unfold htmlT at h11 ⊢; omega, h17.1, h17.2, by unfold htmlT; omega⟩
theorem bulkL_len (l : List Tok) : 4 * l.length ≤ bulkL l := by
  induction l with
  | nil => simp
  | cons a l ih =>
    simp only [bulkL, List.map_cons, List.sum_cons, bulkT, List.length_cons] at ih ⊢
    omega
theorem treeOf_any (s : List UInt8) (w : World) (hs : s.length ≤ 3000) :
    Calls Tryz.prog 22 #[.string ⟨s.toArray⟩] w fun e w' => ∃ v, e = .returned v ∧ Ns w' (fun g => w.heap.size ≤ g) v (buildL (readL s)) ∧ Keeps [] w w' := by
  have htk := hide (tokensOf_any ⟨s.toArray⟩ w (by rw [str_size]; exact hs))
  rw [str_list] at htk
  obtain ⟨f1, f2, _, _, _, _, _, _, _, _⟩ := html_facts [] s hs
  have f3 := bulk_fits (l := readL s) (by omega)
  have f4 := bulkL_len (readL s)
  have f5 := fun t ht => bulkL_mem (t := t) (l := readL s) ht
  have hbd := hide (bo_build (readL s) (chkL_each _ f1) ((readL s).length + 1) (by omega))
  have hbx : ∀ (w1 : World) (l : List (Tok × Value)) (o : Option Addr) (c : Nat), l.map (·.1) = readL s → Lies w1 (.slice o l.length c) l.length 4 (outCells l) → (∀ p ∈ l, Lies w1 p.2 p.1.attrs.length 2 (pairCells p.1.attrs)) →
      Calls Tryz.prog 90 #[.slice o l.length c, .int .i64 0, .slice none 0 0] w1 fun e w' => BuiltX w1 (bo (readL s) ((readL s).length + 1) 0 [] []) e w' := fun w1 l o c h1 h2 h3 => by
    have hm : ∀ p ∈ l, p.1 ∈ readL s := fun p hp => by rw [← h1]; exact List.mem_map_of_mem hp
    have hl : l.length = (readL s).length := by rw [← h1, List.length_map]
    exact buildX_all w1 (readL s) l h1 o c h2 h3 (fun p hp => by have h9 := f5 _ (hm p hp); unfold bulkT at h9; omega) (fun p hp => by have h8 := f5 _ (hm p hp); have h9 := bulkP_len p.1.attrs; unfold bulkT at h8; omega) (by omega) ((readL s).length + 1) 0 (Nat.zero_le _) (by omega) w1 (Keeps.refl _ _) [] none 0 ⟨by simp [strCs], .inl ⟨rfl, rfl⟩⟩ (by simp)
  have HBX := hide hbx
  clear f1 f2 f3 f4 f5 hbx
  go_enter Tryz.func22, Tryz.ntmps22
  go_wp2_with fail
  refine htk.out.mono ?_
  rintro e w1 ⟨v, rfl, ⟨l, hl1, hl2, hl3⟩, hk1⟩
  obtain ⟨o, c, rfl, _, _⟩ := hl2.form
  have hb := hide (HBX.out w1 l o c hl1 hl2 hl3)
  have HK1 := hide hk1
  clear hl1 hl2 hl3 hk1 HBX htk
  go_wp2_with fail
  refine hb.out.mono ?_
  rintro e w2 ⟨o2, c2, rfl, hns, hk2⟩
  have HNS := hide hns
  have HK2 := hide hk2
  have HE := hide hbd.out
  clear hns hk2 hbd
  generalize bo (readL s) ((readL s).length + 1) 0 [] [] = R at *
  obtain ⟨R1, R2, R3⟩ := R
  simp only at HNS HE
  go_wp2_with fail
  go_ret
  exact ⟨_, rfl, by rw [← HE.out]; exact HNS.out.mono (fun g _ hg => Nat.le_trans HK1.out.size hg), HK1.out.trans HK2.out⟩
end Go.Proofs.YtlcljanibjdejaaGreat
