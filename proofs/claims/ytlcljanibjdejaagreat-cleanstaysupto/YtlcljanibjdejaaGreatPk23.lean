/- Nodes that were put one behind the other, texts joined, as a function. Clean trees, as functions: all text stays; what is clean is right, and cleaned again it is the same. A link, and an attribute, in the light of a base: link, attr. -/
import Derived.Test.YtlcljanibjdejaaGreatPk10
import Derived.Test.YtlcljanibjdejaaGreatPk22
import Derived.Test.YtlcljanibjdejaaGreatPk05
import Derived.Test.YtlcljanibjdejaaGreatPk18
namespace Go.Proofs.YtlcljanibjdejaaGreat

/-- Nodes that were put, and text behind them. -/
structure Lst where
  all : List Nd
  text : List UInt8
def Lst.done (s : Lst) : List Nd := if s.text.isEmpty = true then s.all else s.all ++ [textN s.text]
def Lst.put (s : Lst) (n : Nd) : Lst := if n.name.isEmpty = true then ⟨s.all, s.text ++ n.text⟩ else ⟨s.done ++ [n], []⟩


/-- How many cells' worth was put. -/
def Lst.weight (s : Lst) : Nat := s.all.length + s.text.length
theorem Lst.done_len (s : Lst) : s.done.length ≤ s.weight := by
  unfold Lst.done Lst.weight
  cases h : s.text
  · simp
  · simp
theorem Lst.put_weight (s : Lst) (n : Nd) : (s.put n).weight ≤ s.weight + 1 + n.text.length := by
  unfold Lst.put
  split
  · simp only [Lst.weight, List.length_append]; omega
  · have := s.done_len
    simp only [Lst.weight, List.length_append, List.length_nil, List.length_cons] at this ⊢
    omega
end Go.Proofs.YtlcljanibjdejaaGreat

namespace Go.Proofs.YtlcljanibjdejaaGreat

def cleanIn (base : List UInt8) : Lst → List Nd → Lst
  | s, [] => s
  | s, .mk n a t k :: r =>
    if n.isEmpty = true then cleanIn base (s.put (.mk n a t k)) r
    else if goneN n = true then cleanIn base s r
    else if allowedN n = false then cleanIn base (cleanIn base s k) r
    else if standE n (keptA base n a) = 0 then cleanIn base (s.put (.mk n (keptA base n a) [] (cleanIn base ⟨[], []⟩ k).done)) r
    else cleanIn base s r
def cleanL (base : List UInt8) (l : List Nd) : List Nd := (cleanIn base ⟨[], []⟩ l).done

def Lst.said (s : Lst) : List UInt8 := textNs false s.all ++ s.text
theorem said_done (s : Lst) : textNs false s.done = s.said := by
  unfold Lst.done Lst.said
  cases h : s.text <;> simp [textNs_append, textNs, textN]
theorem said_putT (s : Lst) (n : List UInt8) (a : List Pair) (t : List UInt8) (k : List Nd) (h : n = []) : (s.put (.mk n a t k)).said = s.said ++ t := by
  subst h
  simp [Lst.put, Lst.said, Nd.name, Nd.text]
theorem said_putE (s : Lst) (n : List UInt8) (a : List Pair) (k : List Nd) (h : n ≠ []) : (s.put (.mk n a [] k)).said = s.said ++ textNs false k := by
  cases n with
  | nil => exact absurd rfl h
  | cons c n =>
    simp only [Lst.put, Nd.name, List.isEmpty_cons, Bool.false_eq_true, if_false]
    unfold Lst.said
    rw [textNs_append, said_done]
    simp [textNs, Lst.said]

theorem attrsE_kept (el : List UInt8) : ∀ l : List Pair, (∀ a ∈ l, attrE el a = 0) → attrsE el l = 0
  | [], _ => rfl
  | a :: r, h => by
    rw [attrsE, if_pos (h a (by simp))]
    exact attrsE_kept el r (fun b hb => h b (by simp [hb]))
theorem kept_ok (base el : List UInt8) (l : List Pair) : attrsE el (keptA base el l) = 0 :=
  attrsE_kept el _ fun a ha => by
    have := (List.mem_filter.1 ha).2
    simpa using this
/-- An element that is allowed can't stand only if it is an img. -/
theorem stand_img {base n : List UInt8} {l : List Pair} (ha : allowedN n = true) (h : ¬ standE n (keptA base n l) = 0) : n = [105, 109, 103] := by
  by_cases hi : n = [105, 109, 103]
  · exact hi
  · exfalso
    apply h
    unfold standE
    have hb : (n == [105, 109, 103]) = false := by simpa using hi
    rw [kept_ok, ha, hb]
    cases n <;> simp

theorem clean_said (base : List UInt8) : ∀ (l : List Nd) (ar : List (List UInt8)) (prev : Bool) (s : Lst), Rt ar prev l → (cleanIn base s l).said = s.said ++ textNs true l
  | [], ar, prev, s, _ => by simp [cleanIn, textNs]
  | .mk n a t k :: r, ar, prev, s, h => by
    rw [Rt] at h
    rw [cleanIn, textNs]
    by_cases hn : n = []
    · rw [if_pos hn] at h
      subst hn
      obtain ⟨_, _, hk, _, hr⟩ := h
      subst hk
      rw [if_pos (show ([] : List UInt8).isEmpty = true from rfl), clean_said base r ar true _ hr, said_putT _ _ _ _ _ rfl]
      simp [goneN, textNs]
    · rw [if_neg hn] at h
      obtain ⟨_, ht, _, he, _, _, hk, hr⟩ := h
      subst ht
      have hne : ¬ n.isEmpty = true := by simpa using hn
      rw [if_neg hne]
      by_cases hg : goneN n = true
      · rw [if_pos hg, clean_said base r ar false _ hr]
        simp [hg]
      · have hg2 : ¬ (true && goneN n) = true := by simpa using hg
        rw [if_neg hg, if_neg hg2]
        by_cases ha : allowedN n = false
        · rw [if_pos ha, clean_said base r ar false _ hr, clean_said base k _ _ s hk]
          simp
        · rw [if_neg ha]
          by_cases hs : standE n (keptA base n a) = 0
          · rw [if_pos hs, clean_said base r ar false _ hr, said_putE _ _ _ _ hn, said_done, clean_said base k _ _ _ hk]
            simp [Lst.said, textNs]
          · rw [if_neg hs, clean_said base r ar false _ hr]
            have hi := stand_img (by simpa using ha) hs
            subst hi
            rw [he (by decide)]
            simp [textNs]
/-- All text stays. -/
theorem clean_text (base : List UInt8) (l : List Nd) (h : Rt [] false l) : textNs false (cleanL base l) = textNs true l := by
  unfold cleanL
  rw [said_done, clean_said base l [] false _ h]
  simp [Lst.said, textNs]
/-! ### what is clean stays so -/
theorem light_again (base s : List UInt8) : lightL base (lightL base s) = lightL base s := by
  unfold lightL
  by_cases h : 3000 < s.length
  · rw [if_pos h, if_pos h]
  · rw [if_neg h]
    cases hr : resAns base s with
    | none => rw [Option.getD_none, if_neg h, hr]; rfl
    | some r =>
      have := res_again hr
      rw [Option.getD_some, if_neg (by omega), this.2.1]
      rfl
theorem told_again (base : List UInt8) (a : Pair) : toldA base (toldA base a) = toldA base a := by
  unfold toldA
  by_cases h : linkN a.1 = true
  · rw [if_pos h]
    simp only
    rw [if_pos h, light_again]
  · rw [if_neg h, if_neg h]
theorem told_name (base : List UInt8) (a : Pair) : (toldA base a).1 = a.1 := by unfold toldA; split <;> rfl

theorem filter_same {p : Pair → Bool} : ∀ {l : List Pair}, (∀ a ∈ l, p a = true) → l.filter p = l := fun h => List.filter_eq_self.2 h
theorem kept_same {base el : List UInt8} {l : List Pair} (h1 : ∀ a ∈ l, attrE el a = 0) (h2 : ∀ a ∈ l, toldA base a = a) : keptA base el l = l := by
  unfold keptA
  have e : l.map (toldA base) = l := by
    conv => rhs; rw [← List.map_id l]
    exact List.map_congr_left (fun a ha => by rw [h2 a ha]; rfl)
  rw [e]
  exact filter_same fun a ha => by simp [h1 a ha]
theorem kept_mem {base el : List UInt8} {l : List Pair} {a : Pair} (h : a ∈ keptA base el l) : attrE el a = 0 ∧ toldA base a = a := by
  have h := List.mem_filter.1 h
  obtain ⟨b, _, hb⟩ := List.mem_map.1 h.1
  subst hb
  exact ⟨by simpa using h.2, told_again base b⟩

/-- Names that are right stay so where some go. -/
theorem chkA_less (f : Pair → Pair) (p : Pair → Bool) (hf : ∀ a, (f a).1 = a.1) : ∀ (l : List Pair) (m m' : List (List UInt8)), chkA l m = 0 → (∀ x, x ∈ m' → x ∈ m) → chkA ((l.map f).filter p) m' = 0
  | [], _, _, _, _ => rfl
  | a :: r, m, m', h, hm => by
    rw [chkA] at h
    by_cases h1 : isNameL a.1 = false
    · rw [if_pos h1] at h; simp at h
    · rw [if_neg h1] at h
      by_cases h2 : a.1 ∈ m
      · rw [if_pos h2] at h; simp at h
      · rw [if_neg h2] at h
        rw [List.map_cons]
        by_cases hp : p (f a) = true
        · rw [List.filter_cons_of_pos hp, chkA, hf, if_neg h1, if_neg (fun hx => h2 (hm _ hx))]
          exact chkA_less f p hf r _ _ h (fun x hx => by
            rcases List.mem_append.1 hx with hx | hx
            · exact List.mem_append_left _ (hm x hx)
            · exact List.mem_append_right _ hx)
        · rw [List.filter_cons_of_neg hp]
          exact chkA_less f p hf r _ _ h (fun x hx => List.mem_append_left _ (hm x hx))
theorem chkA_kept (base el : List UInt8) (l : List Pair) (h : chkA l [] = 0) : chkA (keptA base el l) [] = 0 := chkA_less (toldA base) _ (told_name base) l [] [] h (fun _ hx => hx)

/-- What is not allowed hides nothing, and is not looked for. -/
theorem opens_filter (is hides : List UInt8 → Bool) (h1 : ∀ x, is x = true → allowedN x = true) (h2 : ∀ x, hides x = true → allowedN x = true) (ns : List (List UInt8)) : opens is hides (ns.filter allowedN) = opens is hides ns := by
  have H : ∀ l : List (List UInt8), opens is hides (l.reverse.filter allowedN) = opens is hides l.reverse := by
    intro l
    induction l with
    | nil => rfl
    | cons x l ih =>
      rw [List.reverse_cons, List.filter_append, opens_snoc]
      by_cases hx : allowedN x = true
      · rw [List.filter_cons_of_pos hx, List.filter_nil, opens_snoc, ih]
      · rw [List.filter_cons_of_neg hx, List.filter_nil, List.append_nil, ih, if_neg (fun h => hx (h1 x h)), if_neg (fun h => hx (h2 x h))]
  have := H ns.reverse
  rwa [List.reverse_reverse] at this
theorem innerL_le' (is hides : List UInt8 → Bool) (ns : List (List UInt8)) : innerL is hides ns ≤ ns.length := innerTo_le _ _ _ _ (Nat.le_refl _)
theorem inner_filter (is hides : List UInt8 → Bool) (h1 : ∀ x, is x = true → allowedN x = true) (h2 : ∀ x, hides x = true → allowedN x = true) (ns : List (List UInt8)) (h : innerL is hides ns = ns.length) : innerL is hides (ns.filter allowedN) = (ns.filter allowedN).length := by
  have h3 := opens_filter is hides h1 h2 ns
  have h4 : opens is hides ns = false := by unfold opens; rw [h]; simp
  rw [h4] at h3
  unfold opens at h3
  have := innerL_le' is hides (ns.filter allowedN)
  simp at h3
  omega
theorem list_allowed : ∀ x, listN x = true → allowedN x = true := by
  intro x h
  simp only [listN, Bool.or_eq_true, beq_iff_eq] at h
  rcases h with rfl | rfl <;> decide
theorem wall_allowed : ∀ x, wallN x = true → allowedN x = true := by
  intro x h
  unfold wallN at h
  simp only [Bool.or_eq_true, beq_iff_eq] at h
  rcases h with (h | rfl) | rfl
  · exact list_allowed x h
  · decide
  · decide
theorem closed_filter (ns : List (List UInt8)) (n : List UInt8) (h : ns.length ≤ closedL ns n) : (ns.filter allowedN).length ≤ closedL (ns.filter allowedN) n := by
  have hp : ∀ x : List UInt8, (x == [112]) = true → allowedN x = true := fun x hx => by simp only [beq_iff_eq] at hx; subst hx; decide
  have hli : ∀ x : List UInt8, (x == [108, 105]) = true → allowedN x = true := fun x hx => by simp only [beq_iff_eq] at hx; subst hx; decide
  unfold closedL at h ⊢
  by_cases h1 : n = [108, 105]
  · subst h1
    have hb : blockN [108, 105] = true := by decide
    rw [if_pos rfl, if_pos hb] at h ⊢
    have a1 := innerL_le' (· == [112]) wallN ns
    have a2 := innerL_le' (· == [108, 105]) listN (ns.take (innerL (· == [112]) wallN ns))
    rw [List.length_take] at a2
    have a3 : innerL (· == [112]) wallN ns = ns.length := by omega
    rw [a3, List.take_length] at h
    have a4 : innerL (· == [108, 105]) listN ns = ns.length := Nat.le_antisymm (innerL_le' _ _ _) h
    rw [inner_filter _ _ hp wall_allowed ns a3, List.take_length, inner_filter _ _ hli list_allowed ns a4]
    exact Nat.le_refl _
  · rw [if_neg h1] at h ⊢
    by_cases h2 : blockN n = true
    · rw [if_pos h2] at h ⊢
      have a3 : innerL (· == [112]) wallN ns = ns.length := Nat.le_antisymm (innerL_le' _ _ _) h
      rw [inner_filter _ _ hp wall_allowed ns a3]
      exact Nat.le_refl _
    · rw [if_neg h2]
      exact Nat.le_refl _

/-- What was put is right. -/
def LstOk (ar : List (List UInt8)) (s : Lst) : Prop := Rt ar false s.all ∧ endsText s.all = false
theorem done_right {ar : List (List UInt8)} {s : Lst} (h : LstOk ar s) : Rt ar false s.done := by
  unfold Lst.done
  cases ht : s.text with
  | nil => exact h.1
  | cons c r => exact Rt_snoc_text _ _ _ _ h.1 (by simp) (fun _ => rfl) h.2
theorem put_rightT {ar : List (List UInt8)} {s : Lst} (h : LstOk ar s) (n : List UInt8) (a : List Pair) (t : List UInt8) (k : List Nd) (hn : n.isEmpty = true) : LstOk ar (s.put (.mk n a t k)) := by
  unfold Lst.put
  rw [if_pos (show (Nd.mk n a t k).name.isEmpty = true from hn)]
  exact h
theorem put_rightE {ar : List (List UInt8)} {s : Lst} (h : LstOk ar s) (n : Nd) (hn : ElOk ar n) : LstOk ar (s.put n) := by
  have hne := name_some hn.1
  unfold Lst.put
  rw [if_neg (by simpa using hne)]
  refine ⟨Rt_snoc_el _ _ _ _ (done_right h) hn, ?_⟩
  rw [endsText_snoc]
  simpa using hne

theorem clean_right (base : List UInt8) : ∀ (l : List Nd) (ar : List (List UInt8)) (prev : Bool) (s : Lst), Rt ar prev l → LstOk (ar.filter allowedN) s → LstOk (ar.filter allowedN) (cleanIn base s l)
  | [], ar, prev, s, _, hs => by rw [cleanIn]; exact hs
  | .mk n a t k :: r, ar, prev, s, h, hs => by
    rw [Rt] at h
    rw [cleanIn]
    by_cases hn : n = []
    · rw [if_pos hn] at h
      rw [if_pos (by simpa using hn)]
      exact clean_right base r ar true _ h.2.2.2.2 (put_rightT hs _ _ _ _ (by simpa using hn))
    · rw [if_neg hn] at h
      obtain ⟨h1, ht, h3, he, h5, h6, hk, hr⟩ := h
      rw [if_neg (by simpa using hn)]
      by_cases hg : goneN n = true
      · rw [if_pos hg]
        exact clean_right base r ar false _ hr hs
      · rw [if_neg hg]
        by_cases ha : allowedN n = false
        · rw [if_pos ha]
          refine clean_right base r ar false _ hr ?_
          have := clean_right base k (ar ++ [n]) false s hk (by rw [List.filter_append, List.filter_cons_of_neg (by simpa using ha), List.filter_nil, List.append_nil]; exact hs)
          rwa [List.filter_append, List.filter_cons_of_neg (by simpa using ha), List.filter_nil, List.append_nil] at this
        · rw [if_neg ha]
          by_cases hst : standE n (keptA base n a) = 0
          · rw [if_pos hst]
            refine clean_right base r ar false _ hr (put_rightE hs _ ?_)
            have ef : (ar ++ [n]).filter allowedN = ar.filter allowedN ++ [n] := by rw [List.filter_append, List.filter_cons_of_pos (by simpa using ha), List.filter_nil]
            have hks := clean_right base k (ar ++ [n]) false ⟨[], []⟩ hk ⟨Rt_nil _ _, rfl⟩
            rw [ef] at hks
            refine ⟨h1, rfl, chkA_kept base n a h3, fun hem => ?_, closed_filter ar n h5, Nat.lt_of_le_of_lt (List.length_filter_le _ _) h6, done_right hks⟩
            show (cleanIn base ⟨[], []⟩ k).done = []
            rw [he hem, cleanIn]
            rfl
          · rw [if_neg hst]
            exact clean_right base r ar false _ hr hs
theorem cleanL_right (base : List UInt8) (l : List Nd) (h : Rt [] false l) : Rt [] false (cleanL base l) := done_right (clean_right base l [] false _ h ⟨Rt_nil _ _, rfl⟩)

/-- How many nodes were put. -/
def Lst.size (s : Lst) : Nat := sizeNs s.all + if s.text.isEmpty = true then 0 else 1
theorem size_done (s : Lst) : sizeNs s.done = s.size := by
  unfold Lst.done Lst.size
  split
  · rfl
  · rw [sizeNs_append]; simp [sizeNs, textN]
theorem size_putT (s : Lst) (n : List UInt8) (a : List Pair) (t : List UInt8) (k : List Nd) (hn : n.isEmpty = true) : (s.put (.mk n a t k)).size ≤ s.size + 1 := by
  unfold Lst.put
  rw [if_pos (show (Nd.mk n a t k).name.isEmpty = true from hn)]
  unfold Lst.size
  simp only
  split <;> omega
theorem size_putE (s : Lst) (n : Nd) (hn : ¬ n.name.isEmpty = true) : (s.put n).size = s.size + 1 + sizeNs n.kids := by
  unfold Lst.put
  rw [if_neg hn]
  unfold Lst.size
  simp only
  rw [sizeNs_append, size_done, sizeNs_cons]
  simp [sizeNs, Lst.size]
  omega
theorem clean_size (base : List UInt8) : ∀ (l : List Nd) (s : Lst), (cleanIn base s l).size ≤ s.size + sizeNs l
  | [], s => by rw [cleanIn]; exact Nat.le_add_right _ _
  | .mk n a t k :: r, s => by
    rw [cleanIn, sizeNs]
    split
    · have := clean_size base r (s.put (.mk n a t k))
      have := size_putT s n a t k (by assumption)
      omega
    · split
      · have := clean_size base r s
        omega
      · split
        · have := clean_size base r (cleanIn base s k)
          have := clean_size base k s
          omega
        · split
          · have h1 := clean_size base r (s.put (.mk n (keptA base n a) [] (cleanIn base ⟨[], []⟩ k).done))
            have h2 := size_putE s (.mk n (keptA base n a) [] (cleanIn base ⟨[], []⟩ k).done) (by assumption)
            have h3 := clean_size base k ⟨[], []⟩
            have h4 := size_done (cleanIn base ⟨[], []⟩ k)
            have h5 : (⟨[], []⟩ : Lst).size = 0 := by simp [Lst.size, sizeNs]
            have h6 : sizeNs (Nd.mk n (keptA base n a) [] (cleanIn base ⟨[], []⟩ k).done).kids = (cleanIn base ⟨[], []⟩ k).size := h4
            omega
          · have := clean_size base r s
            omega
theorem cleanL_size (base : List UInt8) (l : List Nd) : sizeNs (cleanL base l) ≤ sizeNs l := by
  have := clean_size base l ⟨[], []⟩
  unfold cleanL
  rw [size_done]
  have h5 : (⟨[], []⟩ : Lst).size = 0 := by simp [Lst.size, sizeNs]
  omega

/-- All nodes can stand. -/
def AllSt : List Nd → Prop
  | [] => True
  | .mk n a _ k :: r => standE n a = 0 ∧ AllSt k ∧ AllSt r
/-- All attributes of elements are what they are in the light of a base. -/
def AllTold (base : List UInt8) : List Nd → Prop
  | [] => True
  | .mk n a _ k :: r => (n ≠ [] → ∀ x ∈ a, toldA base x = x) ∧ AllTold base k ∧ AllTold base r
theorem AllSt_append (a b : List Nd) : AllSt (a ++ b) ↔ AllSt a ∧ AllSt b := by
  induction a with
  | nil => simp [AllSt]
  | cons n a ih => cases n; simp [AllSt, ih, and_assoc]
theorem AllTold_append (base : List UInt8) (a b : List Nd) : AllTold base (a ++ b) ↔ AllTold base a ∧ AllTold base b := by
  induction a with
  | nil => simp [AllTold]
  | cons n a ih => cases n; simp [AllTold, ih, and_assoc]
theorem st_text (t : List UInt8) : AllSt [textN t] := by simp [AllSt, textN, standE]
theorem told_text (base t : List UInt8) : AllTold base [textN t] := by simp [AllTold, textN]
theorem st_done {s : Lst} (h : AllSt s.all) : AllSt s.done := by
  unfold Lst.done
  split
  · exact h
  · exact (AllSt_append _ _).2 ⟨h, st_text _⟩
theorem told_done {base : List UInt8} {s : Lst} (h : AllTold base s.all) : AllTold base s.done := by
  unfold Lst.done
  split
  · exact h
  · exact (AllTold_append _ _ _).2 ⟨h, told_text _ _⟩
theorem clean_stands (base : List UInt8) : ∀ (l : List Nd) (s : Lst), AllSt s.all → AllTold base s.all → AllSt (cleanIn base s l).all ∧ AllTold base (cleanIn base s l).all
  | [], s, h, h' => by rw [cleanIn]; exact ⟨h, h'⟩
  | .mk n a t k :: r, s, h, h' => by
    rw [cleanIn]
    split
    · rename_i hn
      refine clean_stands base r _ ?_ ?_
      · unfold Lst.put; rw [if_pos (show (Nd.mk n a t k).name.isEmpty = true from hn)]; exact h
      · unfold Lst.put; rw [if_pos (show (Nd.mk n a t k).name.isEmpty = true from hn)]; exact h'
    · rename_i hn
      split
      · exact clean_stands base r s h h'
      · split
        · have := clean_stands base k s h h'
          exact clean_stands base r _ this.1 this.2
        · split
          · rename_i hs
            have hk := clean_stands base k ⟨[], []⟩ (by simp [AllSt]) (by simp [AllTold])
            refine clean_stands base r _ ?_ ?_
            · unfold Lst.put; rw [if_neg (show ¬ (Nd.mk n (keptA base n a) [] (cleanIn base ⟨[], []⟩ k).done).name.isEmpty = true from hn)]
              refine (AllSt_append _ _).2 ⟨st_done h, ?_⟩
              simp only [AllSt]
              exact ⟨hs, st_done hk.1, trivial⟩
            · unfold Lst.put; rw [if_neg (show ¬ (Nd.mk n (keptA base n a) [] (cleanIn base ⟨[], []⟩ k).done).name.isEmpty = true from hn)]
              refine (AllTold_append _ _ _).2 ⟨told_done h', ?_⟩
              simp only [AllTold]
              exact ⟨fun _ x hx => (kept_mem hx).2, told_done hk.2, trivial⟩
          · exact clean_stands base r s h h'
theorem cleanL_stands (base : List UInt8) (l : List Nd) : AllSt (cleanL base l) ∧ AllTold base (cleanL base l) := by
  have := clean_stands base l ⟨[], []⟩ (by simp [AllSt]) (by simp [AllTold])
  exact ⟨st_done this.1, told_done this.2⟩

theorem attrsE_each {el : List UInt8} : ∀ {l : List Pair}, attrsE el l = 0 → ∀ a ∈ l, attrE el a = 0
  | b :: r, h, a, ha => by
    rw [attrsE] at h
    by_cases hb : attrE el b = 0
    · rw [if_pos hb] at h
      rcases List.mem_cons.1 ha with rfl | ha
      · exact hb
      · exact attrsE_each h a ha
    · rw [if_neg hb] at h
      exact absurd h hb
theorem stand_each {n : List UInt8} {l : List Pair} (hn : n ≠ []) (h : standE n l = 0) : allowedN n = true ∧ ∀ a ∈ l, attrE n a = 0 := by
  unfold standE at h
  rw [if_neg (by simpa using hn)] at h
  by_cases ha : allowedN n = false
  · rw [if_pos ha] at h; simp at h
  · rw [if_neg ha] at h
    refine ⟨by simpa using ha, ?_⟩
    by_cases hA : attrsE n l = 0
    · exact attrsE_each hA
    · rw [if_neg hA] at h
      exact absurd h hA
theorem gone_not {n : List UInt8} (h : allowedN n = true) : goneN n = false := by
  cases hg : goneN n with
  | false => rfl
  | true =>
    unfold goneN at hg
    simp only [Bool.or_eq_true, beq_iff_eq] at hg
    rcases hg with (rfl | rfl) | rfl <;> exact absurd h (by decide)

/-- What was put, and text that stands behind it, as nodes. -/
theorem clean_same (base : List UInt8) : ∀ (l : List Nd) (ar : List (List UInt8)) (prev : Bool) (s : Lst), Rt ar prev l → AllSt l → AllTold base l → (s.text ≠ [] → prev = true) → (cleanIn base s l).done = s.done ++ l
  | [], ar, prev, s, _, _, _, _ => by rw [cleanIn, List.append_nil]
  | .mk n a t k :: r, ar, prev, s, h, hS, hT, hp => by
    rw [Rt] at h
    rw [AllSt] at hS
    rw [AllTold] at hT
    rw [cleanIn]
    by_cases hn : n = []
    · rw [if_pos hn] at h
      obtain ⟨h1, h2, h3, h4, hr⟩ := h
      subst hn h2 h3
      have hs0 : s.text = [] := by
        cases hq : s.text with
        | nil => rfl
        | cons c x => have := hp (by rw [hq]; simp); rw [h4] at this; simp at this
      rw [if_pos (show ([] : List UInt8).isEmpty = true from rfl), clean_same base r ar true _ hr hS.2.2 hT.2.2 (fun _ => rfl)]
      have e1 : s.done = s.all := by unfold Lst.done; rw [hs0]; rfl
      have e2 : (s.put (.mk [] [] t [])).done = s.all ++ [textN t] := by
        have e3 : s.put (.mk [] [] t []) = ⟨s.all, t⟩ := by
          unfold Lst.put
          rw [if_pos (show (Nd.mk [] [] t []).name.isEmpty = true from rfl), hs0]
          rfl
        rw [e3]
        unfold Lst.done
        rw [if_neg (by simpa using h1)]
      rw [e1, e2, List.append_assoc]
      rfl
    · rw [if_neg hn] at h
      obtain ⟨_, ht, _, _, _, _, hk, hr⟩ := h
      subst ht
      obtain ⟨ha, hat⟩ := stand_each hn hS.1
      have hkept : keptA base n a = a := kept_same hat (hT.1 hn)
      rw [if_neg (by simpa using hn), if_neg (by rw [gone_not ha]; simp), if_neg (by rw [ha]; simp), hkept, if_pos hS.1]
      have ek := clean_same base k _ _ ⟨[], []⟩ hk hS.2.1 hT.2.1 (fun h => absurd rfl h)
      have ek2 : (cleanIn base ⟨[], []⟩ k).done = k := ek
      rw [ek2, clean_same base r ar false _ hr hS.2.2 hT.2.2 (fun h => by unfold Lst.put at h; rw [if_neg (show ¬ (Nd.mk n a [] k).name.isEmpty = true from by simpa [Nd.name] using hn)] at h; exact absurd rfl h)]
      have e3 : (s.put (.mk n a [] k)).done = s.done ++ [.mk n a [] k] := by
        unfold Lst.put
        rw [if_neg (show ¬ (Nd.mk n a [] k).name.isEmpty = true from by simpa [Nd.name] using hn)]
        rfl
      rw [e3, List.append_assoc]
      rfl
theorem cleanL_same (base : List UInt8) (l : List Nd) (h : Rt [] false l) (hS : AllSt l) (hT : AllTold base l) : cleanL base l = l := by
  unfold cleanL
  rw [clean_same base l [] false _ h hS hT (fun h => absurd rfl h)]
  rfl
/-- Cleaned again it is the same. -/
theorem cleanL_again (base : List UInt8) (l : List Nd) (h : Rt [] false l) : cleanL base (cleanL base l) = cleanL base l := cleanL_same base _ (cleanL_right base l h) (cleanL_stands base l).1 (cleanL_stands base l).2
end Go.Proofs.YtlcljanibjdejaaGreat

namespace Go.Proofs.YtlcljanibjdejaaGreat
open Go.RowKit Go.Maps

set_option maxHeartbeats 2000000 in
theorem cleanLink_any (base s : List UInt8) (w : World) (hM : HasMax w) (hb : base.length ≤ 3000) (hs : s.length ≤ maxLen) :
    Calls Tryz.prog 323 #[.agg #[.string ⟨base.toArray⟩], .string ⟨s.toArray⟩] w fun e w' => e = .returned (.string ⟨(lightL base s).toArray⟩) ∧ Keeps [] w w' := by
  have hkA : Keeps [] w (w.alloc (.cells #[.string ⟨base.toArray⟩] 126)) := (Keeps.refl [] w).alloc _
  have hM1 := hM.keeps hkA List.not_mem_nil
  unfold lightL
  by_cases h3 : 3000 < s.length
  · rw [if_pos h3]
    have hc := hide (fun w => resolve_long ⟨base.toArray⟩ ⟨s.toArray⟩ w (by rw [str_size]; unfold maxLen; omega) (by rw [str_size]; exact hs) (.inr (by rw [str_size]; exact h3)))
    clear h3 hs
    go_enter Tryz.func323, Tryz.ntmps323
    go_wp2_with fail
    refine (hc.out _).mono ?_
    rintro e w1 ⟨rfl, h9⟩
    subst h9
    go_wp2_with fail
    go_ret
    exact ⟨rfl, hkA⟩
  · rw [if_neg h3]
    have hc := hide (resolve_any ⟨base.toArray⟩ ⟨s.toArray⟩ _ (by rw [str_size]; omega) (by rw [str_size]; omega) hM1)
    rw [str_list, str_list] at hc
    generalize resAns base s = A at *
    clear h3 hs hb
    cases A with
    | none =>
      simp only [ansO] at hc
      go_enter Tryz.func323, Tryz.ntmps323
      go_wp2_with fail
      refine hc.out.mono ?_
      rintro e w1 ⟨rfl, hk1⟩
      go_wp2_with fail
      go_ret
      exact ⟨rfl, hkA.trans hk1⟩
    | some x =>
      simp only [ansO] at hc
      go_enter Tryz.func323, Tryz.ntmps323
      go_wp2_with fail
      refine hc.out.mono ?_
      rintro e w1 ⟨rfl, hk1⟩
      go_wp2_with fail
      go_ret
      exact ⟨rfl, hkA.trans hk1⟩

theorem light_len {base s : List UInt8} (hs : s.length ≤ maxLen) : (lightL base s).length ≤ maxLen := by
  unfold lightL
  split
  · exact hs
  · cases h : resAns base s with
    | none => exact hs
    | some r => have := (res_again h).2.2; rw [Option.getD_some]; unfold maxLen; omega
theorem told_len {base : List UInt8} {a : Pair} (ha : a.2.length ≤ maxLen) : (toldA base a).2.length ≤ maxLen := by
  unfold toldA
  split
  · exact light_len ha
  · exact ha

theorem pair_set1 {w : World} {b : Nat} {n v : List UInt8} {t : TypeId} (h : w.heap[b]? = some (.cells #[.string ⟨n.toArray⟩, .string ⟨v.toArray⟩] t (0, 0))) (u : List UInt8) : (w.setCell ⟨b, 1, none⟩ (.string ⟨u.toArray⟩)).heap[b]? = some (.cells #[.string ⟨n.toArray⟩, .string ⟨u.toArray⟩] t (0, 0)) := by
  simp [World.setCell, Array.getElem?_modify, h]

theorem pair_set01 {w : World} {b : Nat} {x y : Value} {t : TypeId} (h : w.heap[b]? = some (.cells #[x, y] t (0, 0))) (u v : Value) : ((w.setCell ⟨b, 0, none⟩ u).setCell ⟨b, 1, none⟩ v).heap[b]? = some (.cells #[u, v] t (0, 0)) := by
  simp [World.setCell, Array.getElem?_modify, h]

set_option maxRecDepth 4000 in
set_option maxHeartbeats 4000000 in
theorem cleanAttr_any (base el : List UInt8) (a : Pair) (w : World) (hM : HasMax w) (hb : base.length ≤ 3000) (ha : a.2.length ≤ maxLen) :
    Calls Tryz.prog 297 #[.agg #[.string ⟨base.toArray⟩], .string ⟨el.toArray⟩, .agg #[.string ⟨a.1.toArray⟩, .string ⟨a.2.toArray⟩]] w fun e w' =>
      (attrE el (toldA base a) = 0 ∧ e = .returned (.agg #[.string ⟨(toldA base a).1.toArray⟩, .string ⟨(toldA base a).2.toArray⟩]) ∨ attrE el (toldA base a) ≠ 0 ∧ e = .panicked (stopped (attrE el (toldA base a)))) ∧ Keeps [] w w' := by
  have htl := told_len (base := base) ha
  obtain ⟨n, v⟩ := a
  simp only at ha
  have htn : (toldA base (n, v)).1 = n := told_name base (n, v)
  obtain ⟨u, hu⟩ : ∃ u, (toldA base (n, v)).2 = u := ⟨_, rfl⟩
  have hT : toldA base (n, v) = (n, u) := Prod.ext htn hu
  rw [hT] at htl ⊢
  have hUv : (linkN n = true → u = lightL base v) ∧ (linkN n = false → u = v) := by
    rw [← hu]
    unfold toldA
    constructor
    · intro h; rw [if_pos h]
    · intro h; rw [if_neg (by rw [h]; simp)]
  clear htn hu
  simp only at htl
  obtain ⟨W, hW⟩ : ∃ W, ((w.alloc (.cells #[.string ⟨base.toArray⟩] 126)).alloc (.cells #[.string ⟨n.toArray⟩, .string ⟨v.toArray⟩] 52)).alloc (.cells #[.string ⟨#[]⟩, .string ⟨#[]⟩] 52) = W := ⟨_, rfl⟩
  have hkW : Keeps [] w W := by rw [← hW]; exact (((Keeps.refl [] w).alloc _).alloc _).alloc _
  have s1 : (w.alloc (.cells #[.string ⟨base.toArray⟩] 126)).heap.size = w.heap.size + 1 := by simp
  have s2 : ((w.alloc (.cells #[.string ⟨base.toArray⟩] 126)).alloc (.cells #[.string ⟨n.toArray⟩, .string ⟨v.toArray⟩] 52)).heap.size = w.heap.size + 1 + 1 := by simp
  have hb0 : W.heap[w.heap.size]? = some (.cells #[.string ⟨base.toArray⟩] 126 (0, 0)) := by
    rw [← hW, Below.heap_alloc _ _ _ (by rw [s2]; omega), Below.heap_alloc _ _ _ (by rw [s1]; omega)]
    exact heap_alloc_new w _
  have hb1 : W.heap[w.heap.size + 1]? = some (.cells #[.string ⟨n.toArray⟩, .string ⟨v.toArray⟩] 52 (0, 0)) := by
    rw [← hW, Below.heap_alloc _ _ _ (by rw [s2]; omega), ← s1]
    exact heap_alloc_new _ _
  have hb2 : W.heap[w.heap.size + 1 + 1]? = some (.cells #[.string ⟨#[]⟩, .string ⟨#[]⟩] 52 (0, 0)) := by
    rw [← hW, ← s2]
    exact heap_alloc_new _ _
  clear s1 s2
  have hM1 := hide (hM.keeps hkW List.not_mem_nil)
  have hln := hide (fun w => isLink_any n w)
  have c00 : W.cell? ⟨w.heap.size, 0, none⟩ = some (.string ⟨base.toArray⟩) := cell_blk hb0 0
  have c10 : W.cell? ⟨w.heap.size + 1, 0, none⟩ = some (.string ⟨n.toArray⟩) := cell_blk hb1 0
  have c11 : W.cell? ⟨w.heap.size + 1, 1, none⟩ = some (.string ⟨v.toArray⟩) := cell_blk hb1 1
  have HB1 := hide hb1
  have HB2 := hide hb2
  clear hb0 hb1 hb2
  have hres : ∀ (tmps : Array Value) (w3 : World), tmps.getD 6 undef = .pointer (some ⟨w.heap.size + 1 + 1, 0, none⟩) → w3.heap[w.heap.size + 1 + 1]? = some (.cells #[.string ⟨n.toArray⟩, .string ⟨u.toArray⟩] 52 (0, 0)) → (results Tryz.f297 tmps).run Tryz.prog w3 = .ok (.agg #[.string ⟨n.toArray⟩, .string ⟨u.toArray⟩]) w3 := fun tmps w3 hp hg => results_cell_row (P := Tryz.prog) rfl tmps w3 _ 52 _ (0, 0) _ hp hg Tryz.underlying52 rfl (by kernel_rfl)
  cases hl : linkN n
  · have huv := hUv.2 hl
    subst huv
    rw [hl] at hln
    have hmu := hide (attrMust_any el (n, u) W hM1.out htl)
    generalize attrE el (n, u) = E at *
    go_enter Tryz.func297, Tryz.ntmps297
    go_wp2_with fail
    refine (hln.out _).mono ?_
    rintro e w1 ⟨rfl, h9⟩
    obtain rfl : W = w1 := h9.symm
    go_wp2_with fail
    refine hmu.out.mono ?_
    rintro e w1 ⟨⟨hE, rfl⟩ | ⟨hE, rfl⟩, hk1⟩
    · have d1 := (hk1.block _ (lt_of_block HB1.out) List.not_mem_nil).trans HB1.out
      have d2 := (hk1.block _ (lt_of_block HB2.out) List.not_mem_nil).trans HB2.out
      have e10 : w1.cell? ⟨w.heap.size + 1, 0, none⟩ = some (.string ⟨n.toArray⟩) := cell_blk d1 0
      have e11 : w1.cell? ⟨w.heap.size + 1, 1, none⟩ = some (.string ⟨u.toArray⟩) := cell_blk d1 1
      have e20 : w1.cell? ⟨w.heap.size + 1 + 1, 0, none⟩ = some (.string ⟨#[]⟩) := cell_blk d2 0
      have e21 : w1.cell? ⟨w.heap.size + 1 + 1, 1, none⟩ = some (.string ⟨#[]⟩) := cell_blk d2 1
      have f20 : w1.frozen? ⟨w.heap.size + 1 + 1, 0, none⟩ = false := free_blk d2 0
      have f21 : w1.frozen? ⟨w.heap.size + 1 + 1, 1, none⟩ = false := free_blk d2 1
      clear c00 c10 c11
      go_wp2_with fail
      exact ⟨rfl, _, hres _ _ rfl (pair_set01 d2 _ _), .inl ⟨hE, rfl⟩, keeps_on (hkW.trans hk1) (((Keeps.refl [w.heap.size + 1 + 1] w1).setCell (p := ⟨w.heap.size + 1 + 1, 0, none⟩) (.inl (by simp)) _).setCell (p := ⟨w.heap.size + 1 + 1, 1, none⟩) (.inl (by simp)) _) (fun g hg hlt => by simp at hg; omega)⟩
    · exact ⟨rfl, .inr ⟨hE, rfl⟩, hkW.trans hk1⟩
  · have huv := hUv.1 hl
    rw [hl] at hln
    have hlk := hide (cleanLink_any base v W hM1.out hb ha)
    rw [← huv] at hlk
    have hmu := hide (fun W2 hM2 => attrMust_any el (n, u) W2 hM2 htl)
    generalize attrE el (n, u) = E at *
    clear huv hUv hT
    go_enter Tryz.func297, Tryz.ntmps297
    go_wp2_with fail
    refine (hln.out _).mono ?_
    rintro e w1 ⟨rfl, h9⟩
    obtain rfl : W = w1 := h9.symm
    go_wp2_with fail
    refine hlk.out.mono ?_
    rintro e w1 ⟨rfl, hk1⟩
    have d1 := (hk1.block _ (lt_of_block HB1.out) List.not_mem_nil).trans HB1.out
    have d2 := (hk1.block _ (lt_of_block HB2.out) List.not_mem_nil).trans HB2.out
    have e11 : w1.cell? ⟨w.heap.size + 1, 1, none⟩ = some (.string ⟨v.toArray⟩) := cell_blk d1 1
    have f11 : w1.frozen? ⟨w.heap.size + 1, 1, none⟩ = false := free_blk d1 1
    have hks : Keeps [w.heap.size + 1] w1 (w1.setCell ⟨w.heap.size + 1, 1, none⟩ (.string ⟨u.toArray⟩)) := (Keeps.refl [w.heap.size + 1] w1).setCell (.inl (by simp)) _
    obtain ⟨W2, hW2⟩ : ∃ W2, w1.setCell ⟨w.heap.size + 1, 1, none⟩ (.string ⟨u.toArray⟩) = W2 := ⟨_, rfl⟩
    have hM2 : HasMax W2 := by rw [← hW2]; exact (hM1.out.keeps hk1 List.not_mem_nil).keeps hks (fun h => by simp at h)
    have p1 := pair_set1 d1 u
    have p2 := (hks.block _ (lt_of_block d2) (by simp)).trans d2
    rw [hW2] at p1 p2 hks
    have e10' : W2.cell? ⟨w.heap.size + 1, 0, none⟩ = some (.string ⟨n.toArray⟩) := cell_blk p1 0
    have e11' : W2.cell? ⟨w.heap.size + 1, 1, none⟩ = some (.string ⟨u.toArray⟩) := cell_blk p1 1
    clear c00 c10 c11
    go_wp2_with fail
    refine (hmu.out _ hM2).mono ?_
    rintro e w3 ⟨⟨hE, rfl⟩ | ⟨hE, rfl⟩, hk3⟩
    · have q1 := (hk3.block _ (lt_of_block p1) List.not_mem_nil).trans p1
      have q2 := (hk3.block _ (lt_of_block p2) List.not_mem_nil).trans p2
      have e10 : w3.cell? ⟨w.heap.size + 1, 0, none⟩ = some (.string ⟨n.toArray⟩) := cell_blk q1 0
      have e11 : w3.cell? ⟨w.heap.size + 1, 1, none⟩ = some (.string ⟨u.toArray⟩) := cell_blk q1 1
      have e20 : w3.cell? ⟨w.heap.size + 1 + 1, 0, none⟩ = some (.string ⟨#[]⟩) := cell_blk q2 0
      have e21 : w3.cell? ⟨w.heap.size + 1 + 1, 1, none⟩ = some (.string ⟨#[]⟩) := cell_blk q2 1
      have f20 : w3.frozen? ⟨w.heap.size + 1 + 1, 0, none⟩ = false := free_blk q2 0
      have f21 : w3.frozen? ⟨w.heap.size + 1 + 1, 1, none⟩ = false := free_blk q2 1
      clear e10' e11' f11
      go_wp2_with fail
      exact ⟨rfl, _, hres _ _ rfl (pair_set01 q2 _ _), .inl ⟨hE, rfl⟩, keeps_on (keeps_on (hkW.trans hk1) (hks.trans (hk3.to (by simp))) (fun g hg hlt => by simp at hg; omega)) (((Keeps.refl [w.heap.size + 1 + 1] w3).setCell (p := ⟨w.heap.size + 1 + 1, 0, none⟩) (.inl (by simp)) _).setCell (p := ⟨w.heap.size + 1 + 1, 1, none⟩) (.inl (by simp)) _) (fun g hg hlt => by simp at hg; omega)⟩
    · exact ⟨rfl, .inr ⟨hE, rfl⟩, keeps_on (hkW.trans hk1) (hks.trans (hk3.to (by simp))) (fun g hg hlt => by simp at hg; omega)⟩
end Go.Proofs.YtlcljanibjdejaaGreat
