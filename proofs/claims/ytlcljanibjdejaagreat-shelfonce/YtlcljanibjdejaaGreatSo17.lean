/- What is read, built and cleaned of a text is no more than may be printed. -/
import Derived.Test.YtlcljanibjdejaaGreatSo16
namespace Go.Proofs.YtlcljanibjdejaaGreat
open Go.RowKit Go.Maps
/-- What a token weighs: as many as stand in its element's place. -/
def wT (t : Tok) : Nat := if t.kind = 2 then 2 else if t.kind = 1 then 1 else 0
def wL (ts : List Tok) : Nat := (ts.map wT).sum
theorem wL_app (a b : List Tok) : wL (a ++ b) = wL a + wL b := by simp [wL]
theorem endT_w (raw : List UInt8) : wL (endT raw) = if raw = [] then 0 else 1 := by
  unfold endT
  split
  · rfl
  · simp [wL, wT, textTok]
def Light (k : Nat) (raw : List UInt8) (out : List Tok) : Prop := wL out + (if raw = [] then 0 else 1) ≤ k
theorem Light.tag {k k' : Nat} {raw : List UInt8} {out : List Tok} (h : Light k raw out) (t : Tok) (hk : k + wT t ≤ k') : Light k' [] (out ++ endT raw ++ [t]) := by
  unfold Light at h ⊢
  rw [wL_app, wL_app, endT_w]
  have : wL [t] = wT t := by simp [wL]
  rw [this, if_pos rfl]
  omega
theorem Light.on {k k' : Nat} {raw raw' : List UInt8} {out : List Tok} (h : Light k raw out) (hk : k < k') : Light k' raw' out := by
  unfold Light at h ⊢
  split
  · omega
  · omega
theorem name_pos {N : List UInt8} (h : isNameL (lowerL N) = true) : 1 ≤ N.length := by
  unfold isNameL at h
  simp [lowerL] at h
  omega
theorem piece_light {l : List UInt8} {k : Nat} {raw : List UInt8} {out : List Tok} {k' : Nat} {raw' : List UInt8} {out' : List Tok} (h : pieceL l k raw out = some (k', raw', out')) (hk : k < l.length) (hg : Light k raw out) : Light k' raw' out' := by
  have hb := (pieceL_bound h hk).1
  unfold pieceL at h
  split at h
  · unfold openL at h
    split at h
    · simp at h
    · rename_i a k2 ha
      have hk2 := attrsAt_bulk _ _ _ _ _ _ ha
      split at h
      · rename_i hn
        have hp := name_pos hn
        simp only [Option.some.injEq, Prod.mk.injEq] at h
        obtain ⟨rfl, rfl, rfl⟩ := h
        refine hg.tag _ ?_
        have e0 : bulkP ([] : List Pair) = 0 := rfl
        rw [e0] at hk2
        have : wT ⟨2, lowerL ((l.drop (k + 1)).takeWhile tagN), a, []⟩ = 2 := rfl
        rw [this]
        omega
      · simp only [Option.some.injEq, Prod.mk.injEq] at h
        obtain ⟨rfl, rfl, rfl⟩ := h
        exact hg.on hb
  split at h
  · unfold closeL at h
    split at h
    · simp at h
    · split at h
      · simp only [Option.some.injEq, Prod.mk.injEq] at h
        obtain ⟨rfl, rfl, rfl⟩ := h
        refine hg.tag _ ?_
        have : wT ⟨3, lowerL ((l.drop (k + 2)).takeWhile tagN), [], []⟩ = 0 := rfl
        rw [this]
        omega
      · simp only [Option.some.injEq, Prod.mk.injEq] at h
        obtain ⟨rfl, rfl, rfl⟩ := h
        exact hg.on hb
  split at h
  · unfold comL at h
    split at h
    · simp at h
    · simp only [Option.some.injEq, Prod.mk.injEq] at h
      obtain ⟨rfl, rfl, rfl⟩ := h
      exact hg.on hb
  split at h
  · unfold declL at h
    split at h
    · simp at h
    · simp only [Option.some.injEq, Prod.mk.injEq] at h
      obtain ⟨rfl, rfl, rfl⟩ := h
      exact hg.on hb
  · unfold textL at h
    simp only [Option.some.injEq, Prod.mk.injEq] at h
    obtain ⟨rfl, rfl, rfl⟩ := h
    exact hg.on hb
theorem light_end {k : Nat} {raw : List UInt8} {out : List Tok} (h : Light k raw out) : wL (out ++ endT raw) ≤ k := by
  unfold Light at h
  rw [wL_app, endT_w]
  exact h
theorem readAt_light (l : List UInt8) : ∀ (f k : Nat) (raw : List UInt8) (out : List Tok), k ≤ l.length → Light k raw out → wL (readAt l f k raw out) ≤ l.length
  | 0, k, raw, out, hk, hg => Nat.le_trans (light_end hg) hk
  | f + 1, k, raw, out, hk, hg => by
    by_cases he : l.length ≤ k
    · rw [readAt_end he]
      exact Nat.le_trans (light_end hg) hk
    · have hlt : k < l.length := by omega
      cases hp : pieceL l k raw out with
      | none =>
        rw [readAt_none hlt hp]
        exact readAt_light l f _ _ _ (Nat.le_refl _) (hg.on hlt)
      | some q =>
        obtain ⟨k', raw', out'⟩ := q
        rw [readAt_some hlt hp]
        exact readAt_light l f _ _ _ (pieceL_bound hp hlt).2.1 (piece_light hp hlt hg)
theorem readL_light (l : List UInt8) : wL (readL l) ≤ l.length := readAt_light l _ 0 [] [] (Nat.zero_le _) (by simp [Light, wL])
theorem flat_app (a b : List Nd) : flatL (a ++ b) = flatL a ++ flatL b := by
  induction a with
  | nil => simp [flatL]
  | cons n a ih => rw [List.cons_append, flatL_cons, flatL_cons, ih, List.append_assoc]
def wN (ns : List Nd) : Nat := (flatL ns).length
theorem wN_app (a b : List Nd) : wN (a ++ b) = wN a + wN b := by simp [wN, flat_app]
theorem wN_nil : wN [] = 0 := by simp [wN, flatL]
theorem wN_text (t : List UInt8) : wN [textN t] = 1 := by simp [wN, flatL, textN]
theorem wN_cons (n : Nd) (r : List Nd) : wN (n :: r) = (if n.name.isEmpty = true then 1 else 1 + wN n.kids + (if emptyN n.name = true then 0 else 1)) + wN r := by
  unfold wN
  rw [flatL_cons, List.length_append]
  split
  · rfl
  · split <;> simp <;> omega
theorem wN_one (n : Nd) : wN [n] ≤ 2 + wN n.kids := by
  rw [wN_cons, wN_nil]
  split
  · omega
  · split <;> omega
def St.wt (s : St) : Nat := (s.all.map fun o => wN o.kids).sum + 2 * s.up.length + if s.text = [] then 0 else 1
theorem wt_all (s : St) : (s.all.map fun o => wN o.kids).sum = (s.up.map fun o => wN o.kids).sum + wN s.cur.kids := by
  simp [St.all, List.sum_reverse]
theorem wt_endText (s : St) : s.endText.wt = s.wt := by
  unfold St.endText
  split
  · rfl
  · next h =>
    unfold St.wt
    rw [wt_all, wt_all]
    simp only [Op.put, wN_app, wN_text, h, if_true, if_false]
    omega
theorem wt_pop (s : St) : s.pop.wt ≤ s.wt := by
  rw [← wt_endText s]
  have h1 := endText_up s
  have h2 := endText_text s
  unfold St.pop
  split
  · exact Nat.le_refl _
  · next o up h =>
    unfold St.wt
    rw [wt_all, wt_all, h1, h, h2]
    have := wN_one s.endText.cur.nd
    have e : s.endText.cur.nd.kids = s.endText.cur.kids := rfl
    rw [e] at this
    simp only [Op.put, wN_app, List.map_cons, List.sum_cons, List.length_cons, if_true]
    omega
theorem wt_close (k : Nat) (s : St) : (s.close k).wt ≤ s.wt := by
  induction k generalizing s with
  | zero => exact Nat.le_refl _
  | succ k ih => rw [St.close]; exact Nat.le_trans (ih _) (wt_pop s)
theorem wt_step (s : St) (t : Tok) : (s.step t).wt ≤ s.wt + wT t := by
  unfold St.step wT
  by_cases h1 : t.kind = 1
  · rw [if_pos h1, if_neg (by rw [h1]; decide), if_pos h1]
    unfold St.wt
    simp only [St.all]
    split <;> split <;> omega
  · rw [if_neg h1]
    by_cases h2 : t.kind = 2
    · rw [if_pos h2, if_pos h2]
      unfold St.openTag
      have hc := wt_close (s.up.length + 1 - closedL s.names t.name) s
      split
      · exact Nat.le_trans hc (by omega)
      · unfold St.closeFrom
        generalize s.close (s.up.length + 1 - closedL s.names t.name) = s1 at hc
        rw [← wt_endText s1] at hc
        refine Nat.le_trans ?_ (Nat.add_le_add_right hc 2)
        have h1 := endText_up s1
        have h2 := endText_text s1
        unfold St.openIn
        split
        · unfold St.wt
          rw [wt_all, wt_all]
          have := wN_one (.mk t.name t.attrs [] [])
          have e : wN (Nd.mk t.name t.attrs [] []).kids = 0 := wN_nil
          rw [e] at this
          simp only [St.put, Op.put, wN_app, h2]
          omega
        · unfold St.wt
          rw [wt_all, wt_all, h1, h2]
          simp only [List.map_cons, List.sum_cons, List.length_cons, wN_nil, if_true]
          omega
    · rw [if_neg h2, if_neg h2, if_neg h1]
      exact Nat.le_trans (wt_close _ s) (by omega)
theorem wt_fold (ts : List Tok) (s : St) : (ts.foldl St.step s).wt ≤ s.wt + wL ts := by
  induction ts generalizing s with
  | nil => simp [wL]
  | cons t ts ih =>
    rw [List.foldl_cons, show wL (t :: ts) = wT t + wL ts from by simp [wL]]
    have := ih (s.step t)
    have := wt_step s t
    omega
theorem wt_build (ts : List Tok) : wN (buildL ts) ≤ wL ts := by
  have h1 := wt_fold ts St.start
  have h0 : St.start.wt = 0 := by simp [St.wt, St.all, St.start, wN_nil]
  rw [h0] at h1
  unfold buildL St.closeFrom
  have h2 := wt_close ((ts.foldl St.step St.start).up.length + 1 - 1) (ts.foldl St.step St.start)
  generalize (ts.foldl St.step St.start).close ((ts.foldl St.step St.start).up.length + 1 - 1) = u at *
  rw [← wt_endText] at h2
  have h3 : wN u.endText.cur.kids ≤ u.endText.wt := by unfold St.wt; rw [wt_all]; omega
  omega
def Lst.wt (s : Lst) : Nat := wN s.all + if s.text.isEmpty = true then 0 else 1
theorem wt_done (s : Lst) : wN s.done = s.wt := by
  unfold Lst.done Lst.wt
  split
  · rfl
  · rw [wN_app, wN_text]
theorem wt_putE (s : Lst) (n : Nd) (hn : ¬ n.name.isEmpty = true) : (s.put n).wt = s.wt + wN [n] := by
  unfold Lst.put
  rw [if_neg hn]
  unfold Lst.wt
  simp only
  rw [wN_app, wt_done]
  simp [Lst.wt]
theorem clean_wt (base : List UInt8) : ∀ (l : List Nd) (s : Lst), (cleanIn base s l).wt ≤ s.wt + wN l
  | [], s => by rw [cleanIn, wN_nil]; exact Nat.le_refl _
  | .mk n a t k :: r, s => by
    rw [cleanIn, wN_cons]
    have e1 : (Nd.mk n a t k).name = n := rfl
    have e2 : (Nd.mk n a t k).kids = k := rfl
    rw [e1, e2]
    by_cases h1 : n.isEmpty = true
    · rw [if_pos h1, if_pos h1]
      have := clean_wt base r (s.put (.mk n a t k))
      have h2 : (s.put (.mk n a t k)).wt ≤ s.wt + 1 := by
        unfold Lst.put
        rw [if_pos (show (Nd.mk n a t k).name.isEmpty = true from h1)]
        unfold Lst.wt
        simp only
        split <;> omega
      omega
    · rw [if_neg h1, if_neg h1]
      by_cases h2 : goneN n = true
      · rw [if_pos h2]
        have := clean_wt base r s
        omega
      · rw [if_neg h2]
        by_cases h3 : allowedN n = false
        · rw [if_pos h3]
          have := clean_wt base r (cleanIn base s k)
          have := clean_wt base k s
          omega
        · rw [if_neg h3]
          by_cases h4 : standE n (keptA base n a) = 0
          · rw [if_pos h4]
            have g1 := clean_wt base r (s.put (.mk n (keptA base n a) [] (cleanIn base ⟨[], []⟩ k).done))
            have g2 := wt_putE s (.mk n (keptA base n a) [] (cleanIn base ⟨[], []⟩ k).done) h1
            have g3 := clean_wt base k ⟨[], []⟩
            have g4 := wt_done (cleanIn base ⟨[], []⟩ k)
            have g5 : (⟨[], []⟩ : Lst).wt = 0 := by simp [Lst.wt, wN_nil]
            rw [wN_cons, wN_nil] at g2
            have e3 : (Nd.mk n (keptA base n a) [] (cleanIn base ⟨[], []⟩ k).done).name = n := rfl
            have e4 : (Nd.mk n (keptA base n a) [] (cleanIn base ⟨[], []⟩ k).done).kids = (cleanIn base ⟨[], []⟩ k).done := rfl
            rw [e3, e4, if_neg h1] at g2
            omega
          · rw [if_neg h4]
            have := clean_wt base r s
            omega
theorem cleanL_wt (base : List UInt8) (l : List Nd) : wN (cleanL base l) ≤ wN l := by
  have := clean_wt base l ⟨[], []⟩
  unfold cleanL
  rw [wt_done]
  have h5 : (⟨[], []⟩ : Lst).wt = 0 := by simp [Lst.wt, wN_nil]
  omega
theorem html_few (base s : List UInt8) : (flatL (cleanL base (buildL (readL s)))).length ≤ s.length :=
  Nat.le_trans (cleanL_wt base _) (Nat.le_trans (wt_build _) (readL_light s))
theorem light_most {base v : List UInt8} : (lightL base v).length ≤ v.length + 3000 := by
  unfold lightL
  split
  · omega
  · cases h : resAns base v with
    | none => rw [Option.getD_none]; omega
    | some r => have := (res_again h).2.2; rw [Option.getD_some]; omega
/-- How many attributes there are. -/
def attrsN : List Nd → Nat
  | [] => 0
  | .mk _ a _ k :: r => a.length + attrsN k + attrsN r
theorem kept_bulk (base n : List UInt8) : ∀ l : List Pair, bulkP (keptA base n l) ≤ bulkP l + 3000 * l.length
  | [] => by simp [keptA, bulkP]
  | a :: l => by
    have h := kept_bulk base n l
    have ea : bulkP (a :: l) = (a.1.length + a.2.length + 2) + bulkP l := by simp [bulkP]
    have h1 : (toldA base a).2.length ≤ a.2.length + 3000 := by
      unfold toldA
      split
      · exact light_most
      · omega
    have h2 : (toldA base a).1.length = a.1.length := by rw [told_name]
    unfold keptA at h ⊢
    rw [List.map_cons, List.filter_cons, ea, List.length_cons]
    split
    · have e2 : bulkP (toldA base a :: (l.map (toldA base)).filter (fun a => attrE n a == 0)) = ((toldA base a).1.length + (toldA base a).2.length + 2) + bulkP ((l.map (toldA base)).filter (fun a => attrE n a == 0)) := by simp [bulkP]
      rw [e2]
      omega
    · omega
def Lst.bulk (s : Lst) : Nat := bulkNs s.all + if s.text.isEmpty = true then 0 else s.text.length + 3
theorem lbulk_done (s : Lst) : bulkNs s.done = s.bulk := by
  unfold Lst.done Lst.bulk
  split
  · rfl
  · rw [bulkNs_append]
    simp [textN, bulkNs, bulkP_nil]
theorem lbulk_putT (s : Lst) (n : List UInt8) (a : List Pair) (t : List UInt8) (k : List Nd) (hn : n.isEmpty = true) : (s.put (.mk n a t k)).bulk ≤ s.bulk + t.length + 3 := by
  unfold Lst.put
  rw [if_pos (show (Nd.mk n a t k).name.isEmpty = true from hn)]
  unfold Lst.bulk
  simp only [Nd.text]
  cases s.text <;> cases t <;> simp <;> omega
theorem lbulk_putE (s : Lst) (n : Nd) (hn : ¬ n.name.isEmpty = true) : (s.put n).bulk = s.bulk + bulkNs [n] := by
  unfold Lst.put
  rw [if_neg hn]
  unfold Lst.bulk
  simp only
  rw [bulkNs_append, lbulk_done]
  simp [Lst.bulk]
theorem clean_bulk (base : List UInt8) : ∀ (l : List Nd) (s : Lst), (cleanIn base s l).bulk ≤ s.bulk + (bulkNs l + 3000 * attrsN l)
  | [], s => by rw [cleanIn]; exact Nat.le_add_right _ _
  | .mk n a t k :: r, s => by
    rw [cleanIn, bulkNs, attrsN]
    by_cases h1 : n.isEmpty = true
    · rw [if_pos h1]
      have := clean_bulk base r (s.put (.mk n a t k))
      have := lbulk_putT s n a t k h1
      omega
    · rw [if_neg h1]
      by_cases h2 : goneN n = true
      · rw [if_pos h2]
        have := clean_bulk base r s
        omega
      · rw [if_neg h2]
        by_cases h3 : allowedN n = false
        · rw [if_pos h3]
          have := clean_bulk base r (cleanIn base s k)
          have := clean_bulk base k s
          omega
        · rw [if_neg h3]
          by_cases h4 : standE n (keptA base n a) = 0
          · rw [if_pos h4]
            have g1 := clean_bulk base r (s.put (.mk n (keptA base n a) [] (cleanIn base ⟨[], []⟩ k).done))
            have g2 := lbulk_putE s (.mk n (keptA base n a) [] (cleanIn base ⟨[], []⟩ k).done) h1
            have g3 := clean_bulk base k ⟨[], []⟩
            have g4 := lbulk_done (cleanIn base ⟨[], []⟩ k)
            have g5 : (⟨[], []⟩ : Lst).bulk = 0 := by simp [Lst.bulk, bulkNs]
            have g6 := kept_bulk base n a
            rw [bulkNs, bulkNs] at g2
            simp only [List.length_nil] at g2
            omega
          · rw [if_neg h4]
            have := clean_bulk base r s
            omega
theorem cleanL_bulk (base : List UInt8) (l : List Nd) : bulkNs (cleanL base l) ≤ bulkNs l + 3000 * attrsN l := by
  have := clean_bulk base l ⟨[], []⟩
  unfold cleanL
  rw [lbulk_done]
  have h5 : (⟨[], []⟩ : Lst).bulk = 0 := by simp [Lst.bulk, bulkNs]
  omega
/-- How much names are. -/
def namesN : List Nd → Nat
  | [] => 0
  | .mk n _ _ k :: r => n.length + 5 + namesN k + namesN r
theorem names_bulk : (ns : List Nd) → namesN ns ≤ 2 * bulkNs ns
  | [] => by simp [namesN]
  | .mk n a t k :: r => by
    have h1 := names_bulk k
    have h2 := names_bulk r
    rw [namesN, bulkNs]
    omega
theorem names_app (a b : List Nd) : namesN (a ++ b) = namesN a + namesN b := by
  induction a with
  | nil => simp [namesN]
  | cons n a ih => cases n; rw [List.cons_append, namesN, namesN, ih]; omega
theorem flat_bulkL : (ns : List Nd) → bulkL (flatL ns) ≤ bulkNs ns + namesN ns
  | [] => by simp [flatL, bulkL]
  | .mk n a t k :: r => by
    have h1 := flat_bulkL k
    have h2 := flat_bulkL r
    rw [flatL, bulkNs, namesN, bulkL_app]
    split
    · have e1 : bulkL [⟨1, [], [], t⟩] = t.length + 4 := by simp [bulkL, bulkT, bulkP_nil]
      omega
    · rw [show (⟨2, n, a, []⟩ :: (flatL k ++ if emptyN n = true then [] else [⟨3, n, [], []⟩]) : List Tok) = [⟨2, n, a, []⟩] ++ (flatL k ++ if emptyN n = true then [] else [⟨3, n, [], []⟩]) from rfl, bulkL_app, bulkL_app]
      have e1 : bulkL [⟨2, n, a, []⟩] = n.length + bulkP a + 4 := by simp [bulkL, bulkT]
      have e2 : bulkL (if emptyN n = true then [] else [⟨3, n, [], []⟩]) ≤ n.length + 4 := by
        split
        · simp [bulkL]
        · simp [bulkL, bulkT, bulkP_nil]
      omega
def Lst.nm (s : Lst) : Nat := namesN s.all + if s.text.isEmpty = true then 0 else 5
theorem nm_done (s : Lst) : namesN s.done = s.nm := by
  unfold Lst.done Lst.nm
  split
  · rfl
  · rw [names_app]
    simp [textN, namesN]
theorem clean_nm (base : List UInt8) : ∀ (l : List Nd) (s : Lst), (cleanIn base s l).nm ≤ s.nm + namesN l
  | [], s => by rw [cleanIn]; exact Nat.le_add_right _ _
  | .mk n a t k :: r, s => by
    rw [cleanIn, namesN]
    by_cases h1 : n.isEmpty = true
    · rw [if_pos h1]
      have := clean_nm base r (s.put (.mk n a t k))
      have h2 : (s.put (.mk n a t k)).nm ≤ s.nm + 5 := by
        unfold Lst.put
        rw [if_pos (show (Nd.mk n a t k).name.isEmpty = true from h1)]
        unfold Lst.nm
        simp only
        split <;> omega
      omega
    · rw [if_neg h1]
      by_cases h2 : goneN n = true
      · rw [if_pos h2]
        have := clean_nm base r s
        omega
      · rw [if_neg h2]
        by_cases h3 : allowedN n = false
        · rw [if_pos h3]
          have := clean_nm base r (cleanIn base s k)
          have := clean_nm base k s
          omega
        · rw [if_neg h3]
          by_cases h4 : standE n (keptA base n a) = 0
          · rw [if_pos h4]
            have g1 := clean_nm base r (s.put (.mk n (keptA base n a) [] (cleanIn base ⟨[], []⟩ k).done))
            have g2 : (s.put (.mk n (keptA base n a) [] (cleanIn base ⟨[], []⟩ k).done)).nm = s.nm + (n.length + 5 + namesN (cleanIn base ⟨[], []⟩ k).done) := by
              unfold Lst.put
              rw [if_neg (show ¬ (Nd.mk n (keptA base n a) [] (cleanIn base ⟨[], []⟩ k).done).name.isEmpty = true from h1)]
              unfold Lst.nm
              simp only
              rw [names_app, nm_done, namesN, namesN]
              simp [Lst.nm]
            have g3 := clean_nm base k ⟨[], []⟩
            have g4 := nm_done (cleanIn base ⟨[], []⟩ k)
            have g5 : (⟨[], []⟩ : Lst).nm = 0 := by simp [Lst.nm, namesN]
            omega
          · rw [if_neg h4]
            have := clean_nm base r s
            omega
theorem cleanL_nm (base : List UInt8) (l : List Nd) : namesN (cleanL base l) ≤ namesN l := by
  have := clean_nm base l ⟨[], []⟩
  unfold cleanL
  rw [nm_done]
  have h5 : (⟨[], []⟩ : Lst).nm = 0 := by simp [Lst.nm, namesN]
  omega
theorem few_app (a b : List Nd) : FewNs (a ++ b) ↔ FewNs a ∧ FewNs b := by
  induction a with
  | nil => simp [FewNs]
  | cons n a ih => cases n; simp [FewNs, ih, and_assoc]
theorem fits_app (a b : List Nd) : FitsNs (a ++ b) ↔ FitsNs a ∧ FitsNs b := by
  induction a with
  | nil => simp [FitsNs]
  | cons n a ih => cases n; simp [FitsNs, ih, and_assoc]
theorem fit_text (t : List UInt8) : FewNs [textN t] ∧ FitsNs [textN t] := by simp [FewNs, FitsNs, textN, Fits]
theorem fit_done {s : Lst} (h : FewNs s.all ∧ FitsNs s.all) : FewNs s.done ∧ FitsNs s.done := by
  unfold Lst.done
  split
  · exact h
  · exact ⟨(few_app _ _).2 ⟨h.1, (fit_text _).1⟩, (fits_app _ _).2 ⟨h.2, (fit_text _).2⟩⟩
theorem clean_fit (base : List UInt8) : ∀ (l : List Nd) (s : Lst), FewNs l → FitsNs l → FewNs s.all ∧ FitsNs s.all → FewNs (cleanIn base s l).all ∧ FitsNs (cleanIn base s l).all
  | [], s, _, _, h => by rw [cleanIn]; exact h
  | .mk n a t k :: r, s, h1, h2, h => by
    rw [FewNs] at h1
    rw [FitsNs] at h2
    rw [cleanIn]
    split
    · rename_i hn
      refine clean_fit base r _ h1.2.2 h2.2.2 ?_
      unfold Lst.put; rw [if_pos (show (Nd.mk n a t k).name.isEmpty = true from hn)]; exact h
    · rename_i hn
      split
      · exact clean_fit base r s h1.2.2 h2.2.2 h
      · split
        · exact clean_fit base r _ h1.2.2 h2.2.2 (clean_fit base k s h1.2.1 h2.2.1 h)
        · split
          · have hk := fit_done (clean_fit base k ⟨[], []⟩ h1.2.1 h2.2.1 (by simp [FewNs, FitsNs]))
            refine clean_fit base r _ h1.2.2 h2.2.2 ?_
            unfold Lst.put; rw [if_neg (show ¬ (Nd.mk n (keptA base n a) [] (cleanIn base ⟨[], []⟩ k).done).name.isEmpty = true from hn)]
            have hd := fit_done h
            refine ⟨(few_app _ _).2 ⟨hd.1, ?_⟩, (fits_app _ _).2 ⟨hd.2, ?_⟩⟩
            · simp only [FewNs]
              exact ⟨Nat.le_trans (Nat.le_trans (List.length_filter_le _ _) (by simp)) h1.1, hk.1, trivial⟩
            · simp only [FitsNs]
              refine ⟨⟨h2.1.1, fun p hp => ?_⟩, hk.2, trivial⟩
              obtain ⟨b, hb, rfl⟩ := List.mem_map.1 (List.mem_filter.1 hp).1
              rw [told_name]
              exact h2.1.2 b hb
          · exact clean_fit base r s h1.2.2 h2.2.2 h
theorem cleanL_fit (base : List UInt8) (l : List Nd) (h1 : FewNs l) (h2 : FitsNs l) : FewNs (cleanL base l) ∧ FitsNs (cleanL base l) := fit_done (clean_fit base l ⟨[], []⟩ h1 h2 (by simp [FewNs, FitsNs]))
theorem bulk_val : (ns : List Nd) → bulkNs ns ≤ 1100000 → ValNs ns ∧ szNs ns ≤ bulkNs ns
  | [], _ => by simp [ValNs, szNs]
  | .mk n a t k :: r, h => by
    rw [bulkNs] at h
    have h1 := bulk_val k (by omega)
    have h2 := bulk_val r (by omega)
    have h3 := bulkP_len a
    have h4 : ∀ p ∈ a, p.2.length ≤ bulkP a := fun p hp => by
      clear h h1 h2 h3
      induction a with
      | nil => simp at hp
      | cons q a ih =>
        have ea : bulkP (q :: a) = (q.1.length + q.2.length + 2) + bulkP a := by simp [bulkP]
        rw [ea]
        rcases List.mem_cons.1 hp with rfl | hp
        · omega
        · have := ih hp; omega
    have h5 : 2 * a.length ≤ bulkP a := by
      have h6 : ∀ b : List Pair, 2 * b.length ≤ bulkP b := fun b => by
        induction b with
        | nil => simp [bulkP]
        | cons q b ih =>
          have ea : bulkP (q :: b) = (q.1.length + q.2.length + 2) + bulkP b := by simp [bulkP]
          rw [ea, List.length_cons]
          omega
      exact h6 a
    rw [ValNs, szNs, bulkNs]
    exact ⟨⟨⟨by omega, fun p hp => by have := h4 p hp; unfold maxLen; omega⟩, h1.1, h2.1⟩, by omega⟩
theorem named_bulk : ∀ (l : List Pair) (met : List (List UInt8)), chkA l met = 0 → 3 * l.length ≤ bulkP l
  | [], _, _ => by simp
  | p :: l, met, h => by
    unfold chkA at h
    split at h
    · simp at h
    · rename_i hn
      split at h
      · simp at h
      · have := named_bulk l _ h
        have ea : bulkP (p :: l) = (p.1.length + p.2.length + 2) + bulkP l := by simp [bulkP]
        have hp : p.1 ≠ [] := name_some (by simpa using hn)
        have := List.length_pos_iff.2 hp
        rw [ea, List.length_cons]
        omega
theorem attrs_bulk3 : ∀ (ns : List Nd) (ar : List (List UInt8)) (prev : Bool), Rt ar prev ns → 3 * attrsN ns ≤ bulkNs ns
  | [], _, _, _ => by simp [attrsN]
  | .mk n a t k :: r, ar, prev, h => by
    rw [Rt] at h
    rw [attrsN, bulkNs]
    by_cases hn : n = []
    · rw [if_pos hn] at h
      obtain ⟨_, ha, hk, _, hr⟩ := h
      subst ha hk
      have := attrs_bulk3 r ar true hr
      simp [attrsN, bulkNs, bulkP_nil]
      omega
    · rw [if_neg hn] at h
      obtain ⟨_, _, hc, _, _, _, hk, hr⟩ := h
      have h1 := attrs_bulk3 k _ _ hk
      have h2 := attrs_bulk3 r ar false hr
      have h3 := named_bulk a [] hc
      omega
def htmlT (base s : List UInt8) : List Nd := cleanL base (buildL (readL s))
theorem html_facts (base s : List UInt8) (hs : s.length ≤ 3000) :
    chkL (readL s) = 0 ∧ bulkL (readL s) ≤ 36000 ∧ chkTree (buildL (readL s)) = 0 ∧ bulkNs (buildL (readL s)) ≤ 36000 ∧ chkTree (htmlT base s) = 0 ∧ chkL (flatL (htmlT base s)) = 0 ∧ bulkL (flatL (htmlT base s)) ≤ 38000000 ∧ FewNs (htmlT base s) ∧ FitsNs (htmlT base s) ∧ sizeNs (htmlT base s) ≤ 3000 := by
  have h1 := readL_good s hs
  have h2 := readL_bulk s
  have h3 := chk_built _ h1
  have h4 := bulk_build (readL s)
  have h5 := (chkTree_ok _).1 h3
  have h6 := cleanL_right base _ h5.2
  have h7 := cleanL_size base (buildL (readL s))
  have h8 : chkTree (htmlT base s) = 0 := (chkTree_ok _).2 ⟨by unfold htmlT; omega, h6⟩
  have h9 := html_few base s
  have h10 : chkL (flatL (htmlT base s)) = 0 := chk_flat _ h6 (by unfold htmlT; omega)
  have h11 := flat_bulkL (htmlT base s)
  have h12 := cleanL_bulk base (buildL (readL s))
  have h13 := cleanL_nm base (buildL (readL s))
  have h14 := names_bulk (buildL (readL s))
  have h15 := attrs_bulk3 (buildL (readL s)) _ _ h5.2
  have h16 := bulkNs_fits (buildL (readL s)) (by omega)
  have h17 := cleanL_fit base _ h16.2 h16.1
  exact ⟨h1, by omega, h3, by omega, h8, h10, by unfold htmlT at h11 ⊢; omega, h17.1, h17.2, by unfold htmlT; omega⟩
end Go.Proofs.YtlcljanibjdejaaGreat
