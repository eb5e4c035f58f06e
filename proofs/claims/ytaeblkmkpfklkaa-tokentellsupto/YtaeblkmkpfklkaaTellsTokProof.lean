/- TokenTells: Read, Check and Print answer just what the document says, errors too. TokenTells holds, for arguments of bulk up to 1048576: it returns true, and each argument reads behind the call as it read before. -/
import Derived.Test.YtaeblkmkpfklkaaTokensRef
import Derived.Test.YtaeblkmkpfklkaaRefB
import Derived.Test.YtaeblkmkpfklkaaPrintBad
import Derived.Test.YtaeblkmkpfklkaaBegunT
import Derived.Test.YtaeblkmkpfklkaaTokArg
import Derived.ProofKit
import Derived.OpenShut
import Derived.ShutString
import Derived.JoinedCond
import Derived.HandedShaped
import Derived.Carry
namespace Go.Proofs.Ytaeblkmkpfklkaa
open Go.RowKit Go.Maps

theorem chkFrom_kinds : ∀ (ts : List Tok) (p : Int), chkFrom p ts = 0 → ∀ t ∈ ts, t.kind = 1 ∨ t.kind = 2 ∨ t.kind = 3
  | [], _, _, t, ht => by simp at ht
  | x :: r, p, h, t, ht => by
    unfold chkFrom at h
    by_cases hx : chkT x ≠ 0
    · rw [if_pos hx] at h
      exact absurd h hx
    · rw [if_neg hx] at h
      split at h
      · simp at h
      · rcases List.mem_cons.1 ht with rfl | ht
        · have h0 : chkT t = 0 := by simpa using hx
          unfold chkT at h0
          by_cases h1 : t.kind = 1
          · exact .inl h1
          · by_cases h2 : t.kind = 2
            · exact .inr (.inl h2)
            · by_cases h3 : t.kind = 3
              · exact .inr (.inr h3)
              · rw [if_neg h1, if_neg h2, if_neg h3] at h0
                simp at h0
        · exact chkFrom_kinds r x.kind h t ht
theorem chk_kinds {ts : List Tok} (h : chkL ts = 0) : ∀ t ∈ ts, t.kind = 1 ∨ t.kind = 2 ∨ t.kind = 3 := by
  unfold chkL at h
  split at h
  · simp at h
  · exact chkFrom_kinds ts 0 h

theorem longR_yes (s : ByteArray) (hm : s.size ≤ maxLen) (h : 3000 < s.size) (w : World) :
    Calls Try.prog 12 #[.string s] w fun e w' => e = .returned (.int .i64 2) ∧ w' = w :=
  (tooLong_any s hm w).mono fun _ _ ⟨he, hk⟩ => ⟨he.trans (by rw [if_pos h]), hk⟩
theorem longR_no (s : ByteArray) (h : s.size ≤ 3000) (w : World) :
    Calls Try.prog 12 #[.string s] w fun e w' => e = .returned (.int .i64 0) ∧ w' = w :=
  (tooLong_any s (by unfold maxLen; omega) w).mono fun _ _ ⟨he, hk⟩ => ⟨he.trans (by rw [if_neg (by omega)]), hk⟩

theorem no_toks (w : World) : Toks w (.slice none 0 0) [] := ⟨[], rfl, ⟨rfl, .inl ⟨rfl, rfl⟩⟩, by simp⟩
theorem bytes_keeps (w : World) (v : Value) (ts : List Tok) (hv : Toks w v ts) (hb : bulkL ts ≤ 1100000) (hkd : ∀ t ∈ ts, t.kind = 1 ∨ t.kind = 2 ∨ t.kind = 3) :
    Calls Try.prog 20 #[v] w fun e w' => e = .returned (.string ⟨(toksP ts).toArray⟩) ∧ Keeps [] w w' :=
  (tokenBytes_any w v ts hv hb hkd).mono fun _ _ ⟨h1, n, h2⟩ => ⟨h1, by rw [h2]; exact (Keeps.refl _ _).drewN n⟩
theorem Toks.form {w : World} {v : Value} {ts : List Tok} (h : Toks w v ts) : ∃ o n c, v = .slice o n c := by
  obtain ⟨l, _, hl, _⟩ := h
  obtain ⟨o, c, h1, _⟩ := hl.form
  exact ⟨o, _, c, h1⟩

set_option maxRecDepth 8000 in
set_option maxHeartbeats 8000000 in
theorem tells_tokens (s : ByteArray) (hs : s.size ≤ maxLen) (w : World) (v : Value) (ts : List Tok) (hv : Toks w v ts) (hn : bulkL ts ≤ 1100000) (hM : HasMax w) :
    Calls Try.prog 6 #[.string s, v] w fun e w' => e = .returned (.bool true) ∧ Keeps [] w w' := by
  obtain ⟨vo, vn, vc, rfl⟩ := hv.form
  have kL := hide (fun (w' : World) (hk : Keeps [] w w') => checkTokensR_any w' _ ts (hv.keeps hk) (fits_bulk hn))
  have cL := hide (fun (w' : World) (hk : Keeps [] w w') => check_any w' _ ts (hv.keeps hk) (fits_bulk hn))
  have BG := hide (fun (w' : World) (hk : Keeps [] w w') => tokenBegun_any w' (hM.keeps hk List.not_mem_nil))
  by_cases hbig : 3000 < s.size
  · have rL := hide (fun (w : World) hM => (read_any s w hs hM).mono fun e w' (h : Keeps [] w w' ∧ _) => (⟨by have := h.2; rw [if_pos hbig] at this; exact this, h.1⟩ : e = .returned (.tuple #[.slice none 0 0, .int .i64 2]) ∧ Keeps [] w w'))
    have tL := hide (fun (w : World) => longR_yes s hs hbig w)
    by_cases hc0 : chkL ts = 0
    · as_aux_lemma =>
      have pL := hide (fun (w' : World) (h : Toks w' (.slice vo vn vc) ts) => print_all w' _ ts h hn hc0)
      have bL := hide (fun (w' : World) (h : Toks w' (.slice vo vn vc) ts) => bytes_keeps w' _ ts h hn (chk_kinds hc0))
      rw [hc0] at kL cL
      generalize (⟨(toksP ts).toArray⟩ : ByteArray) = Y at *
      have hYY : (Y.toList == Y.toList) = true := by simp
      clear hc0 hbig hs
      go_enter Try.func6, Try.ntmps6
      go_wp2_with fail
      refine (rL.out _ hM).mono ?_
      rintro e w1 ⟨rfl, k1⟩
      have j1 := k1
      go_wp2_with fail
      refine (pL.out _ (hv.keeps j1)).mono ?_
      rintro e w2 ⟨rfl, k2⟩
      have j2 := j1.trans k2
      go_wp2_with fail
      refine (tL.out _).mono ?_
      rintro e w3 ⟨rfl, h3⟩
      obtain rfl : w2 = w3 := h3.symm
      go_wp2_with fail
      refine (kL.out _ j2).mono ?_
      rintro e w4 ⟨rfl, k4⟩
      have j4 := j2.trans k4
      go_wp2_with fail
      refine (bL.out _ (hv.keeps j4)).mono ?_
      rintro e w6 ⟨rfl, k6⟩
      have j6 := j4.trans k6
      go_wp2_with fail
      refine (BG.out _ j6).mono ?_
      rintro e w7 ⟨rfl, k7⟩
      have j7 := j6.trans k7
      go_wp2_with fail
      refine (cL.out _ j7).mono ?_
      rintro e w8 ⟨rfl, k8⟩
      have j8 := j7.trans k8
      go_wp2_with fail
      refine (sameTokens_eq _ _ _ [] (no_toks _) (no_toks _)).mono ?_
      rintro e w9 ⟨rfl, n9, h9⟩
      have k9 : Keeps [] w8 w9 := by rw [h9]; exact (Keeps.refl _ _).drewN _
      clear h9
      go_wp2_with fail
      go_ret
      exact ⟨rfl, j8.trans k9⟩
    · as_aux_lemma =>
      have pL := hide (fun (w' : World) (h : Toks w' (.slice vo vn vc) ts) => print_bad w' _ ts h hn _ rfl hc0)
      generalize chkL ts = c at *
      have hcb : (c == 0) = false := by simpa using hc0
      clear hbig hs
      go_enter Try.func6, Try.ntmps6
      go_wp2_with fail
      refine (rL.out _ hM).mono ?_
      rintro e w1 ⟨rfl, k1⟩
      have j1 := k1
      go_wp2_with fail
      refine (pL.out _ (hv.keeps j1)).mono ?_
      rintro e w2 ⟨rfl, k2⟩
      have j2 := j1.trans k2
      go_wp2_with fail
      refine (tL.out _).mono ?_
      rintro e w3 ⟨rfl, h3⟩
      obtain rfl : w2 = w3 := h3.symm
      go_wp2_with fail
      refine (kL.out _ j2).mono ?_
      rintro e w4 ⟨rfl, k4⟩
      have j4 := j2.trans k4
      go_wp2_with fail
      refine (BG.out _ j4).mono ?_
      rintro e w7 ⟨rfl, k7⟩
      have j7 := j4.trans k7
      go_wp2_with fail
      refine (cL.out _ j7).mono ?_
      rintro e w8 ⟨rfl, k8⟩
      have j8 := j7.trans k8
      go_wp2_with fail
      refine (sameTokens_eq _ _ _ [] (no_toks _) (no_toks _)).mono ?_
      rintro e w9 ⟨rfl, n9, h9⟩
      have k9 : Keeps [] w8 w9 := by rw [h9]; exact (Keeps.refl _ _).drewN _
      clear h9
      go_wp2_with fail
      go_ret
      exact ⟨rfl, j8.trans k9⟩
  · have rL := hide (fun (w : World) hM => read_some s w (by omega) hM)
    have tL := hide (fun (w : World) => longR_no s (by omega) w)
    have oL := hide (fun (w : World) => tokensOf_any s w (by omega))
    generalize readL s.data.toList = RL at *
    by_cases hc0 : chkL ts = 0
    · as_aux_lemma =>
      have pL := hide (fun (w' : World) (h : Toks w' (.slice vo vn vc) ts) => print_all w' _ ts h hn hc0)
      have bL := hide (fun (w' : World) (h : Toks w' (.slice vo vn vc) ts) => bytes_keeps w' _ ts h hn (chk_kinds hc0))
      rw [hc0] at kL cL
      generalize (⟨(toksP ts).toArray⟩ : ByteArray) = Y at *
      have hYY : (Y.toList == Y.toList) = true := by simp
      clear hc0 hbig hs
      go_enter Try.func6, Try.ntmps6
      go_wp2_with fail
      refine (rL.out _ hM).mono ?_
      rintro e w1 ⟨va, rfl, hta, k1⟩
      have hta2 := hide hta.toks
      obtain ⟨ao, an, ac, rfl⟩ := hta2.out.form
      clear hta
      have j1 := k1
      go_wp2_with fail
      refine (pL.out _ (hv.keeps j1)).mono ?_
      rintro e w2 ⟨rfl, k2⟩
      have j2 := j1.trans k2
      go_wp2_with fail
      refine (tL.out _).mono ?_
      rintro e w3 ⟨rfl, h3⟩
      obtain rfl : w2 = w3 := h3.symm
      go_wp2_with fail
      refine (kL.out _ j2).mono ?_
      rintro e w4 ⟨rfl, k4⟩
      have j4 := j2.trans k4
      go_wp2_with fail
      refine (oL.out _).mono ?_
      rintro e w5 ⟨vb, rfl, htb, k5⟩
      have hn5 := k5
      obtain ⟨bo, bn, bc, rfl⟩ := htb.form
      have htb2 := hide htb
      clear htb
      have j5 := j4.trans k5
      go_wp2_with fail
      refine (bL.out _ (hv.keeps j5)).mono ?_
      rintro e w6 ⟨rfl, k6⟩
      have j6 := j5.trans k6
      go_wp2_with fail
      refine (BG.out _ j6).mono ?_
      rintro e w7 ⟨rfl, k7⟩
      have j7 := j6.trans k7
      go_wp2_with fail
      refine (cL.out _ j7).mono ?_
      rintro e w8 ⟨rfl, k8⟩
      have j8 := j7.trans k8
      have hA8 := hta2.out.keeps (k2.trans k4 |>.trans k5 |>.trans k6 |>.trans k7 |>.trans k8)
      have hB8 := htb2.out.keeps (k6.trans k7 |>.trans k8)
      go_wp2_with fail
      refine (sameTokens_eq _ _ _ _ hA8 hB8).mono ?_
      rintro e w9 ⟨rfl, n9, h9⟩
      have k9 : Keeps [] w8 w9 := by rw [h9]; exact (Keeps.refl _ _).drewN _
      clear h9
      go_wp2_with fail
      go_ret
      exact ⟨rfl, j8.trans k9⟩
    · as_aux_lemma =>
      have pL := hide (fun (w' : World) (h : Toks w' (.slice vo vn vc) ts) => print_bad w' _ ts h hn _ rfl hc0)
      generalize chkL ts = c at *
      have hcb : (c == 0) = false := by simpa using hc0
      clear hbig hs
      go_enter Try.func6, Try.ntmps6
      go_wp2_with fail
      refine (rL.out _ hM).mono ?_
      rintro e w1 ⟨va, rfl, hta, k1⟩
      have hta2 := hide hta.toks
      obtain ⟨ao, an, ac, rfl⟩ := hta2.out.form
      clear hta
      have j1 := k1
      go_wp2_with fail
      refine (pL.out _ (hv.keeps j1)).mono ?_
      rintro e w2 ⟨rfl, k2⟩
      have j2 := j1.trans k2
      go_wp2_with fail
      refine (tL.out _).mono ?_
      rintro e w3 ⟨rfl, h3⟩
      obtain rfl : w2 = w3 := h3.symm
      go_wp2_with fail
      refine (kL.out _ j2).mono ?_
      rintro e w4 ⟨rfl, k4⟩
      have j4 := j2.trans k4
      go_wp2_with fail
      refine (oL.out _).mono ?_
      rintro e w5 ⟨vb, rfl, htb, k5⟩
      have hn5 := k5
      obtain ⟨bo, bn, bc, rfl⟩ := htb.form
      have htb2 := hide htb
      clear htb
      have j5 := j4.trans k5
      go_wp2_with fail
      refine (BG.out _ j5).mono ?_
      rintro e w7 ⟨rfl, k7⟩
      have j7 := j5.trans k7
      go_wp2_with fail
      refine (cL.out _ j7).mono ?_
      rintro e w8 ⟨rfl, k8⟩
      have j8 := j7.trans k8
      have hA8 := hta2.out.keeps (k2.trans k4 |>.trans k5 |>.trans k7 |>.trans k8)
      have hB8 := htb2.out.keeps (k7 |>.trans k8)
      go_wp2_with fail
      refine (sameTokens_eq _ _ _ _ hA8 hB8).mono ?_
      rintro e w9 ⟨rfl, n9, h9⟩
      have k9 : Keeps [] w8 w9 := by rw [h9]; exact (Keeps.refl _ _).drewN _
      clear h9
      go_wp2_with fail
      go_ret
      exact ⟨rfl, j8.trans k9⟩
end Go.Proofs.Ytaeblkmkpfklkaa

namespace Go.Proofs.Ytaeblkmkpfklkaa
open Go.ChangeShapes Go.WideShapes Go.ChangeAt Go.RowKit
open Go.ChangeMaps (open_string shut_string)

theorem tokenTells_own : ownKnob Try.prog.godebug = none := by kernel_rfl
theorem laid_out : laidOutB Try.prog = true := by kernel_rfl
theorem max_shaped (W : World) (h : W.ShapedOpen Try.prog) : HasMax W := Try.laysM143.s1_3 W h

/-- A row with a condition, whose contract is told the world's shape too. -/
theorem of_cond_shaped {H : Type} {enc : TypeId × Value → H} {a : Assume} {C : Checked} {os : Os} {f : FuncId} {fn : Func} {s : OpenSpec} {k : (H : Type) → List (DataW H) → Bool} (hk : s.cond = some k) {F : Stop.Interp} {conds : List PathCond} {apart fresh handsOn again : Bool}
    (own : ownKnob C.prog.godebug = none) (started : os.Started) (noInit : C.prog.inits.idxOf? f = none) (hfn : C.prog.funcs[f]? = some fn)
    (witness : ∃ (w : World) (tape : Tape) (i : Input), w.os = os ∧ (w.forCall tape i).Shaped C.prog ∧ i.vars = [] ∧ Input.okWide C.prog (w.forCall tape i) .any w.heap.size f i ∧
      s.pre6 enc C.prog fn conds apart (w.forCall tape i).memory i.args ∧ a.holds C.prog (lone (Frame.enter C.prog f i.args .normal) [] (w.forCall tape i)))
    (contract : ∀ (W : World) (base : Nat) (args : Array Value) (ds gs : List (DataW H)) (before : List MemPlace),
      (∀ (j : Nat) t v, fn.params[j]? = some t → args[j]? = some v → Value.okWide C.prog W .any base t v) →
      DataW.Whole enc C.prog fn.params.toList s.vars apart W args.toList ds gs before →
      k H (ds ++ gs) = true → W.ShapedOpen C.prog →
      Calls C.prog f args W fun e W' => ∃ v, e = .returned v ∧ (s.at F).post enc C.prog fn apart fresh handsOn again W args v W') :
    ReturnsInHanded a C os f .any (s.pre6 enc C.prog fn conds apart) ((s.at F).post enc C.prog fn apart fresh handsOn again) := by
  refine returnsInHanded_of_calls own started noInit witness ?_
  intro w tape i _ hsh _ hok hpre hholds
  obtain ⟨_, _, _, fn', hfn', _, _, _, _, hval⟩ := hok
  have e : fn' = fn := Option.some.inj (hfn'.symm.trans hfn)
  subst e
  obtain ⟨ds, gs, before, hw, hc, hkk⟩ := (OpenSpec.pre_some hk conds apart _ _).1 hpre.1
  have hw' := DataW.Whole.of_heap (w' := w.forCall tape i) (by rfl) hw
  refine (contract (w.forCall tape i) w.heap.size i.args ds gs before hval hw' hkk hsh).mono fun e W' ⟨v, he, hp⟩ => ?_
  subst he
  exact ChangeSpec.post_blind hp

set_option maxRecDepth 100000 in
theorem tokenTells_lifted (os : Os) (started : os.Started) (H : Type) (enc : TypeId × Value → H) (F : Stop.Interp) :
    ReturnsInHanded {} Try.checked os 6 .any ((Rows.OpenSpec.upto Rows.tokenTellsSpec).pre6 enc Try.prog Try.f6 Rows.tokenTellsUptoRow.domain false) (((Rows.OpenSpec.upto Rows.tokenTellsSpec).at F).post enc Try.prog Try.f6 false true false false) := by
  refine of_cond_shaped (C := Try.checked) (s := Rows.OpenSpec.upto Rows.tokenTellsSpec) (k := Rows.uptoSmall) rfl tokenTells_own started (by kernel_rfl) Try.func6
    (OpenSpec.witness (enc := enc) (C := Try.checked) (s := Rows.OpenSpec.upto Rows.tokenTellsSpec) (k := Rows.uptoSmall) rfl false ⟨#[], #[.string ByteArray.empty, .slice none 0 0], []⟩ 8 (by kernel_rfl) (by kernel_rfl) (by kernel_rfl)
      (x := ([.lit (.string []), .nil], [], [])) (by kernel_rfl) rfl (by kernel_rfl)) ?_
  intro W base args ds gs before hval0 hW hk hsh
  have hval : ∀ (j : Nat) t v, Try.f6.params[j]? = some t → args[j]? = some v → Value.okWide Try.prog W .any base t v := hval0
  have hM : HasMax W := max_shaped W hsh
  have hW' := hW
  obtain ⟨p, q, hA0, hV, rfl, hfz, hnd⟩ := hW
  have hA : DataW.TrodAll enc Try.prog W 0 (fun _ => true) true Try.f6.params.toList args.toList ds p := hA0
  rw [Try.params6] at hA hval
  obtain ⟨v0, v1, d0, d1, p0, p1, rfl, rfl, rfl, h0, h1⟩ := trodAll_two hA
  obtain ⟨rfl, rfl⟩ := trodVars_none hV
  obtain ⟨a0, rfl, rfl, rfl, w0⟩ := open_string Try.underlying9 (hval 0 9 v0 rfl rfl) h0
  have hlt : ∀ x ∈ p1, x.block < W.heap.size := fun x hx => hW'.lt x (by simp [hx])
  have hb : Rows.uptoBulkAll ([.lit (.string a0.data.toList), d1] ++ ([] : List (DataW H))) ≤ 1048576 := of_decide_eq_true hk
  simp only [List.append_nil, Rows.uptoBulkAll] at hb
  obtain ⟨fuel, hf⟩ := id h1
  obtain ⟨o, n, c, rfl⟩ := okWide_slice Try.underlying32 (hval 1 32 v1 rfl rfl)
  obtain ⟨ts, hts, hbl⟩ := toks_down (by simpa [Value.cells] using hf)
  clear hA0 hval0
  simp only [List.append_nil] at hW'
  refine (tells_tokens a0 w0 W _ ts hts (by simp only at hbl; omega) hM).mono fun e W' ⟨he, hg⟩ => ?_
  subst he
  refine ⟨_, rfl, _, _, _, [], [] ++ (p1 ++ []), [], hW', trodAll_cons_mk (shut_bool Try.underlying4 _) trodAll_mk0, ?_, rfl, hg.nil_below.frame _, fun h => by cases h⟩
  exact trodAll_cons_mk (shut_string Try.underlying9 w0) (trodAll_cons_mk (Below.trod laid_out (by kernel_rfl) (of_decide_eq_true (by kernel_rfl)) h1 hg.nil_below hlt) trodAll_mk0)

theorem tokenTells_upto : Rows.TokenTellsUptoSaid :=
  OpenClaim.holds_of_cond 6 Try.f6 rfl rfl rfl rfl rfl rfl rfl ⟨rfl, rfl, rfl, rfl, rfl⟩ rfl rfl rfl rfl rfl (by kernel_rfl) Try.func6 (by kernel_rfl)
    (of_decide_eq_true (by kernel_rfl)) (by unfold Func.isWrapper; first | (rw [if_pos (by decide +kernel)]; kernel_rfl) | (rw [if_neg (by decide +kernel)]; exact ⟨rfl, rfl⟩))
    (fun os started H enc _ F => tokenTells_lifted os started H enc F)
#print axioms tokenTells_upto
end Go.Proofs.Ytaeblkmkpfklkaa
