/- The law CleanText, called: it returns true and keeps what there is. Nodes that came in: what is read of them lies there ('Ns'), and how much it is. What every frame of this seat's laws takes: the program's own row of knobs, its heap's layout, a row with a condition whose contract is told the world's shape. CleanText holds, for arguments of bulk up to 1048576: it returns true, and each argument reads behind the call as it read before. -/
import Derived.Test.YtlcljanibjdejaaGreatPk31
import Derived.Test.YtlcljanibjdejaaGreatPk30
import Derived.ProofKit
import Derived.OpenShut
import Derived.ShutString
import Derived.JoinedCond
import Derived.HandedShaped
import Derived.Carry
import Derived.SizedLaws
import Derived.Test.YtlcljanibjdejaaGreatPk03
namespace Go.Proofs.YtlcljanibjdejaaGreat
open Go.RowKit Go.Maps

set_option maxRecDepth 4000 in
set_option maxHeartbeats 4000000 in
theorem cleanText_law (base : List UInt8) (v : Value) (ns : List Nd) (w : World) (hN : Ns w (fun _ => True) v ns) (hbn : bulkNs ns ≤ 1100000) (hb : base.length ≤ maxLen) (hM : HasMax w) :
    Calls Tryz.prog 5 #[.string ⟨base.toArray⟩, v] w fun e w' => e = .returned (.bool true) ∧ Keeps [] w w' := by
  have hfit := bulkNs_fits ns hbn
  have hval := bulk_val ns hbn
  have hsz := bulkNs_size ns
  have tr := hide (cleanTree_any base w _ v ns hN hM (by omega) hfit.1 hval.1 (by omega) hb)
  have cb := hide (fun (w1 : World) (hk : Keeps [] w w1) => cleanBegun_any w1 (hM.keeps hk List.not_mem_nil))
  have hby : bytesNs ns ≤ 1100000 := by
    have : (ns : List Nd) → bytesNs ns ≤ bulkNs ns := fun ns => by
      induction ns using bytesNs.induct with
      | case1 => simp [bytesNs]
      | case2 n a t k r h1 h2 => rw [bytesNs, bulkNs]; omega
    have := this ns
    omega
  have tx := hide (fun (w1 : World) (hk : Keeps [] w w1) => textIn_all _ true w1 v ns (hN.keeps0 hk) (by omega) w1 (Keeps.refl _ _))
  have hct : treeE base ns = 0 → textNs false (cleanL base ns) = textNs true ns := fun h => clean_text base ns ((chkTree_ok ns).1 (by unfold treeE at h; by_cases hc : chkTree ns = 0; exact hc; rw [if_pos hc] at h; exact absurd h hc)).2
  have hlen := text_bytes true ns
  obtain ⟨o, c, hv⟩ := hN.form
  subst hv
  clear hN hfit hval hsz
  by_cases hE : treeE base ns = 0
  · have hc2 := hct hE
    have hb2 : bytesNs (cleanL base ns) ≤ 1100000 := by rw [bytes_text, hc2]; omega
    rw [hE] at tr
    simp only [if_true] at tr
    have tx2 := hide (fun (w1 : World) (P : Nat → Prop) (v1 : Value) (hv : Ns w1 P v1 (cleanL base ns)) (w2 : World) (hk : Keeps [] w1 w2) => textIn_all P false w1 v1 _ hv (by omega) w2 hk)
    rw [hc2] at tx2
    generalize cleanL base ns = CL at *
    generalize textNs true ns = TX at *
    clear hct hlen hE hc2
    go_enter Tryz.func5, Tryz.ntmps5
    go_wp2_with fail
    refine tr.out.mono ?_
    rintro e w1 ⟨o1, n1, c1, rfl, hN1, hk1⟩
    go_wp2_with fail
    refine (cb.out w1 hk1).mono ?_
    rintro e w2 ⟨rfl, hk2⟩
    have tx3 := hide (tx2.out w1 _ _ hN1 w2 hk2)
    go_wp2_with fail
    refine tx3.out.mono ?_
    rintro e w3 ⟨rfl, n3, rfl⟩
    have tx4 := hide (tx.out (w2.drewN n3) ((hk1.trans hk2).drewN n3))
    go_wp2_with fail
    refine tx4.out.mono ?_
    rintro e w4 ⟨rfl, n4, rfl⟩
    go_wp2_with fail
    go_ret
    exact ⟨by simp, (hk1.trans hk2).drewN _⟩
  · generalize treeE base ns = E at *
    simp only [hE, if_false] at tr
    have hEb : (E != 0) = true := by simpa using hE
    clear hct hE tx
    go_enter Tryz.func5, Tryz.ntmps5
    go_wp2_with fail
    refine tr.out.mono ?_
    rintro e w1 ⟨o1, n1, c1, rfl, hN1, hk1⟩
    obtain ⟨o9, c9, h9⟩ := hN1.form
    simp only [Value.slice.injEq, List.length_nil] at h9
    obtain ⟨rfl, rfl, rfl⟩ := h9
    go_wp2_with fail
    refine (cb.out w1 hk1).mono ?_
    rintro e w2 ⟨rfl, hk2⟩
    go_wp2_with fail
    go_ret
    exact ⟨by simp, hk1.trans hk2⟩
end Go.Proofs.YtlcljanibjdejaaGreat

namespace Go.Proofs.YtlcljanibjdejaaGreat
open Go.RowKit Go.Maps Go.Deep

theorem cell_lt {w : World} {a : Addr} {u : Value} (h : w.cell? a = some u) : a.block < w.heap.size := by
  rcases Nat.lt_or_ge a.block w.heap.size with h' | h'
  · exact h'
  · unfold World.cell? at h
    rw [Array.getElem?_eq_none h'] at h
    simp at h

theorem liesP_of {w : World} {v : Value} {n z : Nat} {xs : List Value} (h : Lies w v n z xs) (hz : 0 < z) : LiesP w (fun _ => True) v n z xs := by
  refine ⟨h.1, ?_⟩
  rcases h.2 with ⟨e, h0⟩ | ⟨g, o, c, e, h1, h2, h3⟩ | ⟨h0, a, c, e, h1⟩
  · exact .inl ⟨h0, none, 0, e, by simp [maxLen]⟩
  · by_cases h0 : n = 0
    · subst h0
      exact .inl ⟨rfl, _, c, e, h2⟩
    · have hpos : 0 < xs.length := by rw [h.1]; exact Nat.mul_pos (by omega) hz
      exact .inr ⟨g, o, c, e, h1, h2, cell_lt (h3 0 _ (List.getElem?_eq_getElem hpos)), trivial, h3⟩
  · exact .inl ⟨h0, a, c, e, h1⟩

section
variable {H : Type} {enc : TypeId × Value → H} {w : World} {base : Nat} {spare : Nat → Bool} {held : Bool}

set_option maxRecDepth 8000 in
theorem nodes_down : ∀ (B n : Nat) (v : Value) (x : DataW H × List MemPlace), Rows.uptoBulk x.1 ≤ B → DataW.trod enc Tryz.prog w base spare held n 29 [v] = some x → ∃ ns : List Nd, Ns w (fun _ => True) v ns ∧ bulkNs ns ≤ Rows.uptoBulk x.1 := by
  intro B
  induction B with
  | zero =>
    intro n v x hB h
    rcases open_slice Tryz.underlying29 h with ⟨hv, hx⟩ | ⟨a, len, cap, m, n', D, Pl, hv, _, hl, hm, hmm, hx, _⟩
    · rw [hx] at hB; simp [Rows.uptoBulk] at hB
    · rw [hx] at hB; simp [Rows.uptoBulk] at hB
  | succ B ihB =>
  intro n v x hB h
  rcases open_slice Tryz.underlying29 h with ⟨hv, _⟩ | ⟨a, len, cap, m, n', D, Pl, hv, _, hl, hm, hmm, rfl, hx⟩
  · simp at hv
    subst hv
    exact ⟨[], Ns.nil _ _ none 0 (by simp [maxLen]), by simp [bulkNs]⟩
  · simp at hv
    subst hv
    have hlm : len ≤ m := by rw [hmm]; split <;> omega
    have ce : Tryz.prog.cellsOf 45 = 4 := by kernel_rfl
    have c9 : Tryz.prog.cellsOf 9 = 1 := by kernel_rfl
    have c46 : Tryz.prog.cellsOf 43 = 1 := by kernel_rfl
    have c23 : Tryz.prog.cellsOf 29 = 1 := by kernel_rfl
    have hBD : ∀ i, i < len → Rows.uptoBulk (D i) ≤ B := by
      intro i hi
      simp only [Rows.uptoBulk] at hB
      have hs : ∀ (r : List Nat), i ∈ r → Rows.uptoBulk (D i) ≤ Rows.uptoBulkAll (r.map D) := fun r => by
        induction r with
        | nil => simp
        | cons j r ih =>
          intro hr
          simp only [List.map_cons, Rows.uptoBulkAll]
          rcases List.mem_cons.1 hr with rfl | hr
          · omega
          · have := ih hr; omega
      have := hs (List.range len) (List.mem_range.2 hi)
      omega
    have each : ∀ i, i < len → ∃ q : Pn, (∀ r, r < 4 → w.cell? (a.add (i * 4 + r)) = (pnCells q)[r]?) ∧ Lies w q.av q.nd.attrs.length 2 (pairCells q.nd.attrs) ∧ Ns w (fun _ => True) q.kv q.nd.kids ∧ bulkNs [q.nd] ≤ Rows.uptoBulk (D i) := by
      intro i hi
      have hBi := hBD i hi
      obtain ⟨cs', h1, h2⟩ := hx i (by omega)
      rw [ce] at h1
      obtain ⟨_, hlen, hcell⟩ := World.cells?_some h1
      obtain ⟨xs, k, hk, hxy, _, hxl, hf⟩ := DataW.trod_struct Tryz.underlying45 h2
      have hxl4 : xs.length = 4 := hxl
      clear hxl
      obtain ⟨y0, y1, y2, y3, rfl⟩ := four hxl4
      obtain ⟨v0, v1, v2, v3, rfl⟩ := four hlen
      have g0 := hf 0 _ rfl
      have g1 := hf 1 _ rfl
      have g2 := hf 2 _ rfl
      have g3 := hf 3 _ rfl
      simp [c9, c46, c23] at g0 g1 g2 g3
      obtain ⟨s0, e0, f0, _⟩ := DataW.trod_string Tryz.underlying9 g0
      obtain ⟨s2, e2, f2, _⟩ := DataW.trod_string Tryz.underlying9 g2
      obtain ⟨la, hla, hbl⟩ := attrs_down g1
      simp only [Prod.mk.injEq] at hxy
      rw [hxy.1] at hBi ⊢
      simp at e0 e2
      subst e0 e2 f0 f2
      simp only [List.map_cons, List.map_nil, Rows.uptoBulk, Rows.uptoBulkAll] at hBi ⊢
      obtain ⟨ks, hks, hbk⟩ := ihB _ _ _ (by omega) g3
      refine ⟨⟨.mk s0.data.toList la s2.data.toList ks, v1, v3⟩, ?_, hla, hks, ?_⟩
      · intro r hr
        have hc := hcell r hr
        rw [add_add] at hc
        rw [hc]
        match r, hr with
        | 0, _ => simp [pnCells, Nd.name]
        | 1, _ => rfl
        | 2, _ => simp [pnCells, Nd.text]
        | 3, _ => rfl
      · rw [bulkNs, bulkNs]
        simp
        omega
    haveI : Inhabited Pn := ⟨⟨.mk [] [] [] [], .nilIface, .nilIface⟩⟩
    obtain ⟨q, hq⟩ := choose_lt each
    refine ⟨((List.range len).map q).map Pn.nd, .mk _ ((List.range len).map q) _ rfl (liesP_of ?_ (by decide)) (fun p hp => ?_) (fun p hp => ?_), ?_⟩
    · rw [List.length_map, List.length_range]
      refine lies_of (by decide) hl hm (by rw [pnsCells_len]; simp) fun j u hj => ?_
      have hj2 : j < len * 4 := by
        have := (List.getElem?_eq_some_iff.1 hj).1
        rw [pnsCells_len] at this
        simpa using this
      have hi : j / 4 < ((List.range len).map q).length := by simp; omega
      have hi' : j / 4 < len := by omega
      have hel : ((List.range len).map q)[j / 4] = q (j / 4) := by simp
      have h8 := pn_at ((List.range len).map q) (j / 4) (j % 4) hi (by omega)
      rw [show j / 4 * 4 + j % 4 = j from by omega, hj, hel] at h8
      have h9 := (hq (j / 4) hi').1 (j % 4) (by omega)
      rw [show j / 4 * 4 + j % 4 = j from by omega] at h9
      rw [h9, ← h8]
    · obtain ⟨i, hi, rfl⟩ := List.mem_map.1 hp
      exact liesP_of (hq i (List.mem_range.1 hi)).2.1 (by decide)
    · obtain ⟨i, hi, rfl⟩ := List.mem_map.1 hp
      exact (hq i (List.mem_range.1 hi)).2.2.1
    · simp only [Rows.uptoBulk]
      have hs : ∀ (r : List Nat), (∀ i ∈ r, i < len) → bulkNs ((r.map q).map Pn.nd) ≤ Rows.uptoBulkAll (r.map D) := fun r => by
        induction r with
        | nil => simp [bulkNs]
        | cons i r ih =>
          intro hr
          have h1 := ih (fun k hk => hr k (by simp [hk]))
          have h2 := (hq i (hr i (by simp))).2.2.2
          rw [bulkNs_cons, bulkNs] at h2
          simp only [List.map_cons, Rows.uptoBulkAll]
          rw [bulkNs_cons]
          omega
      have := hs (List.range len) (fun i hi => List.mem_range.1 hi)
      omega
end
end Go.Proofs.YtlcljanibjdejaaGreat

namespace Go.Proofs.YtlcljanibjdejaaGreat
open Go.RowKit Go.Maps
open Go.ChangeShapes Go.WideShapes Go.ChangeAt
open Go.ChangeMaps (open_string shut_string)

theorem knob_own : ownKnob Tryz.prog.godebug = none := by kernel_rfl
theorem laid_out : laidOutB Tryz.prog = true := by kernel_rfl
theorem prog_maps : mapsRowed Tryz.prog = true := by kernel_rfl
theorem prog_plain : (true == Tryz.prog.plainKeys) = true := by kernel_rfl
theorem prog_heard : Tryz.prog.stopsHeard = true := by kernel_rfl
theorem prog_enter : Tryz.prog.mayEnter = true := by kernel_rfl
theorem prog_lifted : (false == Tryz.prog.liftsFinal) = true := by kernel_rfl
theorem prog_make : (Tryz.prog.make == some .cut) = true := by kernel_rfl
theorem max_shaped (W : World) (h : W.ShapedOpen Tryz.prog) : HasMax W := Tryz.laysM143.s1_3 W h

/-- A row with a condition, whose contract is told the world's shape too. -/
theorem of_cond_shaped {H : Type} {enc : TypeId × Value → H} {a : Assume} {C : Checked} {os : Os} {f : FuncId} {fn : Func} {s : OpenSpec} {k : (H : Type) → List (DataW H) → Bool} (hk : s.cond = some k) {F : Stop.Interp} {conds : List PathCond} {apart fresh handsOn again : Bool}
    (own : ownKnob C.prog.godebug = none) (started : os.Started) (noInit : C.prog.inits.idxOf? f = none) (hfn : C.prog.funcs[f]? = some fn)
    (witness : ∃ (w : World) (tape : Tape) (i : Input), w.os = os ∧ (w.forCall tape i).Shaped C.prog ∧ i.vars = [] ∧ Input.okWide C.prog (w.forCall tape i) .any w.heap.size f i ∧
      s.pre6 enc C.prog fn conds apart (w.forCall tape i).memory i.args ∧ a.holds C.prog (lone (Frame.enter C.prog f i.args .normal) [] (w.forCall tape i)))
    (contract : ∀ (W : World) (base : Nat) (args : Array Value) (ds gs : List (DataW H)) (before : List MemPlace),
      (∀ (j : Nat) t v, fn.params[j]? = some t → args[j]? = some v → Value.okWide C.prog W .any base t v) →
      DataW.Whole enc C.prog fn.params.toList s.vars apart W args.toList ds gs before →
      k H (ds ++ gs) = true → W.ShapedOpen C.prog →
      Calls C.prog f args W fun e W' => ∃ v, e = .returned v ∧ (s.at F).post enc C.prog fn apart fresh handsOn again W args v W') :
    ReturnsInHanded a C os f .any (s.pre6 enc C.prog fn conds apart) ((s.at F).post enc C.prog fn apart fresh handsOn again) := by
  refine returnsInHanded_of_calls own started noInit witness ?_
  intro w tape i _ hsh _ hok hpre hholds
  obtain ⟨_, _, _, fn', hfn', _, _, _, _, hval⟩ := hok
  have e : fn' = fn := Option.some.inj (hfn'.symm.trans hfn)
  subst e
  obtain ⟨ds, gs, before, hw, hc, hkk⟩ := (OpenSpec.pre_some hk conds apart _ _).1 hpre.1
  have hw' := DataW.Whole.of_heap (w' := w.forCall tape i) (by rfl) hw
  refine (contract (w.forCall tape i) w.heap.size i.args ds gs before hval hw' hkk hsh).mono fun e W' ⟨v, he, hp⟩ => ?_
  subst he
  exact ChangeSpec.post_blind hp
end Go.Proofs.YtlcljanibjdejaaGreat

namespace Go.Proofs.YtlcljanibjdejaaGreat
open Go.RowKit Go.Maps
open Go.ChangeShapes Go.WideShapes Go.ChangeAt
open Go.ChangeMaps (open_string shut_string)

set_option maxRecDepth 100000 in
theorem cleanText_lifted (os : Os) (started : os.Started) (H : Type) (enc : TypeId × Value → H) (F : Stop.Interp) :
    ReturnsInHanded {} Tryz.checked os 5 .any ((Rows.OpenSpec.upto Rows.cleanTextSpec).pre6 enc Tryz.prog Tryz.f5 Rows.cleanTextUptoRow.domain false) (((Rows.OpenSpec.upto Rows.cleanTextSpec).at F).post enc Tryz.prog Tryz.f5 false true false false) := by
  refine of_cond_shaped (C := Tryz.checked) (s := Rows.OpenSpec.upto Rows.cleanTextSpec) (k := Rows.uptoSmall) rfl knob_own started (by kernel_rfl) Tryz.func5
    (OpenSpec.witness (enc := enc) (C := Tryz.checked) (s := Rows.OpenSpec.upto Rows.cleanTextSpec) (k := Rows.uptoSmall) rfl false ⟨#[], #[.string ByteArray.empty, .slice none 0 0], []⟩ 8 (by kernel_rfl) (by kernel_rfl) (by kernel_rfl)
      (x := ([.lit (.string []), .nil], [], [])) (by kernel_rfl) rfl (by kernel_rfl)) ?_
  intro W base args ds gs before hval0 hW hk hsh
  have hval : ∀ (j : Nat) t v, Tryz.f5.params[j]? = some t → args[j]? = some v → Value.okWide Tryz.prog W .any base t v := hval0
  have hM : HasMax W := max_shaped W hsh
  have hW' := hW
  obtain ⟨p, q, hA0, hV, rfl, hfz, hnd⟩ := hW
  have hA : DataW.TrodAll enc Tryz.prog W 0 (fun _ => true) true Tryz.f5.params.toList args.toList ds p := hA0
  rw [Tryz.params5] at hA hval
  obtain ⟨v0, v1, d0, d1, p0, p1, rfl, rfl, rfl, h0, h1⟩ := trodAll_two hA
  obtain ⟨rfl, rfl⟩ := trodVars_none hV
  obtain ⟨a0, rfl, rfl, rfl, w0⟩ := open_string Tryz.underlying9 (hval 0 9 v0 rfl rfl) h0
  have hlt : ∀ x ∈ p1, x.block < W.heap.size := fun x hx => hW'.lt x (by simp [hx])
  have hb : Rows.uptoBulkAll ([.lit (.string a0.data.toList), d1] ++ ([] : List (DataW H))) ≤ 1048576 := of_decide_eq_true hk
  simp only [List.append_nil, Rows.uptoBulkAll, Rows.uptoBulk] at hb
  obtain ⟨fuel, hf⟩ := id h1
  obtain ⟨o, n, c, rfl⟩ := okWide_slice Tryz.underlying29 (hval 1 29 v1 rfl rfl)
  obtain ⟨ns, hns, hbn⟩ := nodes_down _ _ _ _ (Nat.le_refl _) (by simpa [Value.cells] using hf)
  clear hA0 hval0
  simp only [List.append_nil] at hW'
  have law := cleanText_law a0.data.toList _ ns W hns (by simp only at hbn; omega) (by simp only [maxLen]; simp at hb; simp; omega) hM
  rw [str_backA] at law
  refine law.mono fun e W' ⟨he, hg⟩ => ?_
  subst he
  refine ⟨_, rfl, _, _, _, [], [] ++ (p1 ++ []), [], hW', trodAll_cons_mk (shut_bool Tryz.underlying4 _) trodAll_mk0, ?_, rfl, hg.nil_below.frame _, fun h => by cases h⟩
  exact trodAll_cons_mk (shut_string Tryz.underlying9 w0) (trodAll_cons_mk (Below.trod laid_out (by kernel_rfl) (of_decide_eq_true (by kernel_rfl)) h1 hg.nil_below hlt) trodAll_mk0)

set_option maxHeartbeats 8000000 in
theorem cleanText_closed : joinedFacts Tryz.prog 5 Tryz.f5 (Rows.OpenSpec.upto Rows.cleanTextSpec).bare Rows.cleanTextUptoRow = true := by
  simp only [joinedFacts, Bool.and_eq_true]
  refine ⟨⟨⟨⟨⟨⟨⟨⟨⟨⟨⟨⟨⟨⟨⟨⟨⟨⟨⟨⟨⟨⟨⟨⟨⟨⟨⟨⟨⟨⟨⟨?_, laid_out⟩, prog_maps⟩, ?_⟩, ?_⟩, ?_⟩, ?_⟩, ?_⟩, ?_⟩, ?_⟩, ?_⟩, ?_⟩, ?_⟩, ?_⟩, ?_⟩, ?_⟩, ?_⟩, ?_⟩, ?_⟩, ?_⟩, ?_⟩, ?_⟩, prog_plain⟩, ?_⟩, prog_heard⟩, prog_enter⟩, prog_lifted⟩, prog_make⟩, ?_⟩, ?_⟩, ?_⟩, ?_⟩
  all_goals as_aux_lemma => kernel_rfl
theorem cleanText_named : Tryz.prog.funcNamed Rows.cleanTextUptoRow.func = some 5 := by kernel_rfl

theorem cleanText_upto : Rows.CleanTextUptoSaid :=
  OpenClaim.holds_of_cond 5 Tryz.f5 rfl rfl rfl rfl rfl rfl rfl ⟨rfl, rfl, rfl, rfl, rfl⟩ rfl rfl rfl rfl rfl cleanText_named Tryz.func5 cleanText_closed
    (of_decide_eq_true (by as_aux_lemma => kernel_rfl)) (by unfold Func.isWrapper; first | (rw [if_pos (by decide +kernel)]; kernel_rfl) | (rw [if_neg (by decide +kernel)]; exact ⟨rfl, rfl⟩))
    (fun os started H enc _ F => cleanText_lifted os started H enc F)
#print axioms cleanText_upto
end Go.Proofs.YtlcljanibjdejaaGreat
