/- Attributes of a tag: attrs. -/
import Derived.Test.YtngojdajamgababGreatAttrL
namespace Go.Proofs.YtngojdajamgababGreat
open Go.RowKit Go.Maps

theorem enters102 : Enters 102 := enters_of Tryz.func102 (by kernel_rfl) (by kernel_rfl)

/-- The cells of a row of attributes. -/
def pairCells (l : List Pair) : List Value := l.flatMap fun p => [.string ⟨p.1.toArray⟩, .string ⟨p.2.toArray⟩]
theorem pairCells_add (l : List Pair) (p : Pair) : pairCells (l ++ [p]) = pairCells l ++ [.string ⟨p.1.toArray⟩, .string ⟨p.2.toArray⟩] := by simp [pairCells]
theorem pairCells_len (l : List Pair) : (pairCells l).length = l.length * 2 := by
  induction l with
  | nil => rfl
  | cons p l ih =>
    have e : pairCells (p :: l) = [.string ⟨p.1.toArray⟩, .string ⟨p.2.toArray⟩] ++ pairCells l := by simp [pairCells]
    rw [e, List.length_append, ih]
    simp
    omega

theorem one_attrsAt {l : List UInt8} {f k : Nat} {acc : List Pair} {R : Option (List Pair × Nat)} (h : attrsAt l (f + 1) k acc = R) (k1 : Nat) (hk1 : k + ((l.drop k).takeWhile skipB).length = k1) :
    R = match l.drop k1 with
    | [] => none
    | d :: q => if d = 62 then some (acc, k1) else
      match attrL (d :: q) with
      | none => none
      | some (p, m) => attrsAt l f (k1 + m) (if p.1 ∈ acc.map (·.1) ∨ isNameL p.1 = false then acc else acc ++ [p]) := by
  subst hk1
  rw [← h]
  rfl

theorem info88 : (Tryz.prog.info? 83).map (fun i => (i.zero, i.size, i.bytes)) = some (some (.agg #[.string ⟨#[]⟩, .string ⟨#[]⟩]), 2, 32) := by kernel_rfl
theorem cells2 (x y : ByteArray) : (Value.agg #[.string x, .string y]).cells.size = 2 := by kernel_rfl

set_option maxRecDepth 4000 in
set_option maxHeartbeats 4000000 in
theorem attrs_any (r b : Nat) (rawv outv : Value) (s : ByteArray) (k0 : Nat) (w : World) (hs : s.size ≤ 3000) (hR : IsReader w r b rawv outv) (hT : IsText w b s k0) (hk0 : k0 ≤ s.size) :
    Calls Tryz.prog 90 #[.pointer (some ⟨r, 0, none⟩)] w fun e w' =>
      ((∃ l k' v, attrsAt s.data.toList (s.size + 1) k0 [] = some (l, k') ∧ e = .returned v ∧ w'.ownsRow (w.heap.size + 1) 83 2 v l.length (pairCells l) ∧ l.length ≤ k' ∧ k' < s.size ∧ byteAt s k' = 62 ∧ IsText w' b s k') ∨
       (attrsAt s.data.toList (s.size + 1) k0 [] = none ∧ e = .panicked gave ∧ ∃ j, IsText w' b s j)) ∧ Keeps [b] w w' := by
  have hne := hR.ne hT
  have hbw := hT.lt
  have hl := len_size s
  obtain ⟨R, hRR⟩ : ∃ R, attrsAt s.data.toList (s.size + 1) k0 [] = R := ⟨_, rfl⟩
  rw [hRR]
  have HR0 := hide hRR
  clear hRR
  have hmm := @run_makeMap Tryz.prog
  obtain ⟨i0, hi, hz0, hz1, hz2⟩ := info_parts info88
  go_enter Tryz.func90, Tryz.ntmps90
  go_wp2_with fail
  have hset0 : IsSet (w.alloc (.map #[] 0)) w.heap.size [] := IsSet.made w
  have hk0' : Keeps [b] w (w.alloc (.map #[] 0)) := (Keeps.refl [b] w).alloc _
  go_loopg [3] (s.size + 1) (fun g v wr => ∃ (k : Nat) (acc : List Pair), k ≤ s.size ∧ s.size + 1 ≤ g + k ∧ wr.ownsRow (w.heap.size + 1) 83 2 v acc.length (pairCells acc) ∧ IsText wr b s k ∧ IsReader wr r b rawv outv ∧ IsSet wr w.heap.size (acc.map (·.1)) ∧ Keeps [b] w wr ∧ acc.length ≤ k ∧ w.heap.size + 1 ≤ wr.heap.size ∧ Hid (attrsAt s.data.toList g k acc = R))
  case atStart => exact ⟨k0, [], hk0, by omega, ⟨rfl, .inl ⟨rfl, rfl⟩⟩, hT.keeps ((Keeps.refl [] w).alloc _) List.not_mem_nil, hR.keeps ((Keeps.refl [] w).alloc _) List.not_mem_nil, hset0, hk0', Nat.zero_le _, by simp, HR0⟩
  case round =>
    obtain ⟨k, acc, hk, hg, ho, hT1, hR1, hset, hkp, hal, hws, hF⟩ := hrel
    clear HR0 hset0 hk0'
    obtain ⟨f, rfl⟩ : ∃ f, gk = f + 1 := ⟨gk - 1, by omega⟩
    have hp := hide (fun w hT => pass_of 102 skipB enters102 skip_any b s k w hs hT hk)
    have hLl := takeWhile_le skipB s k hk
    have HF := hide (one_attrsAt hF.out)
    generalize (s.data.toList.drop k).takeWhile skipB = L at *
    generalize hk1 : k + L.length = k1 at *
    have HF1 := hide (HF.out k1 rfl)
    have hkk : k ≤ k1 := by omega
    clear HF hF hk1
    have c1 := hR1.cell0
    go_wp2_with fail
    refine (hp.out _ hT1).mono ?_
    rintro e w2 ⟨rfl, hT2, hk2⟩
    have hR2 := hR1.keeps hk2 (by simpa using hne)
    have hset2 := hset.keeps hk2 (by simp; omega)
    have ho2 := hk2.owns ho (fun g hg => by have := (ho.lt g hg).1; simp; omega)
    have hkp2 := hkp.trans hk2
    have hws2 := Nat.le_trans hws hk2.size
    clear c1 hp ho hT1 hR1 hset hkp hk2 hws
    have c2 := hR2.cell0
    by_cases hend : s.size ≤ k1
    · go_wp2_with fail
      refine (peekN b s k1 _ hT2 hend).mono ?_
      rintro e w3 ⟨rfl, hT3, hk3⟩
      have hRn : R = none := by have := HF1.out; rwa [List.drop_eq_nil_of_le (by omega)] at this
      have HRn := hide hRn
      clear hRn
      go_wp2_with fail
      exact ⟨rfl, .inr ⟨HRn.out, rfl, _, hT3⟩, hkp2.trans (hk3.to (by simp))⟩
    · have hlt : k1 < s.size := by omega
      go_wp2_with fail
      refine (peekY b s k1 _ hT2 hlt).mono ?_
      rintro e w3 ⟨rfl, hT3, hk3⟩
      have hR3 := hR2.keeps hk3 List.not_mem_nil
      have hset3 := hset2.keeps hk3 List.not_mem_nil
      have ho3 := hk3.owns ho2 (fun g hg => List.not_mem_nil)
      have hkp3 : Keeps [b] w w3 := hkp2.trans (hk3.to (by simp))
      have hws3 := Nat.le_trans hws2 hk3.size
      clear c2 ho2 hT2 hR2 hset2 hkp2 hk3 hws2
      have HF2 := HF1.out
      rw [drop_byteAt s k1 hlt] at HF2
      by_cases hgt : byteAt s k1 = 62
      · have hbq : (((byteAt s k1).toNat : Int) == 62) = true := by rw [hgt]; rfl
        simp only [if_pos hgt] at HF2
        have HF3 := hide HF2
        clear HF2 HF1
        go_wp2_with fail
        go_ret
        exact ⟨.inl ⟨acc, k1, _, HF3.out, rfl, ho3, by omega, hlt, hgt, hT3⟩, hkp3⟩
      · have hbq : (((byteAt s k1).toNat : Int) == 62) = false := by
          rw [← beq_at (d := 62) (k := 62) rfl]; simpa using hgt
        simp only [if_neg hgt] at HF2
        rw [← drop_byteAt s k1 hlt] at HF2
        have HF3 := hide HF2
        clear HF2 HF1
        go_wp2_with fail
        refine (attr_any r b rawv outv s k1 _ hs hR3 hT3 hlt).mono ?_
        rintro e w4 ⟨⟨n, v, m, ha, rfl, hT4⟩ | ⟨ha, rfl, j, hT4⟩, hk4⟩
        · have HF4 := HF3.out
          rw [ha] at HF4
          have hm1 := attrL_pos ha
          have hm2 := (attrL_len ha).1
          have hm3 : n.length ≤ _ := (attrL_len ha).2
          rw [List.length_drop] at hm2 hm3
          have HF5 := hide HF4
          clear HF4 HF3 ha
          have hR4 := hR3.keeps hk4 (by simpa using hne)
          have hset4 := hset3.keeps hk4 (by simp; omega)
          have ho4 := hk4.owns ho3 (fun g hg => by have := (ho3.lt g hg).1; simp; omega)
          have hkp4 : Keeps [b] w w4 := hkp3.trans hk4
          have hws4 := Nat.le_trans hws3 hk4.size
          clear ho3 hT3 hR3 hset3 hkp3 hk4 hws3
          have hb4 := hT4.lt
          have hlook := fun o => (hset4.keeps ((Keeps.refl [] w4).alloc o) List.not_mem_nil).look n (by unfold maxLen; omega)
          generalize hmm : acc.map (·.1) = met at *
          have hk5 : Keeps [] w4 ((w4.alloc (.cells #[.string ⟨n.toArray⟩, .string ⟨v.toArray⟩] 83)).alloc (.cells #[] 99)) := ((Keeps.refl [] w4).alloc _).alloc _
          have hA5 : IsPair ((w4.alloc (.cells #[.string ⟨n.toArray⟩, .string ⟨v.toArray⟩] 83)).alloc (.cells #[] 99)) w4.heap.size ⟨n.toArray⟩ ⟨v.toArray⟩ :=
            (show IsPair (w4.alloc (.cells #[.string ⟨n.toArray⟩, .string ⟨v.toArray⟩] 83)) w4.heap.size ⟨n.toArray⟩ ⟨v.toArray⟩ from heap_alloc_new w4 _).keeps ((Keeps.refl [] _).alloc _) List.not_mem_nil
          by_cases htw : n ∈ met
          · have hd : decide (n ∈ met) = true := by simpa using htw
            rw [hd] at hlook
            have HF6 := HF5.out
            simp only [htw, true_or, if_true] at HF6
            have HF7 := hide HF6.symm
            clear HF6 HF5
            go_wp2_with fail
            go_roundg f
            case measure => omega
            case rel => exact ⟨k1 + m, acc, by omega, by omega, hk5.owns ho4 (fun g hg => List.not_mem_nil), hT4.keeps hk5 List.not_mem_nil, hR4.keeps hk5 List.not_mem_nil, hmm ▸ hset4.keeps hk5 List.not_mem_nil, hkp4.trans (hk5.to (by simp)), by omega, Nat.le_trans hws4 hk5.size, HF7⟩
          · have hd : decide (n ∈ met) = false := by simpa using htw
            rw [hd] at hlook
            have hnm := hide (fun w => isName_any ⟨n.toArray⟩ w (by rw [str_size]; omega))
            rw [str_list] at hnm
            have a0 := hA5.cell0
            cases hin : isNameL n
            · rw [hin] at hnm
              have HF6 := HF5.out
              simp only [hin, or_true, if_true] at HF6
              have HF7 := hide HF6.symm
              clear HF6 HF5
              go_wp2_with fail
              refine (hnm.out _).mono ?_
              rintro e w6 ⟨rfl, rfl⟩
              go_wp2_with fail
              go_roundg f
              case measure => omega
              case rel => exact ⟨k1 + m, acc, by omega, by omega, hk5.owns ho4 (fun g hg => List.not_mem_nil), hT4.keeps hk5 List.not_mem_nil, hR4.keeps hk5 List.not_mem_nil, hmm ▸ hset4.keeps hk5 List.not_mem_nil, hkp4.trans (hk5.to (by simp)), by omega, Nat.le_trans hws4 hk5.size, HF7⟩
            · rw [hin] at hnm
              have hcond : ¬ ((n, v).1 ∈ met ∨ isNameL (n, v).1 = false) := by simp [hin, htw]
              have HF6 : R = attrsAt s.data.toList f (k1 + m) (acc ++ [(n, v)]) := HF5.out.trans (by show attrsAt _ _ _ (if _ then _ else _) = _; rw [if_neg hcond])
              have HF7 := hide HF6.symm
              clear HF6 HF5
              have hml : met.length < maxLen := by rw [← hmm, List.length_map]; unfold maxLen; omega
              obtain ⟨w6, hup, hset6, hk6⟩ := (hset4.keeps hk5 List.not_mem_nil).add n (by unfold maxLen; omega) hml
              have hz4 := hset4.lt
              have hA6 := hA5.keeps hk6 (by simp; omega)
              have hR6 := (hR4.keeps hk5 List.not_mem_nil).keeps hk6 (by have := hR.lt; simp; omega)
              have hT6 := (hT4.keeps hk5 List.not_mem_nil).keeps hk6 (by simp; omega)
              have ho6 := hk6.owns (hk5.owns ho4 (fun g hg => List.not_mem_nil)) (fun g hg => by have := (ho4.lt g hg).1; simp; omega)
              have hkp6 : Keeps [b] w w6 := (((hkp4.to (T := [b, w.heap.size]) (by simp)).trans (hk5.to (by simp))).trans (hk6.to (by simp))).mono fun i hi hlt => by simp at hi ⊢; omega
              have hws6 : w.heap.size + 1 ≤ w6.heap.size := Nat.le_trans (Nat.le_trans hws4 hk5.size) hk6.size
              have b0 := hA6.cell0
              have b1 := hA6.cell1
              have q := heap_alloc_new w6 (.cells #[.string ⟨n.toArray⟩, .string ⟨v.toArray⟩] 83)
              go_wp2_with fail
              refine (hnm.out _).mono ?_
              rintro e w6 ⟨rfl, rfl⟩
              go_wp2_with (at_builtin; refine wpList_append_own _ rfl _ _ 46 rfl (w.heap.size + 1) 83 i0 _ 2 32 Tryz.underlying46 hi hz0 hz1 hz2 (cells2 _ _) (by decide) _ _ _ rfl (ho6.alloc _) ⟨w6.heap.size, 0, none⟩ 1 1 [.string ⟨n.toArray⟩, .string ⟨v.toArray⟩] rfl rfl ?c1 ?c2 ?c3 ?c4 ?c5 ?_)
              case c1 =>
                intro j u hj
                rw [add_zero]
                have qq : IsPair (w6.alloc (.cells #[.string ⟨n.toArray⟩, .string ⟨v.toArray⟩] 83)) w6.heap.size ⟨n.toArray⟩ ⟨v.toArray⟩ := q
                match j, hj with
                | 0, hj => simp at hj; subst hj; exact qq.cell0
                | 1, hj => simp at hj; subst hj; exact qq.cell1
              case c2 => intro u hu; simp at hu; rcases hu with rfl | rfl <;> rfl
              case c3 => unfold maxLen; omega
              case c4 => omega
              case c5 => simp; omega
              intro v7 w7 ho7 hg7 _
              have hk7 : Keeps u3.ownBlock.toList w6 w7 := ((Keeps.refl _ w6).alloc _).grown hg7 fun i e => .inl (by simp [e])
              have hro : ∀ g, g ∈ u3.ownBlock.toList → w.heap.size + 1 ≤ g := fun g hg => (ho6.lt g (by simpa using hg)).1
              have hT7 := hT6.keeps hk7 (fun h => by have := hro _ h; omega)
              have hR7 := hR6.keeps hk7 (fun h => by have := hro _ h; have := hR.lt; omega)
              have hset7 := hset6.keeps hk7 (fun h => by have := hro _ h; omega)
              have hkp7 : Keeps [b] w w7 := ((hkp6.to (T := b :: u3.ownBlock.toList) (by simp)).trans (hk7.to (fun i hi => by simp at hi ⊢; exact .inr hi))).mono fun i hi hlt => by
                rcases List.mem_cons.1 hi with rfl | hi
                · simp
                · have := hro _ hi; omega
              have ho7' : w7.ownsRow (w.heap.size + 1) 83 2 v7 (acc ++ [(n, v)]).length (pairCells (acc ++ [(n, v)])) := by
                rw [pairCells_add, List.length_append]; exact ho7
              have hset7' : IsSet w7 w.heap.size ((acc ++ [(n, v)]).map (·.1)) := by
                rw [List.map_append, hmm]; exact hset7
              go_wp2_with fail
              go_roundg f
              case measure => omega
              case rel => exact ⟨k1 + m, acc ++ [(n, v)], by omega, by omega, ho7', hT7, hR7, hset7', hkp7, by rw [List.length_append]; simp; omega, Nat.le_trans hws6 hk7.size, HF7⟩
        · have hRn : R = none := by have := HF3.out; rwa [ha] at this
          have HRn := hide hRn
          clear hRn
          go_wp2_with fail
          exact ⟨rfl, .inr ⟨HRn.out, rfl, _, hT4⟩, hkp3.trans hk4⟩
end Go.Proofs.YtngojdajamgababGreat
