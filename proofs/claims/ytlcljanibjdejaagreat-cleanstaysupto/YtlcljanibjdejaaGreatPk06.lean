/- Attributes of a tag: attrs. A reader of markup, its text that isn't taken yet and its tokens: Rd; tagName, tagBegins. endText and put. put, openTag, closeTag. -/
import Derived.Test.YtlcljanibjdejaaGreatPk04
import Derived.Deep.Onto
import Derived.Maps.AppendAt
namespace Go.Proofs.YtlcljanibjdejaaGreat
open Go.RowKit Go.Maps

theorem enters293 : Enters 293 := enters_of Tryz.func293 (by kernel_rfl) (by kernel_rfl)

/-- The cells of a row of attributes. -/
def pairCells (l : List Pair) : List Value := l.flatMap fun p => [.string ⟨p.1.toArray⟩, .string ⟨p.2.toArray⟩]
theorem pairCells_add (l : List Pair) (p : Pair) : pairCells (l ++ [p]) = pairCells l ++ [.string ⟨p.1.toArray⟩, .string ⟨p.2.toArray⟩] := by simp [pairCells]
theorem pairCells_len (l : List Pair) : (pairCells l).length = l.length * 2 := by
  induction l with
  | nil => rfl
  | cons p l ih =>
    have e : pairCells (p :: l) = [.string ⟨p.1.toArray⟩, .string ⟨p.2.toArray⟩] ++ pairCells l := by simp [pairCells]
    rw [e, List.length_append, ih]
    simp
    omega

theorem one_attrsAt {l : List UInt8} {f k : Nat} {acc : List Pair} {R : Option (List Pair × Nat)} (h : attrsAt l (f + 1) k acc = R) (k1 : Nat) (hk1 : k + ((l.drop k).takeWhile skipB).length = k1) :
    R = match l.drop k1 with
    | [] => none
    | d :: q => if d = 62 then some (acc, k1) else
      match attrL (d :: q) with
      | none => none
      | some (p, m) => attrsAt l f (k1 + m) (if p.1 ∈ acc.map (·.1) ∨ isNameL p.1 = false then acc else acc ++ [p]) := by
  subst hk1
  rw [← h]
  rfl

theorem info88 : (Tryz.prog.info? 52).map (fun i => (i.zero, i.size, i.bytes)) = some (some (.agg #[.string ⟨#[]⟩, .string ⟨#[]⟩]), 2, 32) := by kernel_rfl
theorem cells2 (x y : ByteArray) : (Value.agg #[.string x, .string y]).cells.size = 2 := by kernel_rfl

set_option maxRecDepth 4000 in
set_option maxHeartbeats 4000000 in
theorem attrs_any (r b : Nat) (rawv outv : Value) (s : ByteArray) (k0 : Nat) (w : World) (hs : s.size ≤ 3000) (hR : IsReader w r b rawv outv) (hT : IsText w b s k0) (hk0 : k0 ≤ s.size) :
    Calls Tryz.prog 230 #[.pointer (some ⟨r, 0, none⟩)] w fun e w' =>
      ((∃ l k' v, attrsAt s.data.toList (s.size + 1) k0 [] = some (l, k') ∧ e = .returned v ∧ w'.ownsRow (w.heap.size + 1) 52 2 v l.length (pairCells l) ∧ l.length ≤ k' ∧ k' < s.size ∧ byteAt s k' = 62 ∧ IsText w' b s k') ∨
       (attrsAt s.data.toList (s.size + 1) k0 [] = none ∧ e = .panicked gave ∧ ∃ j, IsText w' b s j)) ∧ Keeps [b] w w' := by
  have hne := hR.ne hT
  have hbw := hT.lt
  have hl := len_size s
  obtain ⟨R, hRR⟩ : ∃ R, attrsAt s.data.toList (s.size + 1) k0 [] = R := ⟨_, rfl⟩
  rw [hRR]
  have HR0 := hide hRR
  clear hRR
  have hmm := @run_makeMap Tryz.prog
  obtain ⟨i0, hi, hz0, hz1, hz2⟩ := info_parts info88
  go_enter Tryz.func230, Tryz.ntmps230
  go_wp2_with fail
  have hset0 : IsSet (w.alloc (.map #[] 0)) w.heap.size [] := IsSet.made w
  have hk0' : Keeps [b] w (w.alloc (.map #[] 0)) := (Keeps.refl [b] w).alloc _
  go_loopg [3] (s.size + 1) (fun g v wr => ∃ (k : Nat) (acc : List Pair), k ≤ s.size ∧ s.size + 1 ≤ g + k ∧ wr.ownsRow (w.heap.size + 1) 52 2 v acc.length (pairCells acc) ∧ IsText wr b s k ∧ IsReader wr r b rawv outv ∧ IsSet wr w.heap.size (acc.map (·.1)) ∧ Keeps [b] w wr ∧ acc.length ≤ k ∧ w.heap.size + 1 ≤ wr.heap.size ∧ Hid (attrsAt s.data.toList g k acc = R))
  case atStart => exact ⟨k0, [], hk0, by omega, ⟨rfl, .inl ⟨rfl, rfl⟩⟩, hT.keeps ((Keeps.refl [] w).alloc _) List.not_mem_nil, hR.keeps ((Keeps.refl [] w).alloc _) List.not_mem_nil, hset0, hk0', Nat.zero_le _, by simp, HR0⟩
  case round =>
    obtain ⟨k, acc, hk, hg, ho, hT1, hR1, hset, hkp, hal, hws, hF⟩ := hrel
    clear HR0 hset0 hk0'
    obtain ⟨f, rfl⟩ : ∃ f, gk = f + 1 := ⟨gk - 1, by omega⟩
    have hp := hide (fun w hT => pass_of 293 skipB enters293 skip_any b s k w hs hT hk)
    have hLl := takeWhile_le skipB s k hk
    have HF := hide (one_attrsAt hF.out)
    generalize (s.data.toList.drop k).takeWhile skipB = L at *
    generalize hk1 : k + L.length = k1 at *
    have HF1 := hide (HF.out k1 rfl)
    have hkk : k ≤ k1 := by omega
    clear HF hF hk1
    have c1 := hR1.cell0
    go_wp2_with fail
    refine (hp.out _ hT1).mono ?_
    rintro e w2 ⟨rfl, hT2, hk2⟩
    have hR2 := hR1.keeps hk2 (by simpa using hne)
    have hset2 := hset.keeps hk2 (by simp; omega)
    have ho2 := hk2.owns ho (fun g hg => by have := (ho.lt g hg).1; simp; omega)
    have hkp2 := hkp.trans hk2
    have hws2 := Nat.le_trans hws hk2.size
    clear c1 hp ho hT1 hR1 hset hkp hk2 hws
    have c2 := hR2.cell0
    by_cases hend : s.size ≤ k1
    · go_wp2_with fail
      refine (peekN b s k1 _ hT2 hend).mono ?_
      rintro e w3 ⟨rfl, hT3, hk3⟩
      have hRn : R = none := by have := HF1.out; rwa [List.drop_eq_nil_of_le (by omega)] at this
      have HRn := hide hRn
      clear hRn
      go_wp2_with fail
      exact ⟨rfl, .inr ⟨HRn.out, rfl, _, hT3⟩, hkp2.trans (hk3.to (by simp))⟩
    · have hlt : k1 < s.size := by omega
      go_wp2_with fail
      refine (peekY b s k1 _ hT2 hlt).mono ?_
      rintro e w3 ⟨rfl, hT3, hk3⟩
      have hR3 := hR2.keeps hk3 List.not_mem_nil
      have hset3 := hset2.keeps hk3 List.not_mem_nil
      have ho3 := hk3.owns ho2 (fun g hg => List.not_mem_nil)
      have hkp3 : Keeps [b] w w3 := hkp2.trans (hk3.to (by simp))
      have hws3 := Nat.le_trans hws2 hk3.size
      clear c2 ho2 hT2 hR2 hset2 hkp2 hk3 hws2
      have HF2 := HF1.out
      rw [drop_byteAt s k1 hlt] at HF2
      by_cases hgt : byteAt s k1 = 62
      · have hbq : (((byteAt s k1).toNat : Int) == 62) = true := by rw [hgt]; rfl
        simp only [if_pos hgt] at HF2
        have HF3 := hide HF2
        clear HF2 HF1
        go_wp2_with fail
        go_ret
        exact ⟨.inl ⟨acc, k1, _, HF3.out, rfl, ho3, by omega, hlt, hgt, hT3⟩, hkp3⟩
      · have hbq : (((byteAt s k1).toNat : Int) == 62) = false := by
          rw [← beq_at (d := 62) (k := 62) rfl]; simpa using hgt
        simp only [if_neg hgt] at HF2
        rw [← drop_byteAt s k1 hlt] at HF2
        have HF3 := hide HF2
        clear HF2 HF1
        go_wp2_with fail
        refine (attr_any r b rawv outv s k1 _ hs hR3 hT3 hlt).mono ?_
        rintro e w4 ⟨⟨n, v, m, ha, rfl, hT4⟩ | ⟨ha, rfl, j, hT4⟩, hk4⟩
        · have HF4 := HF3.out
          rw [ha] at HF4
          have hm1 := attrL_pos ha
          have hm2 := (attrL_len ha).1
          have hm3 : n.length ≤ _ := (attrL_len ha).2
          rw [List.length_drop] at hm2 hm3
          have HF5 := hide HF4
          clear HF4 HF3 ha
          have hR4 := hR3.keeps hk4 (by simpa using hne)
          have hset4 := hset3.keeps hk4 (by simp; omega)
          have ho4 := hk4.owns ho3 (fun g hg => by have := (ho3.lt g hg).1; simp; omega)
          have hkp4 : Keeps [b] w w4 := hkp3.trans hk4
          have hws4 := Nat.le_trans hws3 hk4.size
          clear ho3 hT3 hR3 hset3 hkp3 hk4 hws3
          have hb4 := hT4.lt
          have hlook := fun o => (hset4.keeps ((Keeps.refl [] w4).alloc o) List.not_mem_nil).look n (by unfold maxLen; omega)
          generalize hmm : acc.map (·.1) = met at *
          have hk5 : Keeps [] w4 ((w4.alloc (.cells #[.string ⟨n.toArray⟩, .string ⟨v.toArray⟩] 52)).alloc (.cells #[] 182)) := ((Keeps.refl [] w4).alloc _).alloc _
          have hA5 : IsPair ((w4.alloc (.cells #[.string ⟨n.toArray⟩, .string ⟨v.toArray⟩] 52)).alloc (.cells #[] 182)) w4.heap.size ⟨n.toArray⟩ ⟨v.toArray⟩ :=
            (show IsPair (w4.alloc (.cells #[.string ⟨n.toArray⟩, .string ⟨v.toArray⟩] 52)) w4.heap.size ⟨n.toArray⟩ ⟨v.toArray⟩ from heap_alloc_new w4 _).keeps ((Keeps.refl [] _).alloc _) List.not_mem_nil
          by_cases htw : n ∈ met
          · have hd : decide (n ∈ met) = true := by simpa using htw
            rw [hd] at hlook
            have HF6 := HF5.out
            simp only [htw, true_or, if_true] at HF6
            have HF7 := hide HF6.symm
            clear HF6 HF5
            go_wp2_with fail
            go_roundg f
            case measure => omega
            case rel => exact ⟨k1 + m, acc, by omega, by omega, hk5.owns ho4 (fun g hg => List.not_mem_nil), hT4.keeps hk5 List.not_mem_nil, hR4.keeps hk5 List.not_mem_nil, hmm ▸ hset4.keeps hk5 List.not_mem_nil, hkp4.trans (hk5.to (by simp)), by omega, Nat.le_trans hws4 hk5.size, HF7⟩
          · have hd : decide (n ∈ met) = false := by simpa using htw
            rw [hd] at hlook
            have hnm := hide (fun w => isName_any ⟨n.toArray⟩ w (by rw [str_size]; omega))
            rw [str_list] at hnm
            have a0 := hA5.cell0
            cases hin : isNameL n
            · rw [hin] at hnm
              have HF6 := HF5.out
              simp only [hin, or_true, if_true] at HF6
              have HF7 := hide HF6.symm
              clear HF6 HF5
              go_wp2_with fail
              refine (hnm.out _).mono ?_
              rintro e w6 ⟨rfl, rfl⟩
              go_wp2_with fail
              go_roundg f
              case measure => omega
              case rel => exact ⟨k1 + m, acc, by omega, by omega, hk5.owns ho4 (fun g hg => List.not_mem_nil), hT4.keeps hk5 List.not_mem_nil, hR4.keeps hk5 List.not_mem_nil, hmm ▸ hset4.keeps hk5 List.not_mem_nil, hkp4.trans (hk5.to (by simp)), by omega, Nat.le_trans hws4 hk5.size, HF7⟩
            · rw [hin] at hnm
              have hcond : ¬ ((n, v).1 ∈ met ∨ isNameL (n, v).1 = false) := by simp [hin, htw]
              have HF6 : R = attrsAt s.data.toList f (k1 + m) (acc ++ [(n, v)]) := HF5.out.trans (by show attrsAt _ _ _ (if _ then _ else _) = _; rw [if_neg hcond])
              have HF7 := hide HF6.symm
              clear HF6 HF5
              have hml : met.length < maxLen := by rw [← hmm, List.length_map]; unfold maxLen; omega
              obtain ⟨w6, hup, hset6, hk6⟩ := (hset4.keeps hk5 List.not_mem_nil).add n (by unfold maxLen; omega) hml
              have hz4 := hset4.lt
              have hA6 := hA5.keeps hk6 (by simp; omega)
              have hR6 := (hR4.keeps hk5 List.not_mem_nil).keeps hk6 (by have := hR.lt; simp; omega)
              have hT6 := (hT4.keeps hk5 List.not_mem_nil).keeps hk6 (by simp; omega)
              have ho6 := hk6.owns (hk5.owns ho4 (fun g hg => List.not_mem_nil)) (fun g hg => by have := (ho4.lt g hg).1; simp; omega)
              have hkp6 : Keeps [b] w w6 := (((hkp4.to (T := [b, w.heap.size]) (by simp)).trans (hk5.to (by simp))).trans (hk6.to (by simp))).mono fun i hi hlt => by simp at hi ⊢; omega
              have hws6 : w.heap.size + 1 ≤ w6.heap.size := Nat.le_trans (Nat.le_trans hws4 hk5.size) hk6.size
              have b0 := hA6.cell0
              have b1 := hA6.cell1
              have q := heap_alloc_new w6 (.cells #[.string ⟨n.toArray⟩, .string ⟨v.toArray⟩] 52)
              go_wp2_with fail
              refine (hnm.out _).mono ?_
              rintro e w6 ⟨rfl, rfl⟩
              go_wp2_with (at_builtin; refine wpList_append_own _ rfl _ _ 43 rfl (w.heap.size + 1) 52 i0 _ 2 32 Tryz.underlying43 hi hz0 hz1 hz2 (cells2 _ _) (by decide) _ _ _ rfl (ho6.alloc _) ⟨w6.heap.size, 0, none⟩ 1 1 [.string ⟨n.toArray⟩, .string ⟨v.toArray⟩] rfl rfl ?c1 ?c2 ?c3 ?c4 ?c5 ?_)
              case c1 =>
                intro j u hj
                rw [add_zero]
                have qq : IsPair (w6.alloc (.cells #[.string ⟨n.toArray⟩, .string ⟨v.toArray⟩] 52)) w6.heap.size ⟨n.toArray⟩ ⟨v.toArray⟩ := q
                match j, hj with
                | 0, hj => simp at hj; subst hj; exact qq.cell0
                | 1, hj => simp at hj; subst hj; exact qq.cell1
              case c2 => intro u hu; simp at hu; rcases hu with rfl | rfl <;> rfl
              case c3 => unfold maxLen; omega
              case c4 => omega
              case c5 => simp; omega
              intro v7 w7 ho7 hg7 _
              have hk7 : Keeps u3.ownBlock.toList w6 w7 := ((Keeps.refl _ w6).alloc _).grown hg7 fun i e => .inl (by simp [e])
              have hro : ∀ g, g ∈ u3.ownBlock.toList → w.heap.size + 1 ≤ g := fun g hg => (ho6.lt g (by simpa using hg)).1
              have hT7 := hT6.keeps hk7 (fun h => by have := hro _ h; omega)
              have hR7 := hR6.keeps hk7 (fun h => by have := hro _ h; have := hR.lt; omega)
              have hset7 := hset6.keeps hk7 (fun h => by have := hro _ h; omega)
              have hkp7 : Keeps [b] w w7 := ((hkp6.to (T := b :: u3.ownBlock.toList) (by simp)).trans (hk7.to (fun i hi => by simp at hi ⊢; exact .inr hi))).mono fun i hi hlt => by
                rcases List.mem_cons.1 hi with rfl | hi
                · simp
                · have := hro _ hi; omega
              have ho7' : w7.ownsRow (w.heap.size + 1) 52 2 v7 (acc ++ [(n, v)]).length (pairCells (acc ++ [(n, v)])) := by
                rw [pairCells_add, List.length_append]; exact ho7
              have hset7' : IsSet w7 w.heap.size ((acc ++ [(n, v)]).map (·.1)) := by
                rw [List.map_append, hmm]; exact hset7
              go_wp2_with fail
              go_roundg f
              case measure => omega
              case rel => exact ⟨k1 + m, acc ++ [(n, v)], by omega, by omega, ho7', hT7, hR7, hset7', hkp7, by rw [List.length_append]; simp; omega, Nat.le_trans hws6 hk7.size, HF7⟩
        · have hRn : R = none := by have := HF3.out; rwa [ha] at this
          have HRn := hide hRn
          clear hRn
          go_wp2_with fail
          exact ⟨rfl, .inr ⟨HRn.out, rfl, _, hT4⟩, hkp3.trans hk4⟩
end Go.Proofs.YtlcljanibjdejaaGreat

namespace Go.Proofs.YtlcljanibjdejaaGreat
open Go.RowKit Go.Maps

structure Tok where
  kind : Int
  name : List UInt8
  attrs : List Pair
  text : List UInt8
deriving DecidableEq

def tokCells (p : Tok × Value) : List Value := [.int .i64 p.1.kind, .string ⟨p.1.name.toArray⟩, p.2, .string ⟨p.1.text.toArray⟩]
def outCells (l : List (Tok × Value)) : List Value := l.flatMap tokCells
theorem outCells_add (l : List (Tok × Value)) (p : Tok × Value) : outCells (l ++ [p]) = outCells l ++ tokCells p := by simp [outCells]

/-- Attributes of a token lie in the row that its slice names. -/
def HasAttrs (w : World) (B : Nat) (p : Tok × Value) : Prop := w.ownsRow B 52 2 p.2 p.1.attrs.length (pairCells p.1.attrs)

structure Rd (w : World) (B r b : Nat) (rawv outv : Value) (raw : List UInt8) (l : List (Tok × Value)) : Prop where
  reader : IsReader w r b rawv outv
  raw : w.ownsRow B 5 1 rawv raw.length (Lib.byteCells raw)
  out : w.ownsRow B 117 4 outv l.length (outCells l)
  attrs : ∀ p ∈ l, HasAttrs w B p
  max : HasMax w
  pos : 0 < B
  hr : B ≤ r
  hb : B ≤ b

theorem block_ne {w : World} {B : Nat} {e : TypeId} {z : Nat} {v : Value} {n : Nat} {xs : List Value} (h : w.ownsRow B e z v n xs) {b : Nat} {cs : Array Value} {t : TypeId} (hT : w.heap[b]? = some (.cells cs t (0, 0))) (he : e ≠ t) : v.ownBlock ≠ some b := by
  intro hv
  rcases h.2 with ⟨rfl, _⟩ | ⟨g, cap, cur, rfl, _, hg, _⟩
  · simp [Value.ownBlock] at hv
  · simp only [Value.ownBlock, Option.some.injEq] at hv
    rw [hv, hT] at hg
    simp at hg
    exact he hg.2.symm

theorem rows_apart {w : World} {B : Nat} {e : TypeId} {z : Nat} {v : Value} {n : Nat} {xs : List Value} (h : w.ownsRow B e z v n xs) {B' : Nat} {e' : TypeId} {z' : Nat} {v' : Value} {n' : Nat} {xs' : List Value} (h' : w.ownsRow B' e' z' v' n' xs') (he : e ≠ e') {g : Nat} (hg : v.ownBlock = some g) (hg' : v'.ownBlock = some g) : False := by
  rcases h'.2 with ⟨rfl, _⟩ | ⟨g', cap, cur, rfl, _, hb, _⟩
  · simp [Value.ownBlock] at hg'
  · simp only [Value.ownBlock, Option.some.injEq] at hg'
    subst hg'
    exact block_ne h hb he hg

/-- What is not touched stays. -/
theorem Rd.keeps {w w' : World} {B r b : Nat} {rawv outv : Value} {raw : List UInt8} {l : List (Tok × Value)} {S : List Nat} (h : Rd w B r b rawv outv raw l) (hk : Keeps S w w') (hr : r ∉ S) (hraw : ∀ g, rawv.ownBlock = some g → g ∉ S) (hout : ∀ g, outv.ownBlock = some g → g ∉ S)
    (hat : ∀ p ∈ l, ∀ g, p.2.ownBlock = some g → g ∉ S) (h0 : 0 ∉ S) : Rd w' B r b rawv outv raw l :=
  ⟨h.reader.keeps hk hr, hk.owns h.raw hraw, hk.owns h.out hout, fun p hp => hk.owns (h.attrs p hp) (hat p hp), h.max.keeps hk h0, h.pos, h.hr, h.hb⟩

theorem Rd.keepsNil {w w' : World} {B r b : Nat} {rawv outv : Value} {raw : List UInt8} {l : List (Tok × Value)} (h : Rd w B r b rawv outv raw l) (hk : Keeps [] w w') : Rd w' B r b rawv outv raw l :=
  h.keeps hk List.not_mem_nil (fun _ _ => List.not_mem_nil) (fun _ _ => List.not_mem_nil) (fun _ _ _ _ => List.not_mem_nil) List.not_mem_nil

theorem Rd.keepsText {w w' : World} {B r b : Nat} {rawv outv : Value} {raw : List UInt8} {l : List (Tok × Value)} (h : Rd w B r b rawv outv raw l) {s : ByteArray} {k : Nat} (hT : IsText w b s k) (hk : Keeps [b] w w') : Rd w' B r b rawv outv raw l := by
  refine h.keeps hk (by simpa using h.reader.ne hT) (fun g hg => ?_) (fun g hg => ?_) (fun p hp g hg => ?_) ?_
  · intro hm; simp at hm; subst hm; exact block_ne h.raw hT (by decide) hg
  · intro hm; simp at hm; subst hm; exact block_ne h.out hT (by decide) hg
  · intro hm; simp at hm; subst hm; exact block_ne (h.attrs p hp) hT (by decide) hg
  · have := h.pos; have := h.hb; simp; omega

theorem Rd.ne {w : World} {B r b : Nat} {rawv outv : Value} {raw : List UInt8} {l : List (Tok × Value)} (h : Rd w B r b rawv outv raw l) {s : ByteArray} {k : Nat} (hT : IsText w b s k) : r ≠ b := h.reader.ne hT
theorem Rd.b0 {w : World} {B r b : Nat} {rawv outv : Value} {raw : List UInt8} {l : List (Tok × Value)} (h : Rd w B r b rawv outv raw l) : 0 ∉ [b] := by
  have := h.pos; have := h.hb; simp; omega

/-! ### tagName -/
theorem enters291 : Enters 291 := enters_of Tryz.func291 (by kernel_rfl) (by kernel_rfl)

theorem endOf_le {p l : List UInt8} {m : Nat} (h : endOf p l = some m) : m ≤ l.length + p.length := by
  unfold endOf at h
  split at h
  · simp at h
  · simp only [Option.some.injEq] at h
    have := index_le l p
    omega

/-- A mark at the head is met at once. -/
theorem endOf_here {p l : List UInt8} (h : Lib.hasPrefix l p = true) : endOf p l = some p.length := by
  have e : Lib.index l p = 0 := by
    unfold Lib.index
    cases l with
    | nil => simp_all [Lib.hasPrefix]
    | cons c l =>
      have h' : p <+: c :: l := by unfold Lib.hasPrefix at h; simpa using h
      simp [h']
  unfold endOf
  rw [e]
  simp

set_option maxHeartbeats 1000000 in
/-- tagName where the mark stands. -/
theorem tagName_any (r b : Nat) (rawv outv : Value) (s p : ByteArray) (k : Nat) (w : World) (hs : s.size ≤ 3000) (hp : p.size ≤ 3000) (hR : IsReader w r b rawv outv) (hT : IsText w b s k) (hM : HasMax w) (hk : k + p.size ≤ s.size) (hst : stAt s k p.data.toList = true)
    (N : List UInt8) (hN : (s.data.toList.drop (k + p.size)).takeWhile tagN = N) :
    Calls Tryz.prog 229 #[.pointer (some ⟨r, 0, none⟩), .string p] w fun e w' =>
      e = .returned (.string ⟨(lowerL N).toArray⟩) ∧ IsText w' b s (k + p.size + N.length) ∧ Keeps [b] w w' := by
  have hne := hR.ne hT
  have c0 := hR.cell0
  have hend : endOf p.data.toList (s.data.toList.drop k) = some p.data.toList.length := endOf_here hst
  have hpt := hide (passTo_any b s k p w hs hp hT (by omega) hM)
  rw [hend] at hpt
  have hps := hide (fun w hT => pass_of 291 tagN enters291 tagN_any b s (k + p.size) w hs hT hk)
  have hLl := takeWhile_le tagN s (k + p.size) hk
  rw [hN] at hps hLl
  have hlow := hide (fun w => lower_any ⟨N.toArray⟩ w (by rw [str_size]; omega))
  rw [str_list] at hlow
  generalize lowerL N = NN at *
  clear hN hend hst
  go_enter Tryz.func229, Tryz.ntmps229
  go_wp2_with fail
  refine hpt.out.mono ?_
  rintro e w1 ⟨⟨m, hm, rfl, hT1⟩ | ⟨hm, _⟩, hk1⟩
  · simp only [Option.some.injEq] at hm
    have hT1' : IsText w1 b s (k + p.size) := hT1.at (by rw [← hm]; rfl)
    clear hT1 hm hpt
    have hR1 := hR.keeps hk1 (by simpa using hne)
    have c1 := hR1.cell0
    go_wp2_with fail
    refine (hps.out _ hT1').mono ?_
    rintro e w2 ⟨rfl, hT2, hk2⟩
    go_wp2_with fail
    refine (hlow.out _).mono ?_
    rintro e w3 ⟨rfl, hk3⟩
    go_wp2_with fail
    go_ret
    exact ⟨rfl, hT2.keeps hk3 List.not_mem_nil, (hk1.trans hk2).trans (hk3.to (by simp))⟩
  · simp at hm

set_option maxHeartbeats 1000000 in
theorem tagBegins_any (r b : Nat) (rawv outv : Value) (s p : ByteArray) (k : Nat) (w : World) (hs : s.size ≤ 3000) (hp : p.size ≤ 3000) (hR : IsReader w r b rawv outv) (hT : IsText w b s k) (hk : k ≤ s.size) :
    Calls Tryz.prog 152 #[.pointer (some ⟨r, 0, none⟩), .string p] w fun e w' =>
      e = .returned (.bool (stAt s k p.data.toList && (decide (k + p.size < s.size) && letterB (byteAt s (k + p.size))))) ∧ IsText w' b s k ∧ Keeps [] w w' := by
  have c0 := hR.cell0
  have hbg := hide (begins_any b s k p w hT hk)
  have hah := hide (fun w hT => ahead_any b s k p.size w hs hT hk hp)
  generalize (decide (k + p.size < s.size) && letterB (byteAt s (k + p.size))) = q at *
  cases hst : stAt s k p.data.toList
  · rw [hst] at hbg
    rw [Bool.false_and]
    go_enter Tryz.func152, Tryz.ntmps152
    go_wp2_with fail
    refine hbg.out.mono ?_
    rintro e w1 ⟨rfl, n, rfl⟩
    go_wp2_with fail
    go_ret
    exact ⟨rfl, hT, (Keeps.refl _ _).drewN _⟩
  · rw [hst] at hbg
    rw [Bool.true_and]
    go_enter Tryz.func152, Tryz.ntmps152
    go_wp2_with fail
    refine hbg.out.mono ?_
    rintro e w1 ⟨rfl, n, rfl⟩
    have c1 : (w.drewN n).cell? ⟨r, 0, none⟩ = some (.pointer (some ⟨b, 0, none⟩)) := c0
    go_wp2_with fail
    refine (hah.out (w.drewN n) hT).mono ?_
    rintro e w2 ⟨rfl, n2, rfl⟩
    go_wp2_with fail
    go_ret
    exact ⟨rfl, hT, (Keeps.refl _ _).drewN _⟩
end Go.Proofs.YtlcljanibjdejaaGreat

namespace Go.Proofs.YtlcljanibjdejaaGreat
open Go.RowKit Go.Maps

theorem enters160 : Enters 160 := enters_of Tryz.func160 (by kernel_rfl) (by kernel_rfl)
theorem info43 : (Tryz.prog.info? 117).map (fun i => (i.zero, i.size, i.bytes)) = some (some (.agg #[.int .i64 0, .string ⟨#[]⟩, .slice none 0 0, .string ⟨#[]⟩]), 4, 64) := by kernel_rfl

/-- A text token. -/
def textTok (t : List UInt8) : Tok := ⟨1, [], [], t⟩

/-- What may be touched when tokens are put. -/
def touch (r : Nat) (rawv outv : Value) : List Nat := r :: (rawv.ownBlock.toList ++ outv.ownBlock.toList)

theorem lit_cells (w : World) (cs : Array Value) (t : TypeId) (j : Nat) (u : Value) (h : cs.toList[j]? = some u) : (w.alloc (.cells cs t)).cell? ((⟨w.heap.size, 0, none⟩ : Addr).add j) = some u := by
  rw [add_zero]
  have hh := heap_alloc_new w (.cells cs t)
  have h' : cs[j]? = some u := by simpa using h
  simp only [World.cell?]
  rw [hh]
  exact h'

theorem IsReader.blk {w : World} {r b : Nat} {rawv outv : Value} (h : IsReader w r b rawv outv) : w.heap[r]? = some (.cells #[.pointer (some ⟨b, 0, none⟩), rawv, outv] 109 (0, 0)) := h
theorem row_form {w : World} {B : Nat} {e : TypeId} {z : Nat} {v : Value} {n : Nat} {xs : List Value} (h : w.ownsRow B e z v n xs) : ∃ o c, v = .slice o n c := by
  rcases h.2 with ⟨rfl, h0⟩ | ⟨g, cap, cur, rfl, _⟩
  · exact ⟨none, 0, by rw [h0]⟩
  · exact ⟨_, _, rfl⟩

theorem IsReader.set2 {w : World} {r b : Nat} {rawv outv : Value} (h : IsReader w r b rawv outv) (v : Value) : IsReader (w.setCell ⟨r, 2, none⟩ v) r b rawv v := by
  simp [World.setCell, IsReader, Array.getElem?_modify] at h ⊢; simp [h]
theorem IsReader.set1 {w : World} {r b : Nat} {rawv outv : Value} (h : IsReader w r b rawv outv) (v : Value) : IsReader (w.setCell ⟨r, 1, none⟩ v) r b v outv := by
  simp [World.setCell, IsReader, Array.getElem?_modify] at h ⊢; simp [h]

theorem set_row {w : World} {B : Nat} {e : TypeId} {z : Nat} {v : Value} {n : Nat} {xs : List Value} (h : w.ownsRow B e z v n xs) {a : Addr} (ha : v.ownBlock ≠ some a.block) (u : Value) : (w.setCell a u).ownsRow B e z v n xs :=
  ((Keeps.refl [a.block] w).setCell (.inl (by simp)) u).owns h (fun g hg => by
    intro hm
    simp at hm
    subst hm
    exact ha hg)

theorem Rd.outReader {w w3 : World} {B r b : Nat} {rawv outv : Value} {raw : List UInt8} {l : List (Tok × Value)} (h : Rd w B r b rawv outv raw l) (hk : Keeps outv.ownBlock.toList w w3) : IsReader w3 r b rawv outv :=
  h.reader.keeps hk (fun hm => block_ne h.out h.reader.blk (by decide) (by simpa using hm))

/-- A token is put behind the others. -/
theorem Rd.grow {w w3 : World} {B r b : Nat} {rawv outv : Value} {raw : List UInt8} {l : List (Tok × Value)} (h : Rd w B r b rawv outv raw l) (hk : Keeps outv.ownBlock.toList w w3) {v3 : Value} {p : Tok × Value} (ho : w3.ownsRow B 117 4 v3 (l.length + 1) (outCells l ++ tokCells p)) (hp : HasAttrs w3 B p) :
    Rd (w3.setCell ⟨r, 2, none⟩ v3) B r b rawv v3 raw (l ++ [p]) ∧ Keeps (touch r rawv outv) w (w3.setCell ⟨r, 2, none⟩ v3) := by
  have hR3 := h.outReader hk
  have hraw3 := hk.owns h.raw (fun g hg hm => rows_apart h.raw h.out (by decide) hg (by simpa using hm))
  have hat3 : ∀ q ∈ l, HasAttrs w3 B q := fun q hq => hk.owns (h.attrs q hq) (fun g hg hm => rows_apart (h.attrs q hq) h.out (by decide) hg (by simpa using hm))
  have hpos := h.pos
  have hk' : Keeps (touch r rawv outv) w (w3.setCell ⟨r, 2, none⟩ v3) := (hk.to (fun i hi => by simp [touch] at hi ⊢; exact .inr (.inr hi))).setCell (.inl (by simp [touch])) _
  refine ⟨⟨hR3.set2 v3, set_row hraw3 (block_ne hraw3 hR3.blk (by decide)) _, ?_, ?_, ?_, h.pos, h.hr, h.hb⟩, hk'⟩
  · rw [outCells_add, List.length_append]
    exact set_row ho (block_ne ho hR3.blk (by decide)) _
  · intro q hq
    rcases List.mem_append.1 hq with hq | hq
    · exact set_row (hat3 q hq) (block_ne (hat3 q hq) hR3.blk (by decide)) _
    · simp at hq
      subst hq
      exact set_row hp (block_ne hp hR3.blk (by decide)) _
  · refine h.max.keeps hk' ?_
    intro hm
    have := h.hr
    simp [touch] at hm
    rcases hm with hm | hm | hm
    · omega
    · have := (h.raw.lt _ hm).1; omega
    · have := (h.out.lt _ hm).1; omega

/-- An append of a slice's cells onto a row that the call owns; where the row lies then. -/
theorem step_own_at {P : Program} {ops : Array Oper} {o : Oper} {a : Act} {w : World} {K : Act → World → Prop} {Q : Exit → Act → World → Prop} {E : Prop} (hg : o.guard = none) (s x : Operand) (t : TypeId)
    (ho : o.op = .call { callee := .builtin .append, args := #[s, x], argTypes := #[t, t] })
    (base : Nat) (e : TypeId) (i : TypeInfo) (z : Value) (size bytes : Nat) (ht : P.underlying t = some (.slice e)) (hi : P.info? e = some i) (hz : i.zero = some z)
    (hsize : i.size = size) (hby : i.bytes = bytes) (hzs : z.cells.size = size) (hsz : 0 < size)
    (v : Value) (n : Nat) (xs : List Value) (hs : a.eval s = v) (hown : w.ownsRow base e size v n xs)
    (ad : Addr) (m c : Nat) (news : List Value) (hx : a.eval x = .slice (some ad) m c) (hl : news.length = m * size) (hnews : ∀ j u, news[j]? = some u → w.cell? (ad.add j) = some u) (h1 : ∀ u ∈ news, u.oneCell' = true)
    (h63 : n + m ≤ maxLen) (hbytes : (n + m) * bytes ≤ 140737488355328) (hbase : base ≤ w.heap.size)
    (h : ∀ v' w', w'.ownsRow base e size v' (n + m) (xs ++ news) → w.grownBy w' v.ownBlock → (v'.ownBlock = v.ownBlock ∨ v'.ownBlock = some w.heap.size) → K (a.put o.dst v') w') :
    if Region.wanted o (yielded ops a.tmps) = true then Oper.wp P o a w K Q else E := by
  refine step_is hg ?_
  obtain ⟨v', w', hr, h2, h3, _, h5⟩ := run_append_own_at (P := P) w base t o.type e i z size bytes ht hi hz hsize hby hzs hsz v n xs hown ad m c news hl hnews h1 h63 hbytes hbase
  unfold Oper.wp execOp
  simp only [ho, resolve, invoke, builtin, Sem.run_bind, Sem.run_pure, Result.andThen_ok, List.map_toArray, List.map_cons, List.map_nil, hs, hx, hr]
  exact h v' w' h2 h3 h5

/-- What is touched anew is what was touched, or is new. -/
def Within (w : World) (S T : List Nat) : Prop := ∀ i, i ∈ S → i < w.heap.size → i ∈ T
theorem Within.refl (w : World) (S : List Nat) : Within w S S := fun _ h _ => h
theorem Keeps.within {S T : List Nat} {a w w' : World} (h : Keeps T a w) (k : Keeps S w w') (hS : Within a S T) : Keeps T a w' :=
  ((h.to (T := S ++ T) (by simp; exact fun _ h => .inr h)).trans (k.to (by simp; exact fun _ h => .inl h))).mono fun i hi hlt => by
    rcases List.mem_append.1 hi with hi | hi
    · exact hS i hi hlt
    · exact hi

theorem within_out {w : World} {r : Nat} {rawv outv outv' : Value} {n : Nat} (h : outv'.ownBlock = outv.ownBlock ∨ outv'.ownBlock = some n) (hn : w.heap.size ≤ n) : Within w (touch r rawv outv') (touch r rawv outv) := by
  intro i hi hlt
  simp [touch] at hi ⊢
  rcases hi with hi | hi | hi
  · exact .inl hi
  · exact .inr (.inl hi)
  · rcases h with h | h
    · rw [h] at hi; exact .inr (.inr hi)
    · rw [h] at hi; simp at hi; omega
theorem within_raw {w : World} {r : Nat} {rawv rawv' outv : Value} {n : Nat} (h : rawv'.ownBlock = rawv.ownBlock ∨ rawv'.ownBlock = some n) (hn : w.heap.size ≤ n) : Within w (touch r rawv' outv) (touch r rawv outv) := by
  intro i hi hlt
  simp [touch] at hi ⊢
  rcases hi with hi | hi | hi
  · exact .inl hi
  · rcases h with h | h
    · rw [h] at hi; exact .inr (.inl hi)
    · rw [h] at hi; simp at hi; omega
  · exact .inr (.inr hi)

theorem Rd.touch0 {w : World} {B r b : Nat} {rawv outv : Value} {raw : List UInt8} {l : List (Tok × Value)} (h : Rd w B r b rawv outv raw l) : 0 ∉ touch r rawv outv := by
  intro hm
  have := h.hr
  have := h.pos
  simp [touch] at hm
  rcases hm with hm | hm | hm
  · omega
  · have := (h.raw.lt _ hm).1; omega
  · have := (h.out.lt _ hm).1; omega

theorem Rd.touch_lt {w : World} {B r b : Nat} {rawv outv : Value} {raw : List UInt8} {l : List (Tok × Value)} (h : Rd w B r b rawv outv raw l) : ∀ i, i ∈ touch r rawv outv → i < w.heap.size := by
  intro i hm
  simp [touch] at hm
  rcases hm with hm | hm | hm
  · rw [hm]; exact h.reader.lt
  · exact (h.raw.lt _ hm).2
  · exact (h.out.lt _ hm).2

/-- The text that isn't taken yet is another. -/
theorem Rd.setRaw {w w3 : World} {B r b : Nat} {rawv outv : Value} {raw : List UInt8} {l : List (Tok × Value)} (h : Rd w B r b rawv outv raw l) (hk : Keeps rawv.ownBlock.toList w w3) {v3 : Value} {raw3 : List UInt8} (ho : w3.ownsRow B 5 1 v3 raw3.length (Lib.byteCells raw3)) :
    Rd (w3.setCell ⟨r, 1, none⟩ v3) B r b v3 outv raw3 l ∧ Keeps (touch r rawv outv) w (w3.setCell ⟨r, 1, none⟩ v3) := by
  have hR3 : IsReader w3 r b rawv outv := h.reader.keeps hk (fun hm => block_ne h.raw h.reader.blk (by decide) (by simpa using hm))
  have hout3 := hk.owns h.out (fun g hg hm => rows_apart h.out h.raw (by decide) hg (by simpa using hm))
  have hat3 : ∀ q ∈ l, HasAttrs w3 B q := fun q hq => hk.owns (h.attrs q hq) (fun g hg hm => rows_apart (h.attrs q hq) h.raw (by decide) hg (by simpa using hm))
  have hk' : Keeps (touch r rawv outv) w (w3.setCell ⟨r, 1, none⟩ v3) := (hk.to (fun i hi => by simp [touch] at hi ⊢; exact .inr (.inl hi))).setCell (.inl (by simp [touch])) _
  exact ⟨⟨hR3.set1 v3, set_row ho (block_ne ho hR3.blk (by decide)) _, set_row hout3 (block_ne hout3 hR3.blk (by decide)) _, fun q hq => set_row (hat3 q hq) (block_ne (hat3 q hq) hR3.blk (by decide)) _, h.max.keeps hk' h.touch0, h.pos, h.hr, h.hb⟩, hk'⟩

theorem row_zero {w : World} {B : Nat} {e : TypeId} {z g cap n : Nat} {xs : List Value} (h : w.ownsRow B e z (.slice (some ⟨g, 0, none⟩) n cap) n xs) : w.ownsRow B e z (.slice (some ⟨g, 0, none⟩) 0 cap) 0 [] := by
  rcases h.2 with ⟨h1, _⟩ | ⟨g', cap', cur, he, h2, h3, h4, h5, h6, h7⟩
  · simp at h1
  · simp at he
    obtain ⟨rfl, rfl⟩ := he
    exact ⟨by simp, .inr ⟨g, cap, cur, rfl, h2, h3, Nat.zero_le _, h5, h6, by simp⟩⟩

set_option maxRecDepth 4000 in
set_option maxHeartbeats 4000000 in
theorem endText_some (B r b : Nat) (rawv outv : Value) (raw : List UInt8) (l : List (Tok × Value)) (w : World) (h : Rd w B r b rawv outv raw l) (hB : B ≤ w.heap.size) (hne : raw ≠ []) (hraw : raw.length ≤ 3000) (hl : l.length ≤ 100000) :
    Calls Tryz.prog 81 #[.pointer (some ⟨r, 0, none⟩)] w fun e w' =>
      e = .returned (.tuple #[]) ∧ ∃ rawv' outv', Rd w' B r b rawv' outv' [] (l ++ [(textTok (takeL raw).1, .slice none 0 0)]) ∧ Keeps (touch r rawv outv) w w' ∧ Within w (touch r rawv' outv') (touch r rawv outv) := by
  have hlen : ((raw.length : Int) == 0) = false := by
    have : raw.length ≠ 0 := fun e => hne (List.eq_nil_of_length_eq_zero e)
    simp; omega
  have c1 := h.reader.cell1
  have c2 := h.reader.cell2
  obtain ⟨g, cap, cur, hrv, hgb, hgc, hcap1, hcap2, hcur1, hcur2⟩ : ∃ g cap cur, rawv = .slice (some ⟨g, 0, none⟩) raw.length cap ∧ B ≤ g ∧ w.heap[g]? = some (.cells cur 5 (0, 0)) ∧ raw.length ≤ cap ∧ cap ≤ maxLen ∧ cur.size = cap * 1 ∧ cur.toList.take (raw.length * 1) = Lib.byteCells raw := by
    rcases h.raw.2 with ⟨_, h0⟩ | h'
    · exact absurd (List.eq_nil_of_length_eq_zero h0) hne
    · exact h'
  subst hrv
  have hcv : (convert 107 9 (.slice (some ⟨g, 0, none⟩) raw.length cap)).run Tryz.prog w.drew = .ok (.string ⟨raw.toArray⟩) w.drew := own_string (w := w.drew) h.raw.drew 0
  have htak := hide (fun w => tak_any ⟨raw.toArray⟩ w hraw)
  rw [str_list] at htak
  obtain ⟨T, hTT⟩ : ∃ T, (takeL raw).1 = T := ⟨_, rfl⟩
  rw [hTT] at htak ⊢
  clear hTT
  obtain ⟨i0, hi, hz0, hz1, hz2⟩ := info_parts info43
  clear hcur1 hcur2
  go_enter Tryz.func81, Tryz.ntmps81
  go_upto_region 1 with fail
  go_cut [] from 8 to 23 (fun wc => ∃ outv', Rd wc B r b (.slice (some ⟨g, 0, none⟩) raw.length cap) outv' raw (l ++ [(textTok T, .slice none 0 0)]) ∧ Keeps (touch r (.slice (some ⟨g, 0, none⟩) raw.length cap) outv) w wc ∧ Within w (touch r (.slice (some ⟨g, 0, none⟩) raw.length cap) outv') (touch r (.slice (some ⟨g, 0, none⟩) raw.length cap) outv))
  case first =>
    go_region_law (first
      | (refine step_call rfl 160 _ _ rfl enters160 #[.string ⟨raw.toArray⟩] (by simp [Act.eval]) (htak.out _) ?_; rintro e w2 ⟨rfl, hk2⟩; refine ⟨_, rfl, ?_⟩; have hR2 := h.reader.keeps (keeps_drew hk2) List.not_mem_nil; have d2 := hR2.cell2; have d2a : ∀ o, (w2.alloc o).cell? ⟨r, 2, none⟩ = some outv := fun o => (cell_past (a := ⟨r, 2, none⟩) hR2.lt o).trans d2)
      | (refine step_own_at rfl _ _ 26 rfl B 117 i0 _ 4 64 Tryz.underlying26 hi hz0 hz1 hz2 (by kernel_rfl) (by decide) outv l.length (outCells l) rfl (((keeps_drew hk2).owns h.out (fun _ _ => List.not_mem_nil)).alloc _) ⟨w2.heap.size, 0, none⟩ 1 1 (tokCells (textTok T, .slice none 0 0)) rfl rfl (lit_cells w2 _ 117) (by intro u hu; simp [tokCells] at hu; rcases hu with rfl | rfl | rfl | rfl <;> rfl) (by unfold maxLen; omega) (by omega) (Nat.le_trans hB (Nat.le_trans hk2.size (by simp))) ?_; intro v3 w3 ho3 hg3 hw3; obtain ⟨o3, c3, rfl⟩ := row_form ho3; have hk3 : Keeps outv.ownBlock.toList w w3 := ((keeps_drew hk2).up.alloc _).grown hg3 (fun i e => .inl (by simp [e])); have hR3 := h.outReader hk3; have d3 := hR3.cell2; have f3 := hR3.free))
    all_goals go_wp2
    all_goals go_meet
    all_goals exact ⟨_, (h.grow hk3 ho3 (World.ownsRow_nil _ _ _ _)).1, (h.grow hk3 ho3 (World.ownsRow_nil _ _ _ _)).2, within_out hw3 (Nat.le_trans hk2.size (by simp))⟩
  case rest =>
    obtain ⟨outv', h', hk', hw'⟩ := hcut
    have e1 := h'.reader.cell1
    have f1 := h'.reader.free
    clear c1 c2 hcv
    go_wp2_with fail
    go_end0
    exact ⟨rfl, _, _, (h'.setRaw (Keeps.refl _ _) (raw3 := []) (row_zero h'.raw)).1, hk'.setCell (.inl (by simp [touch])) _, fun i hi hlt => hw' i (by simpa [touch, Value.ownBlock] using hi) hlt⟩

/-- The text that isn't taken yet, as a token. -/
def endToks (raw : List UInt8) : List (Tok × Value) := if raw = [] then [] else [(textTok (takeL raw).1, .slice none 0 0)]

set_option maxHeartbeats 1000000 in
theorem endText_any (B r b : Nat) (rawv outv : Value) (raw : List UInt8) (l : List (Tok × Value)) (w : World) (h : Rd w B r b rawv outv raw l) (hB : B ≤ w.heap.size) (hraw : raw.length ≤ 3000) (hl : l.length ≤ 100000) :
    Calls Tryz.prog 81 #[.pointer (some ⟨r, 0, none⟩)] w fun e w' =>
      e = .returned (.tuple #[]) ∧ ∃ rawv' outv', Rd w' B r b rawv' outv' [] (l ++ endToks raw) ∧ Keeps (touch r rawv outv) w w' ∧ Within w (touch r rawv' outv') (touch r rawv outv) := by
  by_cases hne : raw = []
  · subst hne
    have c1 := h.reader.cell1
    obtain ⟨o, c, ho⟩ := row_form h.raw
    subst ho
    have e0 : endToks [] = [] := rfl
    rw [e0, List.append_nil]
    go_enter Tryz.func81, Tryz.ntmps81
    go_wp2_with fail
    refine bodyPost_ret (v := .tuple #[]) (by simp [results, Tryz.results81]) rfl ?_
    exact ⟨rfl, _, _, h, Keeps.refl _ _, Within.refl _ _⟩
  · have e0 : endToks raw = [(textTok (takeL raw).1, .slice none 0 0)] := if_neg hne
    rw [e0]
    exact endText_some B r b rawv outv raw l w h hB hne hraw hl
end Go.Proofs.YtlcljanibjdejaaGreat

namespace Go.Proofs.YtlcljanibjdejaaGreat
open Go.RowKit Go.Maps

/-- Four cells of a token lie in a block. -/
def IsTok (w : World) (g : Nat) (p : Tok × Value) : Prop := w.heap[g]? = some (.cells #[.int .i64 p.1.kind, .string ⟨p.1.name.toArray⟩, p.2, .string ⟨p.1.text.toArray⟩] 117 (0, 0))
theorem IsTok.cell (j : Nat) {w : World} {g : Nat} {p : Tok × Value} (h : IsTok w g p) : w.cell? ⟨g, j, none⟩ = (#[.int .i64 p.1.kind, .string ⟨p.1.name.toArray⟩, p.2, .string ⟨p.1.text.toArray⟩] : Array Value)[j]? := by
  unfold World.cell?
  simp only
  rw [show w.heap[g]? = _ from h]
  simp
theorem IsTok.lt {w : World} {g : Nat} {p : Tok × Value} (h : IsTok w g p) : g < w.heap.size := lt_of_block h
theorem IsTok.keeps {S : List Nat} {w w' : World} {g : Nat} {p : Tok × Value} (h : IsTok w g p) (hk : Keeps S w w') (hg : g ∉ S) : IsTok w' g p := by
  rw [IsTok, hk.block g h.lt hg]; exact h

theorem HasAttrs.touch {w w' : World} {B r b : Nat} {rawv outv : Value} {raw : List UInt8} {l : List (Tok × Value)} (h : Rd w B r b rawv outv raw l) {p : Tok × Value} (hp : HasAttrs w B p) (hk : Keeps (touch r rawv outv) w w') : HasAttrs w' B p := by
  refine hk.owns hp (fun g hg hm => ?_)
  simp [Go.Proofs.YtlcljanibjdejaaGreat.touch] at hm
  rcases hm with rfl | hm | hm
  · exact block_ne hp h.reader.blk (by decide) hg
  · exact rows_apart hp h.raw (by decide) hg hm
  · exact rows_apart hp h.out (by decide) hg hm

theorem one_cells {p : Tok × Value} {o : Option Addr} {n c : Nat} (h : p.2 = .slice o n c) : ∀ u ∈ tokCells p, u.oneCell' = true := by
  intro u hu
  simp [tokCells, h] at hu
  rcases hu with rfl | rfl | rfl | rfl <;> rfl

theorem HasAttrs.form {w : World} {B : Nat} {p : Tok × Value} (hp : HasAttrs w B p) : ∃ o n c, p.2 = .slice o n c := by
  obtain ⟨o, c, h⟩ := row_form hp
  exact ⟨o, _, c, h⟩

set_option maxRecDepth 4000 in
set_option maxHeartbeats 4000000 in
theorem put_tok (B r b : Nat) (rawv outv : Value) (raw : List UInt8) (l : List (Tok × Value)) (w : World) (h : Rd w B r b rawv outv raw l) (hB : B ≤ w.heap.size) (hraw : raw.length ≤ 3000) (hl : l.length ≤ 90000)
    (kd : Int) (nm tx : List UInt8) (at' : List Pair) (o : Option Addr) (n c : Nat) (hp : HasAttrs w B (⟨kd, nm, at', tx⟩, .slice o n c)) :
    Calls Tryz.prog 232 #[.pointer (some ⟨r, 0, none⟩), .agg #[.int .i64 kd, .string ⟨nm.toArray⟩, .slice o n c, .string ⟨tx.toArray⟩]] w fun e w' =>
      e = .returned (.tuple #[]) ∧ ∃ rawv' outv', Rd w' B r b rawv' outv' [] (l ++ endToks raw ++ [(⟨kd, nm, at', tx⟩, .slice o n c)]) ∧ Keeps (touch r rawv outv) w w' := by
  have hel : (l ++ endToks raw).length ≤ 100000 := by
    unfold endToks
    split <;> simp <;> omega
  obtain ⟨i0, hi, hz0, hz1, hz2⟩ := info_parts info43
  have ha : Keeps [] w (w.alloc (.cells #[.int .i64 kd, .string ⟨nm.toArray⟩, .slice o n c, .string ⟨tx.toArray⟩] 117)) := (Keeps.refl [] w).alloc _
  have hbx : IsTok (w.alloc (.cells #[.int .i64 kd, .string ⟨nm.toArray⟩, .slice o n c, .string ⟨tx.toArray⟩] 117)) w.heap.size (⟨kd, nm, at', tx⟩, .slice o n c) := heap_alloc_new w _
  have het := hide (endText_any B r b rawv outv raw l _ (h.keepsNil ha) (Nat.le_trans hB ha.size) hraw (by omega))
  have hpa : HasAttrs (w.alloc (.cells #[.int .i64 kd, .string ⟨nm.toArray⟩, .slice o n c, .string ⟨tx.toArray⟩] 117)) B (⟨kd, nm, at', tx⟩, .slice o n c) := ha.owns hp (fun _ _ => List.not_mem_nil)
  have hpt := hide (fun w' (hk : Keeps (touch r rawv outv) (w.alloc (.cells #[.int .i64 kd, .string ⟨nm.toArray⟩, .slice o n c, .string ⟨tx.toArray⟩] 117)) w') => hpa.touch (h.keepsNil ha) hk)
  have htl := h.touch_lt
  generalize hll : l ++ endToks raw = ll at *
  clear hll hpa
  go_enter Tryz.func232, Tryz.ntmps232
  go_wp2_with fail
  refine het.out.mono ?_
  rintro e w1 ⟨rfl, rawv', outv', h1, hk1, hw1⟩
  have hp1 := hpt.out _ hk1
  have hbx1 := hbx.keeps hk1 (fun hm => by have := htl _ hm; omega)
  have hw1' : Within w (touch r rawv' outv') (touch r rawv outv) := fun i hi hlt => hw1 i hi (by have := ha.size; omega)
  have hka : Keeps (touch r rawv outv) w w1 := (ha.to (by simp)).trans hk1
  have hB1 : B ≤ w1.heap.size := Nat.le_trans (Nat.le_trans hB ha.size) hk1.size
  clear het hpt hk1 hw1 hbx ha
  have c2 := h1.reader.cell2
  have c2a : ∀ o, (w1.alloc o).cell? ⟨r, 2, none⟩ = some outv' := fun o => (cell_past (a := ⟨r, 2, none⟩) h1.reader.lt o).trans c2
  have b0 := hbx1.cell 0
  have b1 := hbx1.cell 1
  have b2 := hbx1.cell 2
  have b3 := hbx1.cell 3
  simp at b0 b1 b2 b3
  go_upto_region 2 with fail
  go_region_law (refine step_own_at rfl _ _ 26 rfl B 117 i0 _ 4 64 Tryz.underlying26 hi hz0 hz1 hz2 (by kernel_rfl) (by decide) outv' ll.length (outCells ll) rfl ((h1.out.alloc _).drew) ⟨w1.heap.size, 0, none⟩ 1 1 (tokCells (⟨kd, nm, at', tx⟩, .slice o n c)) rfl rfl (lit_cells w1 _ 117) (one_cells rfl) (by unfold maxLen; omega) (by omega) (Nat.le_trans hB1 (by simp)) ?_; intro v3 w3 ho3 hg3 hw3; obtain ⟨o3, c3, rfl⟩ := row_form ho3; have hk3 : Keeps outv'.ownBlock.toList w1 w3 := (((Keeps.refl _ w1).alloc _).drew).grown hg3 (fun i e => .inl (by simp [e])); have hR3 := h1.outReader hk3; have d3 := hR3.cell2; have f3 := hR3.free)
  all_goals go_wp2
  all_goals go_end0
  all_goals exact ⟨rfl, _, _, (h1.grow hk3 ho3 (hk3.owns hp1 (fun g hg hm => rows_apart hp1 h1.out (by decide) hg (by simpa using hm)))).1, hka.within (h1.grow hk3 ho3 (hk3.owns hp1 (fun g hg hm => rows_apart hp1 h1.out (by decide) hg (by simpa using hm)))).2 hw1'⟩
end Go.Proofs.YtlcljanibjdejaaGreat
