/- Try: what is read, or that it gave up and the place is what it was. takeSign: what stands at a & is put behind a row of bytes. Take as a function on lists of bytes. taken: what Take and Strict answer of a text. Put, Take and Strict: what each answers, of whatever text, and that nothing that was there is changed. Bytes and names of markup, as functions. -/
import Derived.Test.YtlcljanibjdejaaGreatPk01
import Derived.Laws.IdiomStrings
namespace Go.Proofs.YtlcljanibjdejaaGreat
open Go.RowKit

theorem cell_past {w : World} {a : Addr} (h : a.block < w.heap.size) (o : Obj) : (w.alloc o).cell? a = w.cell? a := World.cell?_of_block (Below.heap_alloc w o _ h)
theorem frozen_past {w : World} {a : Addr} (h : a.block < w.heap.size) (o : Obj) : (w.alloc o).frozen? a = w.frozen? a := World.frozen?_of_block (Below.heap_alloc w o _ h)

theorem two_fst (w : World) (o1 o2 : Obj) : ((w.alloc o1).alloc o2).heap[w.heap.size]? = some o1 := (Below.heap_alloc (w.alloc o1) o2 w.heap.size (by simp)).trans (heap_alloc_new w o1)
theorem two_snd (w : World) (o1 o2 : Obj) : ((w.alloc o1).alloc o2).heap[w.heap.size + 1]? = some o2 := by
  have := heap_alloc_new (w.alloc o1) o2
  rwa [show (w.alloc o1).heap.size = w.heap.size + 1 from by simp] at this
theorem two_size (w : World) (o1 o2 : Obj) : ((w.alloc o1).alloc o2).heap.size = w.heap.size + 2 := by simp

theorem laid57 (x y n : Value) : (#[x, y] ++ ((Array.replicate 18 undef).setIfInBounds 3 n).setIfInBounds 0 n) = #[x, y, n, undef, undef, n, undef, undef, undef, undef, undef, undef, undef, undef, undef, undef, undef, undef, undef, undef] := by kernel_rfl

set_option maxHeartbeats 400000 in
theorem catch_idle (p q : Addr) (w : World) :
    CallsD Tryz.prog 151 #[.pointer (some p), .pointer (some q)] .returning w fun e u' w' => e = .returned (.tuple #[]) ∧ u' = .returning ∧ w' = w := by
  refine callsD_of_wpS Tryz.func151 rfl fun c₀ cs hu => ?_
  apply wpS_seq
  apply wpS_region
  simp [wpOpsS, go_sem, recoverD, hu, Tryz.ntmps151, Exit.thenS]
  rw [laid57]
  refine wpS_of_wp ?_
  go_wp2
  cases c₀
  simp_all [bodyPostS, results, Tryz.results151]

theorem assert57 (w : World) : (Instr.typeAssert (.iface 183 (.agg #[])) 20 183 true).run Tryz.prog w = .ok (.tuple #[.agg #[], .bool true]) w := by kernel_rfl

set_option maxRecDepth 100000 in
set_option maxHeartbeats 400000 in
theorem catch_panicking (b : Nat) (s : ByteArray) (k j pf pt : Nat) (w : World) (hT : IsText w b s j) (hf : w.heap[pf]? = some (.cells #[.int .i64 (k : Int)] 3 (0, 0))) (ht : w.heap[pt]? = some (.cells #[.pointer (some ⟨b, 0, none⟩)] 105 (0, 0))) :
    CallsD Tryz.prog 151 #[.pointer (some ⟨pf, 0, none⟩), .pointer (some ⟨pt, 0, none⟩)] (.panicking gave) w fun e u' w' =>
      e = .returned (.tuple #[]) ∧ u' = .panicking [{ v := .iface 183 (.agg #[]), recovered := true }] ∧ IsText w' b s k ∧ Keeps [b] w w' := by
  refine callsD_of_wpS Tryz.func151 rfl fun c₀ cs hu => ?_
  unfold gave at hu
  have ct : ∀ o, (w.alloc o).cell? ⟨pt, 0, none⟩ = some (.pointer (some ⟨b, 0, none⟩)) := fun o => (cell_past (lt_of_block ht) o).trans (cell_of_one ht)
  have cf : ∀ o, (w.alloc o).cell? ⟨pf, 0, none⟩ = some (.int .i64 (k : Int)) := fun o => (cell_past (lt_of_block hf) o).trans (cell_of_one hf)
  have f1 : ∀ o, (w.alloc o).frozen? ⟨b, 1, none⟩ = false := fun o => (frozen_past hT.lt o).trans hT.free1
  have c1 : ∀ o, (w.alloc o).cell? ⟨b, 1, none⟩ = some (.int .i64 (j : Int)) := fun o => (cell_past hT.lt o).trans hT.cell1
  have hta := assert57
  apply wpS_seq
  apply wpS_region
  simp [wpOpsS, go_sem, recoverD, hu, Tryz.ntmps151, Exit.thenS]
  rw [laid57]
  clear hu
  refine wpS_of_wp ?_
  go_wp2
  exact ⟨rfl, _, rfl, .tuple #[], by simp [results, Tryz.results151], rfl, rfl, (hT.keeps ((Keeps.refl [] w).alloc _) (by simp)).set k, ((Keeps.refl [b] w).alloc _).setCell (by simp) _⟩

set_option maxRecDepth 100000 in
set_option maxHeartbeats 400000 in
/-- Try, whatever it tries: K reads, or gives up; S lists what K may turn. -/
theorem try_any (K : Nat) (caps : Array Value) (Yes No : World → Prop) (S : List Nat) (b : Nat) (s : ByteArray) (k : Nat) (w : World) (hT : IsText w b s k) (hK : Enters K) (hb : b ∈ S) (hS : ∀ i, i ∈ S → i < w.heap.size) (hNo : ∀ w2 w3, No w2 → Keeps [b] w2 w3 → No w3)
    (hread : ∀ w1, Keeps [] w w1 → Calls Tryz.prog K caps w1 fun e w2 => (e = .returned (.tuple #[]) ∧ Yes w2 ∨ e = .panicked gave ∧ No w2 ∧ ∃ j, IsText w2 b s j) ∧ Keeps S w1 w2) :
    Calls Tryz.prog 78 #[.pointer (some ⟨b, 0, none⟩), .func (.func K) #[] caps] w fun e w' =>
      (e = .returned (.bool true) ∧ Yes w' ∨ e = .returned (.bool false) ∧ No w' ∧ IsText w' b s k) ∧ Keeps S w w' := by
  have hmf : ∀ (fn : Fn) (first cap : Array Value) (w : World), (Instr.makeFunc fn first cap).run Tryz.prog w = .ok (.func fn first cap) w := fun _ _ _ _ => rfl
  have hK' := hK
  unfold Enters at hK'
  have c1 : ∀ o, (w.alloc o).cell? ⟨b, 1, none⟩ = some (.int .i64 (k : Int)) := fun o => (cell_past hT.lt o).trans hT.cell1
  have hkS : ∀ w2, Keeps S ((w.alloc (.cells #[.pointer (some ⟨b, 0, none⟩)] 105)).alloc (.cells #[.int .i64 (k : Int)] 3)) w2 → Keeps S w w2 := fun w2 h => (((Keeps.refl S w).alloc _).alloc _).trans h
  go_enter_defers Tryz.func78, Tryz.ntmps78
  go_wp2_with fail
  refine (hread _ (((Keeps.refl [] w).alloc _).alloc _)).mono ?_
  rintro e w2 ⟨⟨rfl, hy⟩ | ⟨rfl, hno, j, hj⟩, hk⟩
  · go_wp2_with fail
    refine leaves_cons (f := 151) (args := #[.pointer (some ⟨w.heap.size + 1, 0, none⟩), .pointer (some ⟨w.heap.size, 0, none⟩)]) (by simp) (by simp [go_sem]) ?_
    refine (catch_idle _ _ _).mono ?_
    rintro e u' w3 ⟨rfl, rfl, rfl⟩
    exact ⟨_, results_tmp rfl _ _ _, .inl ⟨rfl, hy⟩, hkS _ hk⟩
  · go_wp2_with fail
    refine leaves_cons (f := 151) (args := #[.pointer (some ⟨w.heap.size + 1, 0, none⟩), .pointer (some ⟨w.heap.size, 0, none⟩)]) (by simp) (by simp [go_sem]) ?_
    refine (catch_panicking b s k j (w.heap.size + 1) w.heap.size _ hj ?_ ?_).mono ?_
    · rw [hk.block _ (by rw [two_size]; omega) (fun h => by have := hS _ h; omega)]
      exact two_snd _ _ _
    · rw [hk.block _ (by rw [two_size]; omega) (fun h => by have := hS _ h; omega)]
      exact two_fst _ _ _
    rintro e u' w3 ⟨rfl, rfl, hT3, hk3⟩
    exact ⟨_, results_tmp rfl _ _ _, .inr ⟨rfl, hNo _ _ hno hk3, hT3⟩, (hkS _ hk).trans (hk3.mono fun i hi _ => by simp at hi; subst hi; exact hb)⟩
end Go.Proofs.YtlcljanibjdejaaGreat

namespace Go.Proofs.YtlcljanibjdejaaGreat
open Go.RowKit

set_option maxHeartbeats 400000 in
theorem read70 (b : Nat) (s : ByteArray) (k bx cd : Nat) (w : World) (hs : s.size ≤ 3000) (hT : IsText w b s k) (hk : k < s.size)
    (hbx : w.heap[bx]? = some (.cells #[.pointer (some ⟨b, 0, none⟩)] 105 (0, 0))) (hcd : w.heap[cd]? = some (.cells #[.int .i64 0] 3 (0, 0))) :
    Calls Tryz.prog 305 #[.pointer (some ⟨bx, 0, none⟩), .pointer (some ⟨cd, 0, none⟩)] w fun e w' =>
      (e = .returned (.tuple #[]) ∧ (∃ n m, signL (s.data.toList.drop (k + 1)) = some (n, m) ∧ IsText w' b s (k + 1 + m) ∧ w'.heap[cd]? = some (.cells #[.int .i64 (n : Nat)] 3 (0, 0))) ∨
        e = .panicked gave ∧ signL (s.data.toList.drop (k + 1)) = none ∧ ∃ j, IsText w' b s j) ∧ Keeps [b, cd] w w' := by
  have cb := cell_of_one hbx
  have hne : cd ≠ b := by
    intro h
    subst h
    rw [IsText, hcd] at hT
    simp at hT
  go_enter Tryz.func305, Tryz.ntmps305
  go_wp2_with fail
  refine (sign_any b s k _ hs hT hk).mono ?_
  rintro e w1 ⟨⟨n, m, he, rfl, hT1⟩ | ⟨he, rfl, hT1⟩, hk1⟩
  · have hcd1 : w1.heap[cd]? = some (.cells #[.int .i64 0] 3 (0, 0)) := by rw [hk1.block cd (lt_of_block hcd) (by simpa using hne)]; exact hcd
    have fc := free_of_one hcd1
    have cc := cell_of_one hcd1
    have HE := hide he
    clear he
    go_wp2_with fail
    go_end0
    exact ⟨.inl ⟨rfl, n, m, HE.out, hT1.keeps ((Keeps.refl [cd] w1).setCell (by simp) _) (by simpa using Ne.symm hne), one_setCell hcd1⟩, (hk1.mono fun i hi _ => by simp at hi; simp [hi]).setCell (by simp) _⟩
  · go_wp2_with fail
    exact ⟨rfl, .inr ⟨rfl, he, hT1⟩, hk1.mono fun i hi _ => by simp at hi; simp [hi]⟩

theorem enters305 : Enters 305 := enters_of Tryz.func305 (by kernel_rfl) (by kernel_rfl)

theorem Tryz.info5 : (Tryz.prog.info? 5).map (fun i => (i.zero, i.size, i.bytes)) = some (some (.int .u8 0), 1, 1) := by kernel_rfl

/-- A row of bytes is no text. -/
theorem row_ne {w : World} {B : Nat} {v : Value} {n : Nat} {xs : List Value} {b : Nat} {s : ByteArray} {k : Nat} (ho : w.ownsRow B 5 1 v n xs) (hT : IsText w b s k) : ∀ g, v.ownBlock = some g → g ≠ b := by
  intro g hg h
  subst h
  rcases ho.2 with ⟨rfl, _⟩ | ⟨g', cap, cur, rfl, _, hh, _⟩
  · simp [Value.ownBlock] at hg
  · simp [Value.ownBlock] at hg
    subst hg
    rw [IsText, hh] at hT
    simp at hT

theorem tried52 (b : Nat) (s : ByteArray) (k : Nat) (w : World) (B : Nat) (v : Value) (n : Nat) (xs : List Value) (hs : s.size ≤ 3000) (hT : IsText w b s k) (hk : k < s.size) (ho : w.ownsRow B 5 1 v n xs) :
    Calls Tryz.prog 78 #[.pointer (some ⟨b, 0, none⟩), .func (.func 305) #[] #[.pointer (some ⟨w.heap.size, 0, none⟩), .pointer (some ⟨w.heap.size + 1, 0, none⟩)]]
      ((w.alloc (.cells #[.pointer (some ⟨b, 0, none⟩)] 105)).alloc (.cells #[.int .i64 0] 3)) fun e w2 =>
      (e = .returned (.bool true) ∧ (∃ c m, signL (s.data.toList.drop (k + 1)) = some (c, m) ∧ IsText w2 b s (k + 1 + m) ∧ w2.heap[w.heap.size + 1]? = some (.cells #[.int .i64 (c : Nat)] 3 (0, 0))) ∨
        e = .returned (.bool false) ∧ signL (s.data.toList.drop (k + 1)) = none ∧ IsText w2 b s k) ∧
      w2.heap[w.heap.size]? = some (.cells #[.pointer (some ⟨b, 0, none⟩)] 105 (0, 0)) ∧ w2.ownsRow B 5 1 v n xs ∧ Keeps [b] w w2 := by
  have hlt := hT.lt
  have hk0 : Keeps [] w ((w.alloc (.cells #[.pointer (some ⟨b, 0, none⟩)] 105)).alloc (.cells #[.int .i64 0] 3)) := ((Keeps.refl [] w).alloc _).alloc _
  refine (try_any 305 _ (fun w2 => ∃ c m, signL (s.data.toList.drop (k + 1)) = some (c, m) ∧ IsText w2 b s (k + 1 + m) ∧ w2.heap[w.heap.size + 1]? = some (.cells #[.int .i64 (c : Nat)] 3 (0, 0)))
    (fun _ => signL (s.data.toList.drop (k + 1)) = none) [b, w.heap.size + 1] b s k _ (hT.keeps hk0 (by simp)) enters305 (by simp) ?_ (fun _ _ h _ => h) ?_).mono ?_
  · intro i hi
    rw [two_size]
    simp at hi
    omega
  · intro w1 hk1
    refine read70 b s k w.heap.size (w.heap.size + 1) w1 hs ((hT.keeps hk0 (by simp)).keeps hk1 (by simp)) hk ?_ ?_
    · rw [hk1.block _ (by rw [two_size]; omega) (by simp)]
      exact two_fst _ _ _
    · rw [hk1.block _ (by rw [two_size]; omega) (by simp)]
      exact two_snd _ _ _
  · rintro e w2 ⟨h1, h2⟩
    refine ⟨h1, ?_, ?_, ?_⟩
    · rw [h2.block _ (by rw [two_size]; omega) (by simp; omega)]
      exact two_fst _ _ _
    · refine h2.owns (hk0.owns ho (by simp)) ?_
      intro g hg
      have h3 := row_ne ho hT g hg
      have h4 := (ho.lt g hg).2
      simp
      omega
    · exact ⟨h2.os, h2.tape, h2.output, Nat.le_trans hk0.size h2.size, fun i hi hS => (h2.block i (by rw [two_size]; omega) (by simp at hS ⊢; omega)).trans (hk0.block i hi (by simp))⟩

theorem takeOne_none {s : ByteArray} {k : Nat} (hk : k < s.size) (h : signL (s.data.toList.drop (k + 1)) = none) : takeOne (s.data.toList.drop k) = ([byteAt s k], 1, false) := by
  have hl : k < s.data.toList.length := by simpa using hk
  unfold takeOne
  rw [List.drop_drop, h]
  rw [List.drop_eq_getElem_cons hl]
  simp [byteAt, List.getElem?_eq_getElem hl]

theorem takeOne_some {s : ByteArray} {k c m : Nat} (h : signL (s.data.toList.drop (k + 1)) = some (c, m)) :
    takeOne (s.data.toList.drop k) = if standsL c then (Lib.encodeRune c, 1 + m, true) else (Lib.encodeRune 65533, 1 + m, false) := by
  unfold takeOne
  rw [List.drop_drop, h]

theorem own_tail {b : Nat} {s : ByteArray} {q : Nat} {v : Value} {w w2 w4 : World} {o : Obj} (hk2 : Keeps [b] w w2) (hT2 : IsText w2 b s q) (hg : (w2.alloc o).grownBy w4 v.ownBlock) (hrow : ∀ g, v.ownBlock = some g → g ≠ b) :
    IsText w4 b s q ∧ Keeps (b :: v.ownBlock.toList) w w4 := by
  have k1 : Keeps v.ownBlock.toList w2 w4 := ((Keeps.refl _ w2).alloc o).grown hg (fun k e => .inl (by simp [e]))
  refine ⟨hT2.keeps k1 ?_, (hk2.mono fun i hi _ => by simp at hi; simp [hi]).trans (k1.mono fun i hi _ => by simp [hi])⟩
  intro h
  simp at h
  exact hrow b h rfl

theorem own_rune {w : World} {B : Nat} {v : Value} {n : Nat} {xs : List Value} {r : Int} (h : w.ownsRow B 5 1 v (n + (Lib.runeCells r).length) (xs ++ Lib.runeCells r)) :
    w.ownsRow B 5 1 v (n + (Lib.encodeRune r).length) (xs ++ Lib.byteCells (Lib.encodeRune r)) := by
  rw [Lib.byteCells_encodeRune, ← Lib.runeCells_length]; exact h

set_option maxHeartbeats 1000000 in
theorem takeSign_any (b : Nat) (s : ByteArray) (k : Nat) (w : World) (B : Nat) (v : Value) (n : Nat) (xs : List Value) (hs : s.size ≤ 3000) (hT : IsText w b s k) (hk : k < s.size)
    (ho : w.ownsRow B 5 1 v n xs) (hn : n ≤ 100000) (hB : B ≤ w.heap.size) :
    Calls Tryz.prog 261 #[.pointer (some ⟨b, 0, none⟩), v] w fun e w' =>
      ∃ v', e = .returned (.tuple #[v', .bool (takeOne (s.data.toList.drop k)).2.2]) ∧
        w'.ownsRow B 5 1 v' (n + (takeOne (s.data.toList.drop k)).1.length) (xs ++ Lib.byteCells (takeOne (s.data.toList.drop k)).1) ∧
        IsText w' b s (k + (takeOne (s.data.toList.drop k)).2.1) ∧ Keeps (b :: v.ownBlock.toList) w w' := by
  have hmf : ∀ (fn : Fn) (first cap : Array Value) (w : World), (Instr.makeFunc fn first cap).run Tryz.prog w = .ok (.func fn first cap) w := fun _ _ _ _ => rfl
  have hrow := row_ne ho hT
  obtain ⟨i0, hi, hz0, hz1, hz2⟩ := info_parts Tryz.info5
  obtain ⟨T, hTk⟩ : ∃ T, takeOne (s.data.toList.drop k) = T := ⟨_, rfl⟩
  rw [hTk]
  have HT := hide hTk
  clear hTk
  go_enter Tryz.func261, Tryz.ntmps261
  go_wp2_with fail
  refine (tried52 b s k w B v n xs hs hT hk ho).mono ?_
  rintro e w2 ⟨⟨rfl, c, m, he, hT2, hcd⟩ | ⟨rfl, he, hT2⟩, hbx, ho2, hk2⟩
  · have hcc := cell_of_one hcd
    have hle := (signL_le he).2.2
    have H2 := hide (HT.out.symm.trans (takeOne_some he))
    clear he HT
    cases hst : standsL c
    · rw [hst] at H2
      go_wp2_with fail
      refine (stands_any c hle _).mono ?_
      rintro e w3 ⟨rfl, rfl⟩
      rw [hst]
      go_wp2_with fail
      refine (Tryz.utf8_AppendRune_plain B v n xs 65533 (by omega) (by omega) _ ho2 (by omega) (Nat.le_trans hB hk2.size)).mono ?_
      rintro e w4 ⟨v', rfl, ho4, o, hg4⟩
      go_wp2_with fail
      go_ret2
      rw [H2.out]
      exact ⟨v', rfl, own_rune ho4, by simp only [Bool.false_eq_true, if_false]; rw [← Nat.add_assoc]; exact (own_tail hk2 hT2 hg4 hrow).1, (own_tail hk2 hT2 hg4 hrow).2⟩
    · rw [hst] at H2
      go_wp2_with fail
      refine (stands_any c hle _).mono ?_
      rintro e w3 ⟨rfl, rfl⟩
      rw [hst]
      go_wp2_with fail
      refine (Tryz.utf8_AppendRune_plain B v n xs c (by omega) (by omega) _ ho2 (by omega) (Nat.le_trans hB hk2.size)).mono ?_
      rintro e w4 ⟨v', rfl, ho4, o, hg4⟩
      go_wp2_with fail
      go_ret2
      rw [H2.out]
      exact ⟨v', rfl, own_rune ho4, by simp only [if_true]; rw [← Nat.add_assoc]; exact (own_tail hk2 hT2 hg4 hrow).1, (own_tail hk2 hT2 hg4 hrow).2⟩
  · have hcb := cell_of_one hbx
    have H2 := hide (HT.out.symm.trans (takeOne_none hk he))
    clear he HT
    go_wp2_with fail
    refine (one_yes b s k _ hs hT2 hk).mono ?_
    rintro e w3 ⟨rfl, hT3, hk3⟩
    have ho3 := hk3.owns ho2 (fun g hg => by simpa using hrow g hg)
    have hsz3 : w.heap.size ≤ w3.heap.size := Nat.le_trans hk2.size hk3.size
    go_wp2_with (at_builtin; refine wpList_append_own _ rfl _ _ 107 rfl B 5 i0 (.int .u8 0) 1 1 Tryz.underlying107 hi hz0 hz1 hz2 rfl (by decide) _ _ _ rfl (ho3.alloc _) ⟨w3.heap.size, 0, none⟩ 1 1 [.int .u8 (byteAt s k).toNat] rfl rfl ?c1 ?c2 ?c3 ?c4 ?c5 ?_)
    case c1 =>
      intro j u hj
      match j, hj with
      | 0, hj => simp at hj; subst hj; simp [Addr.add]
    case c2 => intro u hu; simp at hu; subst hu; rfl
    case c3 => unfold maxLen; omega
    case c4 => omega
    case c5 => simp; omega
    intro v' w4 ho4 hg4 _
    go_wp2_with fail
    go_ret2
    rw [H2.out]
    exact ⟨v', rfl, ho4, (own_tail (hk2.trans hk3) hT3 hg4 hrow).1, (own_tail (hk2.trans hk3) hT3 hg4 hrow).2⟩
end Go.Proofs.YtlcljanibjdejaaGreat

namespace Go.Proofs.YtlcljanibjdejaaGreat

/-- Take, with as many steps as are allowed. -/
def takeF : Nat → List UInt8 → List UInt8 × Bool
  | 0, _ => ([], true)
  | _ + 1, [] => ([], true)
  | f + 1, c :: l =>
    if c = 38 then ((takeOne (c :: l)).1 ++ (takeF f ((c :: l).drop (takeOne (c :: l)).2.1)).1, (takeOne (c :: l)).2.2 && (takeF f ((c :: l).drop (takeOne (c :: l)).2.1)).2)
    else (c :: (takeF f l).1, (takeF f l).2)

/-- Take: the text, and whether Strict answers it. -/
def takeL (l : List UInt8) : List UInt8 × Bool := takeF l.length l

theorem takeF_more : ∀ (f g : Nat) (l : List UInt8), l.length ≤ f → l.length ≤ g → takeF f l = takeF g l
  | 0, g, l, h1, _ => by
    have : l = [] := List.eq_nil_of_length_eq_zero (by omega)
    subst this
    cases g <;> rfl
  | f + 1, 0, l, _, h2 => by
    have : l = [] := List.eq_nil_of_length_eq_zero (by omega)
    subst this
    rfl
  | f + 1, g + 1, [], _, _ => rfl
  | f + 1, g + 1, c :: l, h1, h2 => by
    simp only [List.length_cons] at h1 h2
    have hle := takeOne_le (c :: l) (by simp)
    simp only [List.length_cons] at hle
    have ha := takeF_more f g ((c :: l).drop (takeOne (c :: l)).2.1) (by simp only [List.length_drop, List.length_cons]; omega) (by simp only [List.length_drop, List.length_cons]; omega)
    have hb := takeF_more f g l (by omega) (by omega)
    simp only [takeF, ha, hb]

theorem takeL_nil : takeL [] = ([], true) := rfl

theorem takeL_and (c : UInt8) (l : List UInt8) (h : c = 38) :
    takeL (c :: l) = ((takeOne (c :: l)).1 ++ (takeL ((c :: l).drop (takeOne (c :: l)).2.1)).1, (takeOne (c :: l)).2.2 && (takeL ((c :: l).drop (takeOne (c :: l)).2.1)).2) := by
  have hle := takeOne_le (c :: l) (by simp)
  simp only [List.length_cons] at hle
  have e : takeL ((c :: l).drop (takeOne (c :: l)).2.1) = takeF l.length ((c :: l).drop (takeOne (c :: l)).2.1) :=
    takeF_more _ _ _ (Nat.le_refl _) (by simp only [List.length_drop, List.length_cons]; omega)
  rw [e]
  unfold takeL
  rw [List.length_cons, takeF, if_pos h]

theorem takeL_other (c : UInt8) (l : List UInt8) (h : c ≠ 38) : takeL (c :: l) = (c :: (takeL l).1, (takeL l).2) := by
  unfold takeL
  rw [List.length_cons, takeF, if_neg h]

theorem takeL_pass : ∀ l : List UInt8, takeL l = (l.takeWhile noAnd ++ (takeL (l.drop (l.takeWhile noAnd).length)).1, (takeL (l.drop (l.takeWhile noAnd).length)).2)
  | [] => by simp [takeL_nil]
  | c :: l => by
    by_cases h : c = 38
    · have : noAnd c = false := by simp [noAnd, h]
      simp [this]
    · have hn : noAnd c = true := by simp [noAnd, h]
      rw [takeL_other c l h]
      have ih := takeL_pass l
      rw [ih]
      simp [hn]

/-- A text without & is taken as it is. -/
theorem takeL_plain (l : List UInt8) (h : ∀ c ∈ l, c ≠ 38) : takeL l = (l, true) := by
  induction l with
  | nil => rfl
  | cons c l ih =>
    rw [takeL_other c l (h c (by simp)), ih fun d hd => h d (by simp [hd])]

/-- What is put is taken as it was. -/
theorem take_amp (l : List UInt8) : takeOne (38 :: 97 :: 109 :: 112 :: 59 :: l) = ([38], 5, true) := by
  simp [takeOne, signL, inName, toldL, standsL, Lib.encodeRune, Lib.encodeRuneZ]
theorem take_lt (l : List UInt8) : takeOne (38 :: 108 :: 116 :: 59 :: l) = ([60], 4, true) := by
  simp [takeOne, signL, inName, toldL, standsL, Lib.encodeRune, Lib.encodeRuneZ]
theorem take_gt (l : List UInt8) : takeOne (38 :: 103 :: 116 :: 59 :: l) = ([62], 4, true) := by
  simp [takeOne, signL, inName, toldL, standsL, Lib.encodeRune, Lib.encodeRuneZ]
theorem take_quot (l : List UInt8) : takeOne (38 :: 113 :: 117 :: 111 :: 116 :: 59 :: l) = ([34], 6, true) := by
  simp [takeOne, signL, inName, toldL, standsL, Lib.encodeRune, Lib.encodeRuneZ]

theorem takeL_putB (c : UInt8) (l : List UInt8) : takeL (putB c ++ l) = (c :: (takeL l).1, (takeL l).2) := by
  unfold putB
  split
  · rename_i h; subst h
    simp only [List.cons_append, List.nil_append]
    rw [takeL_and _ _ rfl, take_amp]
    simp
  · split
    · rename_i h; subst h
      simp only [List.cons_append, List.nil_append]
      rw [takeL_and _ _ rfl, take_lt]
      simp
    · split
      · rename_i h; subst h
        simp only [List.cons_append, List.nil_append]
        rw [takeL_and _ _ rfl, take_gt]
        simp
      · split
        · rename_i h; subst h
          simp only [List.cons_append, List.nil_append]
          rw [takeL_and _ _ rfl, take_quot]
          simp
        · rename_i h _ _ _
          exact takeL_other c l h

theorem takeL_putL : ∀ l : List UInt8, takeL (putL l) = (l, true)
  | [] => rfl
  | c :: l => by
    have := takeL_putL l
    simp only [putL, List.flatMap_cons] at this ⊢
    rw [takeL_putB, this]
end Go.Proofs.YtlcljanibjdejaaGreat

namespace Go.Proofs.YtlcljanibjdejaaGreat
open Go.RowKit

/-- How many bytes that are no & come from a place on. -/
def restLen (s : ByteArray) (k : Nat) : Nat := passLen noAnd (s.data.toList.drop k)

theorem pass54 (b : Nat) (s : ByteArray) (k : Nat) (w : World) (hs : s.size ≤ 3000) (hT : IsText w b s k) (hk : k ≤ s.size) :
    Calls Tryz.prog 158 #[.pointer (some ⟨b, 0, none⟩), .func (.func 262) #[] #[]] w fun e w' =>
      e = .returned (.string (s.extract k (k + restLen s k))) ∧ IsText w' b s (k + restLen s k) ∧ Keeps [b] w w' :=
  pass_any 262 #[] noAnd b s k w hs hT hk enters262 fun c w1 _ => (noAnd_any c w1).mono fun _ _ ⟨he, hw⟩ => ⟨he, 0, hw⟩

theorem restLen_le (s : ByteArray) (k : Nat) (hk : k ≤ s.size) : k + restLen s k ≤ s.size := by
  have h1 : (s.data.toList.drop k).length = s.size - k := by rw [List.length_drop]; rfl
  have h2 : restLen s k ≤ (s.data.toList.drop k).length := (List.takeWhile_sublist _).length_le
  omega

/-- What is taken up to a place, and what is to come. -/
def Done (s : ByteArray) (k : Nat) (o : List UInt8) (r : Bool) : Prop :=
  takeL s.data.toList = (o ++ (takeL (s.data.toList.drop k)).1, r && (takeL (s.data.toList.drop k)).2) ∧ o.length ≤ 4 * k

theorem done_start (s : ByteArray) : Done s 0 [] true := by simp [Done]

theorem done_end {s : ByteArray} {k : Nat} {o : List UInt8} {r : Bool} (h : Done s k o r) (hk : s.size ≤ k) : takeL s.data.toList = (o, r) := by
  have e := h.1
  rw [List.drop_eq_nil_of_le (by exact hk), takeL_nil] at e
  simpa using e

theorem drop_byteAt (s : ByteArray) (k : Nat) (hk : k < s.size) : s.data.toList.drop k = byteAt s k :: s.data.toList.drop (k + 1) := by
  have hl : k < s.data.toList.length := by simpa using hk
  rw [List.drop_eq_getElem_cons hl]
  simp [byteAt, List.getElem?_eq_getElem hl]

theorem done_sign {s : ByteArray} {k : Nat} {o : List UInt8} {r : Bool} (h : Done s k o r) (hk : k < s.size) (hc : byteAt s k = 38) :
    Done s (k + (takeOne (s.data.toList.drop k)).2.1) (o ++ (takeOne (s.data.toList.drop k)).1) (r && (takeOne (s.data.toList.drop k)).2.2) ∧
      1 ≤ (takeOne (s.data.toList.drop k)).2.1 ∧ k + (takeOne (s.data.toList.drop k)).2.1 ≤ s.size := by
  have hl : (s.data.toList.drop k).length = s.size - k := by rw [List.length_drop]; rfl
  have hle := takeOne_le (s.data.toList.drop k) (by omega)
  have e := takeL_and (byteAt s k) (s.data.toList.drop (k + 1)) hc
  rw [← drop_byteAt s k hk, List.drop_drop] at e
  refine ⟨⟨?_, ?_⟩, hle.1, by omega⟩
  · rw [h.1, e]
    simp [Bool.and_assoc]
  · have := h.2
    simp only [List.length_append]
    omega

theorem done_pass {s : ByteArray} {k : Nat} {o : List UInt8} {r : Bool} (h : Done s k o r) :
    Done s (k + restLen s k) (o ++ (s.extract k (k + restLen s k)).data.toList) r := by
  have e := takeL_pass (s.data.toList.drop k)
  rw [List.drop_drop] at e
  have ex : (s.extract k (k + restLen s k)).data.toList = (s.data.toList.drop k).takeWhile noAnd := by
    rw [Lib.extract_data, Nat.add_sub_cancel_left]
    exact (List.prefix_iff_eq_take.1 (List.takeWhile_prefix _)).symm
  rw [ex]
  refine ⟨?_, ?_⟩
  · rw [h.1, e]
    simp only [List.append_assoc]
    rfl
  · have := h.2
    simp only [List.length_append]
    have : ((s.data.toList.drop k).takeWhile noAnd).length = restLen s k := rfl
    omega

theorem restLen_pos (s : ByteArray) (k : Nat) (hk : k < s.size) (hc : byteAt s k ≠ 38) : 1 ≤ restLen s k := by
  unfold restLen passLen
  rw [drop_byteAt s k hk]
  have : noAnd (byteAt s k) = true := by simp [noAnd, hc]
  simp [this]

theorem keeps_new {w w' : World} (h : Keeps [w.heap.size] w w') : Keeps [] w w' := h.mono fun k hk hlt => by simp at hk; omega
theorem keeps_own {w w' : World} {row : Option Nat} (h : Keeps (w.heap.size :: row.toList) w w') (hr : ∀ g, row = some g → w.heap.size + 1 ≤ g) : Keeps [] w w' := h.mono fun k hk hlt => by
  simp at hk
  rcases hk with hk | hk
  · omega
  · have := hr k hk; omega
theorem Keeps.up {S : List Nat} {w w' : World} (h : Keeps [] w w') : Keeps S w w' := h.mono fun k hk => by simp at hk
theorem keeps_of_drewN {S : List Nat} {w w' : World} {n : Nat} (h : Keeps S (w.drewN n) w') : Keeps S w w' := ⟨h.os, h.tape, h.output, h.size, h.block⟩

theorem keeps_row {w w' : World} {row : Option Nat} (h : w.grownBy w' row) : Keeps row.toList w w' := (Keeps.refl _ w).grown h fun k e => .inl (by simp [e])

/-- A row of bytes as a string. -/
theorem own_string {w : World} {B : Nat} {v : Value} {l : List UInt8} (h : w.ownsRow B 5 1 v l.length (Lib.byteCells l)) (n : Nat) : (convert 107 9 v).run Tryz.prog (w.drewN n) = .ok (.string ⟨l.toArray⟩) (w.drewN n) := by
  rcases h.2 with ⟨rfl, h0⟩ | ⟨g, cap, cur, rfl, hb, hg, h1, h2, h3, h4⟩
  · have : l = [] := List.eq_nil_of_length_eq_zero h0
    subst this
    rw [run_convert_bytes_string (w.drewN n) 107 9 5 none 0 0 Tryz.underlying107 Tryz.underlying5 Tryz.underlying9]
    simp [Conv.bytesToString]
    rfl
  · refine run_convert_bytes_back (w.drewN n) 107 9 5 ⟨g, 0, none⟩ cap l Tryz.underlying107 Tryz.underlying5 Tryz.underlying9 ?_
    intro j hj
    have := h.cells (g := g) rfl j (.int .u8 (l[j].toNat : Int)) (by simp [Lib.byteCells, hj])
    exact this

theorem own_str {w : World} {B : Nat} {v : Value} {l : List UInt8} {t : ByteArray} (h : w.ownsRow B 5 1 v (l.length + t.size) (Lib.byteCells l ++ Lib.strCells t)) : w.ownsRow B 5 1 v (l ++ t.data.toList).length (Lib.byteCells (l ++ t.data.toList)) := by
  have e1 : (l ++ t.data.toList).length = l.length + t.size := by rw [List.length_append]; rfl
  have e2 : Lib.byteCells (l ++ t.data.toList) = Lib.byteCells l ++ Lib.strCells t := by simp [Lib.byteCells, Lib.strCells]
  rw [e1, e2]; exact h

theorem own_bytes {w : World} {B : Nat} {v : Value} {l t : List UInt8} (h : w.ownsRow B 5 1 v (l.length + t.length) (Lib.byteCells l ++ Lib.byteCells t)) : w.ownsRow B 5 1 v (l ++ t).length (Lib.byteCells (l ++ t)) := by
  have e2 : Lib.byteCells (l ++ t) = Lib.byteCells l ++ Lib.byteCells t := by simp [Lib.byteCells]
  rw [List.length_append, e2]; exact h

set_option maxHeartbeats 2000000 in
theorem taken_any (s : ByteArray) (w : World) (hs : s.size ≤ 3000) :
    Calls Tryz.prog 188 #[.string s] w fun e w' => e = .returned (.tuple #[.string ⟨(takeL s.data.toList).1.toArray⟩, .bool (takeL s.data.toList).2]) ∧ Keeps [] w w' := by
  obtain ⟨T, hTk⟩ : ∃ T, takeL s.data.toList = T := ⟨_, rfl⟩
  rw [hTk]
  have HT := hide hTk
  clear hTk
  obtain ⟨i0, hi, hz0, hz1, hz2⟩ := info_parts Tryz.info5
  go_enter Tryz.func188, Tryz.ntmps188
  go_wp2_with fail
  refine (new_any s _).mono ?_
  rintro e w1 ⟨rfl, hw1⟩
  have hT1 : IsText w1 w.heap.size s 0 := by rw [hw1]; exact heap_alloc_new w _
  have hk1 : Keeps [] w w1 := by rw [hw1]; exact (Keeps.refl [] w).alloc _
  have hsz1 : w1.heap.size = w.heap.size + 1 := by rw [hw1]; simp
  have HZ := hide hsz1
  clear hw1 hsz1
  go_wp2_with (at_make; refine wpList_make_own _ rfl _ _ 107 rfl (w.heap.size + 1) 5 i0 (.int .u8 0) 1 Tryz.underlying107 hi hz0 hz1 .i64 .i64 _ s.size rfl rfl rfl (by rw [hz2]; omega) (by unfold maxLen; omega) (Nat.le_of_eq HZ.out.symm) ?_; intro w2 ho2 hg2)
  have hT2 : IsText w2 w.heap.size s 0 := by rw [IsText, hg2.block _ (by have := HZ.out; omega) (by simp)]; exact hT1
  have hk2 : Keeps [] w w2 := hk1.grown hg2 (by simp)
  clear hT1 hk1 hg2
  go_loopw [3, 5] (fun r v wr => ∃ (k : Nat) (o : List UInt8) (rt : Bool), k ≤ s.size ∧ r = .bool rt ∧ wr.ownsRow (w.heap.size + 1) 5 1 v o.length (Lib.byteCells o) ∧ IsText wr w.heap.size s k ∧ Keeps [] w wr ∧ Hid (Done s k o rt))
    (fun _ _ wr => s.size - (intOf ((wr.cell? ⟨w.heap.size, 1, none⟩).getD undef)).toNat)
  case atStart => exact ⟨0, [], true, Nat.zero_le _, rfl, ho2, hT2, hk2, done_start s⟩
  case round =>
    obtain ⟨k, o, rt, hk, rfl, ho, hT, hkp, hD⟩ := hrel
    clear ho2 hT2 hk2 HZ
    by_cases hlt : k < s.size
    · have hd : decide (s.size ≤ k) = false := by simp; omega
      by_cases hc : byteAt s k = 38
      · have HS := done_sign hD.out hlt hc
        have HD := hide HS.1
        have hp1 := HS.2.1
        have hp2 := HS.2.2
        have hn : o.length ≤ 100000 := by have := hD.out.2; omega
        clear HS hD
        go_wp2_with fail
        refine (done_any _ _ _ _ hT).mono ?_
        rintro e w3 ⟨rfl, n, rfl⟩
        go_wp2_with fail
        refine (peek_yes _ s k _ (by exact hT) hlt).mono ?_
        rintro e w3 ⟨rfl, n, rfl⟩
        rw [hc]
        go_wp2_with fail
        refine (takeSign_any _ s k _ (w.heap.size + 1) _ _ _ hs (by exact hT) hlt (by exact ho) hn (by exact hT.lt)).mono ?_
        generalize takeOne (s.data.toList.drop k) = T1 at *
        rintro e w4 ⟨v4, rfl, ho4, hT4, hk4⟩
        have hk4' : Keeps [] w w4 := keeps_own (hkp.up.trans (keeps_of_drewN hk4)) (fun g hg => (ho.lt g hg).1)
        have HD2 := hide (done_pass HD.out)
        have ho4' := own_bytes ho4
        have hrl := restLen_le s _ hp2
        have hn4 : (o ++ T1.1).length ≤ 100000 := by have := HD.out.2; omega
        have hex : (s.extract (k + T1.2.1) (k + T1.2.1 + restLen s (k + T1.2.1))).size ≤ 3000 := by simp; omega
        clear ho4 hk4 HD
        cases rt
        all_goals
          go_wp2_with fail
          refine (pass54 _ s (k + T1.2.1) _ hs (by exact hT4) hp2).mono ?_
          rintro e w5 ⟨rfl, hT5, hk5⟩
          have hk5' : Keeps [] w w5 := keeps_new (hk4'.up.trans hk5)
          have ho5 := hk5.owns ho4' (fun g hg => by have := (ho4'.lt g hg).1; simp; omega)
          have hsz5 := hT5.lt
          generalize s.extract (k + T1.2.1) (k + T1.2.1 + restLen s (k + T1.2.1)) = t at *
          go_wp2_with (at_builtin; refine Lib.wpList_append_own_string _ rfl _ _ 107 9 rfl (w.heap.size + 1) 5 i0 Tryz.underlying107 Tryz.underlying9 hi hz0 hz1 hz2 _ _ _ rfl ho5 t rfl ?c1 ?c2 ?c3 ?_)
          case c1 => unfold maxLen; omega
          case c2 => omega
          case c3 => omega
          intro v6 w6 ho6 hg6 _
          have hT6 := hT5.keeps (keeps_row hg6) (fun h => by simp at h; have := (ho5.lt _ h).1; omega)
          have hk6 : Keeps [] w w6 := hk5'.grown hg6 (fun g hg => .inr (by have := (ho5.lt _ hg).1; omega))
          go_wp2_with fail
          go_roundw
          case rel => exact ⟨k + T1.2.1 + restLen s (k + T1.2.1), o ++ T1.1 ++ t.data.toList, _, by omega, rfl, own_str (by rw [List.length_append]; exact ho6), hT6, hk6, HD2⟩
          case measure =>
            rw [hT6.cell1, hT.cell1]
            simp only [intOf, Option.getD_some]
            omega
      · have hne : (((byteAt s k).toNat : Int) == 38) = false := by
          have := byte_beq (byteAt s k) 38
          rw [show ((38 : UInt8).toNat : Int) = 38 from rfl] at this
          rw [this]; simpa using hc
        have HD := hide (done_pass hD.out)
        have hp1 := restLen_pos s k hlt hc
        have hp2 := restLen_le s k hk
        have hn : o.length ≤ 100000 := by have := hD.out.2; omega
        have hex : (s.extract k (k + restLen s k)).size ≤ 3000 := by simp; omega
        clear hc hD
        go_wp2_with fail
        refine (done_any _ _ _ _ hT).mono ?_
        rintro e w3 ⟨rfl, n, rfl⟩
        go_wp2_with fail
        refine (peek_yes _ s k _ (by exact hT) hlt).mono ?_
        rintro e w3 ⟨rfl, n, rfl⟩
        go_wp2_with fail
        refine (pass54 _ s k _ hs (by exact hT) hk).mono ?_
        rintro e w4 ⟨rfl, hT4, hk4⟩
        have hk4' : Keeps [] w w4 := keeps_new (hkp.up.trans (keeps_of_drewN hk4))
        have ho4 := (keeps_of_drewN hk4).owns ho (fun g hg => by have := (ho.lt g hg).1; simp; omega)
        have hsz4 := hT4.lt
        generalize s.extract k (k + restLen s k) = t at *
        go_wp2_with (at_builtin; refine Lib.wpList_append_own_string _ rfl _ _ 107 9 rfl (w.heap.size + 1) 5 i0 Tryz.underlying107 Tryz.underlying9 hi hz0 hz1 hz2 _ _ _ rfl ho4 t rfl ?c1 ?c2 ?c3 ?_)
        case c1 => unfold maxLen; omega
        case c2 => omega
        case c3 => omega
        intro v5 w5 ho5 hg5 _
        have hT5 : IsText w5 w.heap.size s (k + restLen s k) := hT4.keeps (keeps_row hg5) (fun h => by simp at h; have := (ho.lt _ h).1; omega)
        have hk5 : Keeps [] w w5 := hk4'.grown hg5 (fun g hg => .inr (by have := (ho.lt _ hg).1; omega))
        go_wp2_with fail
        go_roundw
        case rel => exact ⟨k + restLen s k, o ++ t.data.toList, rt, by omega, rfl, own_str ho5, hT5, hk5, HD⟩
        case measure =>
          rw [hT5.cell1, hT.cell1]
          simp only [intOf, Option.getD_some]
          omega
    · have hd : decide (s.size ≤ k) = true := by simp; omega
      have hcv := own_string ho
      have HE := hide (HT.out.symm.trans (done_end hD.out (by omega)))
      go_wp2_with fail
      refine (done_any _ _ _ _ hT).mono ?_
      rintro e w3 ⟨rfl, n, rfl⟩
      go_wp2_with fail
      go_ret2
      rw [HE.out]
      exact ⟨rfl, hkp.drewN _⟩
end Go.Proofs.YtlcljanibjdejaaGreat

namespace Go.Proofs.YtlcljanibjdejaaGreat
open Go.RowKit

/-- A text and an errno, as a call answers them. -/
def two (a : List UInt8 × Int) : Ending := .returned (.tuple #[.string ⟨a.1.toArray⟩, .int .i64 a.2])

def putAns (l : List UInt8) : List UInt8 × Int := if 3000 < l.length then ([], 2) else (putL l, 0)
def takeAns (l : List UInt8) : List UInt8 × Int := if 3000 < l.length then ([], 2) else ((takeL l).1, 0)
def strictAns (l : List UInt8) : List UInt8 × Int := if 3000 < l.length then ([], 2) else if (takeL l).2 then ((takeL l).1, 0) else ([], 1)

theorem len_size (s : ByteArray) : s.data.toList.length = s.size := Array.length_toList

set_option maxHeartbeats 400000 in
theorem take_any (s : ByteArray) (w : World) (hm : s.size ≤ maxLen) :
    Calls Tryz.prog 101 #[.string s] w fun e w' => e = two (takeAns s.data.toList) ∧ Keeps [] w w' := by
  unfold maxLen at hm
  unfold takeAns
  rw [len_size]
  by_cases h : 3000 < s.size
  · rw [if_pos h]
    go_enter Tryz.func101, Tryz.ntmps101
    go_wp2_with fail
    go_ret2
    exact ⟨rfl, Keeps.refl _ _⟩
  · rw [if_neg h]
    generalize hT : takeL s.data.toList = T
    have HT := hide hT
    clear hT
    go_enter Tryz.func101, Tryz.ntmps101
    go_wp2_with fail
    refine (taken_any s _ (by omega)).mono ?_
    rintro e w1 ⟨rfl, hk⟩
    rw [HT.out]
    go_wp2_with fail
    go_ret2
    exact ⟨rfl, hk⟩


theorem byte_no {c d : UInt8} {k : Int} (hd : (d.toNat : Int) = k) (h : c ≠ d) : ((c.toNat : Int) == k) = false := by
  rw [← hd, byte_beq]; simpa using h

theorem keeps_row_new {w w' : World} {row : Option Nat} (h : Keeps row.toList w w') (hr : ∀ g, row = some g → w.heap.size ≤ g) : Keeps [] w w' := h.mono fun k hk hlt => by
  simp at hk
  have := hr k hk
  omega

set_option maxHeartbeats 1000000 in
theorem putByte_any (c : UInt8) (w : World) (B : Nat) (v : Value) (o : List UInt8) (ho : w.ownsRow B 5 1 v o.length (Lib.byteCells o)) (hn : o.length ≤ 100000) (hB : B ≤ w.heap.size) :
    Calls Tryz.prog 103 #[v, .int .u8 c.toNat] w fun e w' => ∃ v', e = .returned v' ∧ w'.ownsRow B 5 1 v' (o ++ putB c).length (Lib.byteCells (o ++ putB c)) ∧ Keeps v.ownBlock.toList w w' := by
  obtain ⟨i0, hi, hz0, hz1, hz2⟩ := info_parts Tryz.info5
  by_cases h1 : c = 38
  · subst h1
    go_enter Tryz.func103, Tryz.ntmps103
    go_wp2_with (at_builtin; refine Lib.wpList_append_own_string _ rfl _ _ 107 9 rfl B 5 i0 Tryz.underlying107 Tryz.underlying9 hi hz0 hz1 hz2 _ _ _ rfl ho ⟨#[38, 97, 109, 112, 59]⟩ rfl ?c1 ?c2 ?c3 ?_)
    case c1 => show o.length + 5 ≤ maxLen; unfold maxLen; omega
    case c2 => show o.length + 5 ≤ 140737488355328; omega
    case c3 => omega
    intro v' w1 ho1 hg1 _
    go_wp2_with fail
    go_ret
    exact ⟨v', rfl, own_str (t := ⟨#[38, 97, 109, 112, 59]⟩) ho1, keeps_row hg1⟩
  by_cases h2 : c = 60
  · subst h2
    go_enter Tryz.func103, Tryz.ntmps103
    go_wp2_with (at_builtin; refine Lib.wpList_append_own_string _ rfl _ _ 107 9 rfl B 5 i0 Tryz.underlying107 Tryz.underlying9 hi hz0 hz1 hz2 _ _ _ rfl ho ⟨#[38, 108, 116, 59]⟩ rfl ?c1 ?c2 ?c3 ?_)
    case c1 => show o.length + 4 ≤ maxLen; unfold maxLen; omega
    case c2 => show o.length + 4 ≤ 140737488355328; omega
    case c3 => omega
    intro v' w1 ho1 hg1 _
    go_wp2_with fail
    go_ret
    exact ⟨v', rfl, own_str (t := ⟨#[38, 108, 116, 59]⟩) ho1, keeps_row hg1⟩
  by_cases h3 : c = 62
  · subst h3
    go_enter Tryz.func103, Tryz.ntmps103
    go_wp2_with (at_builtin; refine Lib.wpList_append_own_string _ rfl _ _ 107 9 rfl B 5 i0 Tryz.underlying107 Tryz.underlying9 hi hz0 hz1 hz2 _ _ _ rfl ho ⟨#[38, 103, 116, 59]⟩ rfl ?c1 ?c2 ?c3 ?_)
    case c1 => show o.length + 4 ≤ maxLen; unfold maxLen; omega
    case c2 => show o.length + 4 ≤ 140737488355328; omega
    case c3 => omega
    intro v' w1 ho1 hg1 _
    go_wp2_with fail
    go_ret
    exact ⟨v', rfl, own_str (t := ⟨#[38, 103, 116, 59]⟩) ho1, keeps_row hg1⟩
  by_cases h4 : c = 34
  · subst h4
    go_enter Tryz.func103, Tryz.ntmps103
    go_wp2_with (at_builtin; refine Lib.wpList_append_own_string _ rfl _ _ 107 9 rfl B 5 i0 Tryz.underlying107 Tryz.underlying9 hi hz0 hz1 hz2 _ _ _ rfl ho ⟨#[38, 113, 117, 111, 116, 59]⟩ rfl ?c1 ?c2 ?c3 ?_)
    case c1 => show o.length + 6 ≤ maxLen; unfold maxLen; omega
    case c2 => show o.length + 6 ≤ 140737488355328; omega
    case c3 => omega
    intro v' w1 ho1 hg1 _
    go_wp2_with fail
    go_ret
    exact ⟨v', rfl, own_str (t := ⟨#[38, 113, 117, 111, 116, 59]⟩) ho1, keeps_row hg1⟩
  have hp : putB c = [c] := by simp [putB, h1, h2, h3, h4]
  have e1 : ((c.toNat : Int) == 38) = false := byte_no (d := 38) rfl h1
  have e2 : ((c.toNat : Int) == 60) = false := byte_no (d := 60) rfl h2
  have e3 : ((c.toNat : Int) == 62) = false := byte_no (d := 62) rfl h3
  have e4 : ((c.toNat : Int) == 34) = false := byte_no (d := 34) rfl h4
  rw [hp]
  clear hp h1 h2 h3 h4
  go_enter Tryz.func103, Tryz.ntmps103
  go_wp2_with (at_builtin; refine wpList_append_own _ rfl _ _ 107 rfl B 5 i0 (.int .u8 0) 1 1 Tryz.underlying107 hi hz0 hz1 hz2 rfl (by decide) _ _ _ rfl (ho.alloc _) ⟨w.heap.size, 0, none⟩ 1 1 [.int .u8 c.toNat] rfl rfl ?c1 ?c2 ?c3 ?c4 ?c5 ?_)
  case c1 =>
    intro j u hj
    match j, hj with
    | 0, hj => simp at hj; subst hj; simp [Addr.add]
  case c2 => intro u hu; simp at hu; subst hu; rfl
  case c3 => unfold maxLen; omega
  case c4 => omega
  case c5 => simp; omega
  intro v' w1 ho1 hg1 _
  go_wp2_with fail
  go_ret
  exact ⟨v', rfl, own_bytes (t := [c]) ho1, ((Keeps.refl _ w).alloc _).grown hg1 fun k e => .inl (by simp [e])⟩

/-- What is put of a text's first bytes. -/
def putTo (s : ByteArray) (k : Nat) : List UInt8 := putL (s.data.toList.take k)

theorem putTo_zero (s : ByteArray) : putTo s 0 = [] := by simp [putTo, putL]

theorem putTo_succ (s : ByteArray) (k : Nat) (hk : k < s.size) : putTo s (k + 1) = putTo s k ++ putB s[k] := by
  have hl : k < s.data.toList.length := by simpa using hk
  unfold putTo
  rw [List.take_succ_eq_append_getElem hl, putL_append]
  simp [putL]
  rfl

theorem putTo_len (s : ByteArray) (k : Nat) : (putTo s k).length ≤ 6 * k := by
  have h1 := putL_le (s.data.toList.take k)
  have h2 := List.length_take_le k s.data.toList
  unfold putTo
  omega

theorem putTo_all (s : ByteArray) : putTo s s.size = putL s.data.toList := by
  unfold putTo
  rw [List.take_of_length_le (by exact Nat.le_of_eq Array.length_toList)]

set_option maxRecDepth 100000 in
set_option maxHeartbeats 1000000 in
theorem put_any (s : ByteArray) (w : World) (hm : s.size ≤ maxLen) :
    Calls Tryz.prog 32 #[.string s] w fun e w' => e = two (putAns s.data.toList) ∧ Keeps [] w w' := by
  unfold maxLen at hm
  unfold putAns
  rw [len_size]
  by_cases h : 3000 < s.size
  · rw [if_pos h]
    go_enter Tryz.func32, Tryz.ntmps32
    go_wp2_with fail
    go_ret2
    exact ⟨rfl, Keeps.refl _ _⟩
  · rw [if_neg h, ← putTo_all]
    obtain ⟨i0, hi, hz0, hz1, hz2⟩ := info_parts Tryz.info5
    go_enter Tryz.func32, Tryz.ntmps32
    go_wp2_with (at_make; refine wpList_make_own _ rfl _ _ 107 rfl w.heap.size 5 i0 (.int .u8 0) 1 Tryz.underlying107 hi hz0 hz1 .i64 .i64 _ s.size rfl rfl rfl (by rw [hz2]; omega) (by unfold maxLen; omega) (Nat.le_refl _) ?_; intro w2 ho2 hg2)
    have hk2 : Keeps [] w w2 := (Keeps.refl [] w).grown hg2 (by simp)
    go_loopw [4, 5] (fun v i wr => ∃ k : Nat, k ≤ s.size ∧ i = .int .i64 k ∧ wr.ownsRow w.heap.size 5 1 v (putTo s k).length (Lib.byteCells (putTo s k)) ∧ Keeps [] w wr) (fun _ i _ => s.size - (intOf i).toNat)
    case atStart => exact ⟨0, Nat.zero_le _, rfl, by rw [putTo_zero]; exact ho2, hk2⟩
    case round =>
      obtain ⟨k, hk, rfl, ho, hkp⟩ := hrel
      clear ho2 hk2 hg2
      have hlen := putTo_len s k
      by_cases hlt : k < s.size
      · have HS := hide (putTo_succ s k hlt)
        go_wp2_with fail
        refine (putByte_any s[k] _ w.heap.size _ _ (by exact ho) (by omega) (by exact hkp.size)).mono ?_
        rintro e w3 ⟨v3, rfl, ho3, hk3⟩
        rw [← HS.out] at ho3
        have hk3' : Keeps [] w w3 := keeps_row_new (hkp.up.trans hk3) fun g hg => (ho.lt g hg).1
        go_wp2_with fail
        go_roundw
        case rel => exact ⟨k + 1, by omega, by go_num, ho3, hk3'⟩
        case measure => simp [intOf]; omega
      · have hcv := own_string ho 0
        rw [show wr.drewN 0 = wr from rfl] at hcv
        have he : k = s.size := by omega
        subst he
        go_wp2_with fail
        go_ret2
        exact ⟨rfl, hkp⟩
end Go.Proofs.YtlcljanibjdejaaGreat

namespace Go.Proofs.YtlcljanibjdejaaGreat

def smallB (c : UInt8) : Bool := decide (97 ≤ c.toNat) && decide (c.toNat ≤ 122)
def bigB (c : UInt8) : Bool := decide (65 ≤ c.toNat) && decide (c.toNat ≤ 90)
def letterB (c : UInt8) : Bool := smallB c || bigB c
def digB (c : UInt8) : Bool := decide (48 ≤ c.toNat) && decide (c.toNat ≤ 57)
def whiteB (c : UInt8) : Bool := c == 9 || c == 10 || c == 12 || c == 13 || c == 32
def lowB (c : UInt8) : UInt8 := if bigB c then c + 32 else c
def lowerL (l : List UInt8) : List UInt8 := l.map lowB
def nameB (c : UInt8) : Bool := smallB c || digB c || c == 45
def isNameL (l : List UInt8) : Bool := decide (1 ≤ l.length) && decide (l.length ≤ 20) && smallB (l.getD 0 0) && l.all nameB

def tagN (c : UInt8) : Bool := !whiteB c && c != 47 && c != 62
def attrN (c : UInt8) : Bool := !whiteB c && c != 47 && c != 62 && c != 61
def valN (c : UInt8) : Bool := !whiteB c && c != 62
def skipB (c : UInt8) : Bool := whiteB c || c == 47
def noLt (c : UInt8) : Bool := c != 60
end Go.Proofs.YtlcljanibjdejaaGreat
