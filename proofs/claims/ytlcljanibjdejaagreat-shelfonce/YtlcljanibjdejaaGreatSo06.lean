/- WriteString, with what it leaves as it was: all but the builder and rows of bytes from B on. Names of elements that close others; innermost, closedBy. -/
import Derived.Test.YtlcljanibjdejaaGreatSo05
namespace Go.Proofs.YtlcljanibjdejaaGreat
open Go.RowKit Go.Maps
structure KeepsB (B b : Nat) (w w' : World) : Prop where
  os : w'.os = w.os
  tape : w'.tape = w.tape
  output : w'.output = w.output
  size : w.heap.size ≤ w'.heap.size
  block : ∀ k, k < w.heap.size → k ≠ b → (k < B ∨ ∀ cs f, w.heap[k]? ≠ some (.cells cs 5 f)) → w'.heap[k]? = w.heap[k]?
theorem KeepsB.refl (B b : Nat) (w : World) : KeepsB B b w w := ⟨rfl, rfl, rfl, Nat.le_refl _, fun _ _ _ _ => rfl⟩
theorem KeepsB.trans {B b : Nat} {x y z : World} (h : KeepsB B b x y) (k : KeepsB B b y z) : KeepsB B b x z :=
  ⟨k.os.trans h.os, k.tape.trans h.tape, k.output.trans h.output, Nat.le_trans h.size k.size, fun i hi hb hc =>
    (k.block i (Nat.lt_of_lt_of_le hi h.size) hb (by rw [h.block i hi hb hc]; exact hc)).trans (h.block i hi hb hc)⟩
theorem KeepsB.of {B b : Nat} {w w' : World} (h : Keeps [] w w') : KeepsB B b w w' := ⟨h.os, h.tape, h.output, h.size, fun k hk _ _ => h.block k hk List.not_mem_nil⟩
theorem KeepsB.nil {B b : Nat} {w0 w w' : World} (h0 : Keeps [] w0 w) (h : KeepsB B b w w') (hB : w0.heap.size ≤ B) (hb : B ≤ b) : Keeps [] w0 w' :=
  ⟨h.os.trans h0.os, h.tape.trans h0.tape, h.output.trans h0.output, Nat.le_trans h0.size h.size, fun k hk _ => (h.block k (Nat.lt_of_lt_of_le hk h0.size) (by omega) (.inl (by omega))).trans (h0.block k hk List.not_mem_nil)⟩
theorem KeepsB.tok {B b : Nat} {w w' : World} {g : Nat} {p : Tok × Value} (h : KeepsB B b w w') (ht : IsTok w g p) (hg : g ≠ b) : IsTok w' g p := by
  rw [IsTok, h.block g ht.lt hg (.inr (fun cs f e => by rw [show w.heap[g]? = _ from ht] at e; simp at e))]; exact ht
theorem KeepsB.pair {B b : Nat} {w w' : World} {g : Nat} {x y : ByteArray} (h : KeepsB B b w w') (ht : IsPair w g x y) (hg : g ≠ b) : IsPair w' g x y := by
  rw [IsPair, h.block g ht.lt hg (.inr (fun cs f e => by rw [show w.heap[g]? = _ from ht] at e; simp at e))]; exact ht
theorem KeepsB.set {B b : Nat} {w w' : World} (h : KeepsB B b w w') (j : Nat) (u : Value) : KeepsB B b w (w'.setCell ⟨b, j, none⟩ u) :=
  ⟨h.os, h.tape, h.output, Nat.le_trans h.size (by simp [World.setCell]), fun k hk hb hc => by rw [Below.heap_setCell _ _ _ _ hb]; exact h.block k hk hb hc⟩
theorem copyCheck_keeps (B b : Nat) (bs : List Value) (w : World) (h : Lib.IsBuilder 134 5 B b bs w) :
    Calls Tryz.prog 214 #[.pointer (some ⟨b, 0, none⟩)] w fun e w' => e = .returned (.tuple #[]) ∧ (Lib.BuilderAt 134 5 B b (.pointer (some ⟨b, 0, none⟩)) bs w' ∧ KeepsB B b w w') := by
  rcases h with h | h
  · refine (copyCheck_fresh b w h.cell0 h.shape h.frozen0).mono ?_
    rintro e w' ⟨rfl, rfl⟩
    exact ⟨rfl, h.used _, (KeepsB.refl B b w).set 0 _⟩
  · refine (copyCheck_used b w h.cell0).mono ?_
    rintro e w' ⟨rfl, rfl⟩
    exact ⟨rfl, h, KeepsB.refl _ _ _⟩
set_option maxHeartbeats 2000000 in
set_option maxRecDepth 100000 in
theorem write_str' (B b : Nat) (bs : List Value) (s : ByteArray) (w : World) (h : Lib.IsBuilder 134 5 B b bs w) (hlen : bs.length + s.size ≤ 140737488355328) (hBw : B ≤ w.heap.size) :
    Calls Tryz.prog 144 #[.pointer (some ⟨b, 0, none⟩), .string s] w fun e w' => e = .returned (.tuple #[.int .i64 s.size, .nilIface]) ∧ (Lib.BuilderAt 134 5 B b (.pointer (some ⟨b, 0, none⟩)) (bs ++ Lib.strCells s) w' ∧ KeepsB B b w w') := by
  obtain ⟨i0, hi, hz0, hz1, hz2⟩ := info_parts Tryz.info5
  go_enter Tryz.func144, Tryz.ntmps144
  go_wp2_with fail
  refine (copyCheck_keeps B b bs _ h).mono ?_
  rintro e w1 ⟨rfl, h1, hb1⟩
  obtain ⟨hB, v, hbk, hown, hne⟩ := h1
  have c0 : w1.cell? ⟨b, 0, none⟩ = some (.pointer (some ⟨b, 0, none⟩)) := by rw [Lib.cell_of_heap hbk]; rfl
  have c1 : w1.cell? ⟨b, 1, none⟩ = some v := by rw [Lib.cell_of_heap hbk]; rfl
  go_wp2_with (at_builtin; refine Lib.wpList_append_own_string _ rfl _ _ 107 9 rfl B 5 i0 Tryz.underlying107 Tryz.underlying9 hi hz0 hz1 hz2 _ _ _ rfl hown s rfl ?c3 ?c4 ?c5 ?_)
  case c3 => unfold maxLen; omega
  case c4 => omega
  case c5 => have := hb1.size; omega
  intro v' w2 hown' hgrow _
  have hlt : b < w1.heap.size := lt_of_block hbk
  have hb2 : w2.heap[b]? = some (.cells #[.pointer (some ⟨b, 0, none⟩), v] 134 (0, 0)) := by
    rw [hgrow.block b hlt (fun e => hne e.symm)]
    exact hbk
  have d0 : w2.cell? ⟨b, 0, none⟩ = some (.pointer (some ⟨b, 0, none⟩)) := by rw [Lib.cell_of_heap hb2]; rfl
  have d1 : w2.cell? ⟨b, 1, none⟩ = some v := by rw [Lib.cell_of_heap hb2]; rfl
  have f1 : w2.frozen? ⟨b, 1, none⟩ = false := Lib.frozen_of_heap hb2 1
  have hk2 : KeepsB B b w1 w2 := ⟨hgrow.os, hgrow.tape, hgrow.output, hgrow.size, fun k hk _ hc => hgrow.block k hk (fun e => by
    have hv := e.symm
    rcases hc with hc | hc
    · have := (hown.lt k hv).1; omega
    · rcases hown.2 with ⟨rfl, _⟩ | ⟨g, cap, cur, rfl, _, hg, _⟩
      · simp [Value.ownBlock] at hv
      · simp only [Value.ownBlock, Option.some.injEq] at hv
        rw [hv] at hg
        exact hc _ _ hg)⟩
  obtain ⟨ao, cap, rfl⟩ := row_form hown'
  go_wp2
  go_ret2
  refine ⟨rfl, ?_, (hb1.trans hk2).set 1 _⟩
  exact Lib.BuilderAt.put (T := 134) (e := 5) hB hb2 (bs' := bs ++ Lib.strCells s) (by simpa [Lib.strCells_length] using hown') (by decide)
theorem write_all (B b : Nat) (l t : List UInt8) (w : World) (h : IsBld B b l w) (hlen : l.length + t.length ≤ 1000000000) (hBw : B ≤ w.heap.size) :
    Calls Tryz.prog 144 #[.pointer (some ⟨b, 0, none⟩), .string ⟨t.toArray⟩] w fun e w' => e = .returned (.tuple #[.int .i64 t.length, .nilIface]) ∧ IsBld B b (l ++ t) w' ∧ KeepsB B b w w' := by
  refine (write_str' B b _ ⟨t.toArray⟩ w h (by rw [Lib.byteCells_length, str_size]; omega) hBw).mono ?_
  rintro e w' ⟨rfl, h1, h2⟩
  refine ⟨rfl, .inr ?_, h2⟩
  have e2 : Lib.byteCells (l ++ t) = Lib.byteCells l ++ Lib.strCells ⟨t.toArray⟩ := by simp [Lib.byteCells, Lib.strCells]
  rw [e2]
  exact h1
end Go.Proofs.YtlcljanibjdejaaGreat
namespace Go.Proofs.YtlcljanibjdejaaGreat
open Go.RowKit Go.Maps
def emptyN (n : List UInt8) : Bool := (n == [98, 114]) || (n == [104, 114]) || (n == [105, 109, 103])
def listN (n : List UInt8) : Bool := (n == [117, 108]) || (n == [111, 108])
def wallN (n : List UInt8) : Bool := listN n || (n == [108, 105]) || (n == [98, 108, 111, 99, 107, 113, 117, 111, 116, 101])
def blockN (n : List UInt8) : Bool := wallN n || (n == [112]) || (n == [104, 114])
theorem nameEq (L l : List UInt8) : ((⟨L.toArray⟩ : ByteArray).toList == l) = (L == l) := by rw [ByteArray.toList_eq]
set_option maxHeartbeats 1000000 in
theorem isEmpty_any (n : List UInt8) (w : World) : Calls Tryz.prog 166 #[.string ⟨n.toArray⟩] w fun e w' => e = .returned (.bool (emptyN n)) ∧ w' = w := by
  unfold emptyN
  cases h1 : (n == [98, 114]) <;> cases h2 : (n == [104, 114]) <;> cases h3 : (n == [105, 109, 103])
  all_goals
    have p1 := (nameEq n _).trans h1
    have p2 := (nameEq n _).trans h2
    have p3 := (nameEq n _).trans h3
    go_enter Tryz.func166, Tryz.ntmps166
    go_wp2_with fail
    go_ret
    exact ⟨rfl, rfl⟩
set_option maxHeartbeats 1000000 in
theorem isList_any (n : List UInt8) (w : World) : Calls Tryz.prog 241 #[.string ⟨n.toArray⟩] w fun e w' => e = .returned (.bool (listN n)) ∧ w' = w := by
  unfold listN
  cases h1 : (n == [117, 108]) <;> cases h2 : (n == [111, 108])
  all_goals
    have p1 := (nameEq n _).trans h1
    have p2 := (nameEq n _).trans h2
    go_enter Tryz.func241, Tryz.ntmps241
    go_wp2_with fail
    go_ret
    exact ⟨rfl, rfl⟩
set_option maxHeartbeats 1000000 in
theorem isWall_any (n : List UInt8) (w : World) : Calls Tryz.prog 239 #[.string ⟨n.toArray⟩] w fun e w' => e = .returned (.bool (wallN n)) ∧ w' = w := by
  have hc := hide (fun w => isList_any n w)
  unfold wallN
  generalize listN n = b at *
  cases b <;> cases h2 : (n == [108, 105]) <;> cases h3 : (n == [98, 108, 111, 99, 107, 113, 117, 111, 116, 101])
  all_goals
    have p2 := (nameEq n _).trans h2
    have p3 := (nameEq n _).trans h3
    go_enter Tryz.func239, Tryz.ntmps239
    go_wp2_with (go_at_call 241; refine (hc.out _).mono ?_; rintro e w' ⟨rfl, rfl⟩)
    go_ret
    exact ⟨rfl, rfl⟩
set_option maxHeartbeats 1000000 in
theorem isBlock_any (n : List UInt8) (w : World) : Calls Tryz.prog 237 #[.string ⟨n.toArray⟩] w fun e w' => e = .returned (.bool (blockN n)) ∧ w' = w := by
  have hc := hide (fun w => isWall_any n w)
  unfold blockN
  generalize wallN n = b at *
  cases b <;> cases h2 : (n == [112]) <;> cases h3 : (n == [104, 114])
  all_goals
    have p2 := (nameEq n _).trans h2
    have p3 := (nameEq n _).trans h3
    go_enter Tryz.func237, Tryz.ntmps237
    go_wp2_with (go_at_call 239; refine (hc.out _).mono ?_; rintro e w' ⟨rfl, rfl⟩)
    go_ret
    exact ⟨rfl, rfl⟩
theorem isP_any (n : List UInt8) (w : World) : Calls Tryz.prog 238 #[.string ⟨n.toArray⟩] w fun e w' => e = .returned (.bool (n == [112])) ∧ w' = w := by
  cases h1 : (n == [112])
  all_goals
    have p1 := (nameEq n _).trans h1
    go_enter Tryz.func238, Tryz.ntmps238
    go_wp2_with fail
    go_ret
    exact ⟨rfl, rfl⟩
theorem isLi_any (n : List UInt8) (w : World) : Calls Tryz.prog 240 #[.string ⟨n.toArray⟩] w fun e w' => e = .returned (.bool (n == [108, 105])) ∧ w' = w := by
  cases h1 : (n == [108, 105])
  all_goals
    have p1 := (nameEq n _).trans h1
    go_enter Tryz.func240, Tryz.ntmps240
    go_wp2_with fail
    go_ret
    exact ⟨rfl, rfl⟩
theorem never_any (n : List UInt8) (w : World) : Calls Tryz.prog 170 #[.string ⟨n.toArray⟩] w fun e w' => e = .returned (.bool false) ∧ w' = w := by
  go_enter Tryz.func170, Tryz.ntmps170
  go_wp2_with fail
  go_ret
  exact ⟨rfl, rfl⟩
theorem isName1_any (n m : List UInt8) (b : Nat) (w : World) (hc : w.cell? ⟨b, 0, none⟩ = some (.string ⟨m.toArray⟩)) :
    Calls Tryz.prog 169 #[.string ⟨n.toArray⟩, .pointer (some ⟨b, 0, none⟩)] w fun e w' => e = .returned (.bool (n == m)) ∧ w' = w := by
  have p0 : ((⟨n.toArray⟩ : ByteArray).toList == (⟨m.toArray⟩ : ByteArray).toList) = (n == m) := by rw [ByteArray.toList_eq, ByteArray.toList_eq]
  cases h1 : (n == m)
  all_goals
    have p1 := p0.trans h1
    clear p0
    go_enter Tryz.func169, Tryz.ntmps169
    go_wp2_with fail
    go_ret
    exact ⟨rfl, rfl⟩
/-- Nodes whose names are these lie in a row. -/
def Named (w : World) (v : Value) (ns : List (List UInt8)) : Prop :=
  ∃ a c, v = .slice a ns.length c ∧ ns.length ≤ c ∧ c ≤ maxLen ∧ ∀ i (h : i < ns.length), ∃ g x, a = some ⟨g, x, none⟩ ∧ w.cell? ⟨g, x + i * 4, none⟩ = some (.string ⟨ns[i].toArray⟩)
/-- The place of the innermost one that is looked for, of the first i ones. -/
def innerTo (is hides : List UInt8 → Bool) (ns : List (List UInt8)) : Nat → Nat
  | 0 => ns.length
  | i + 1 => if is (ns.getD i []) = true then i else if hides (ns.getD i []) = true then ns.length else innerTo is hides ns i
def innerL (is hides : List UInt8 → Bool) (ns : List (List UInt8)) : Nat := innerTo is hides ns ns.length
theorem innerTo_le (is hides : List UInt8 → Bool) (ns : List (List UInt8)) : ∀ i, i ≤ ns.length → innerTo is hides ns i ≤ ns.length
  | 0, _ => Nat.le_refl _
  | i + 1, h => by
    unfold innerTo
    split
    · omega
    · split
      · exact Nat.le_refl _
      · exact innerTo_le is hides ns i (by omega)
set_option maxRecDepth 4000 in
set_option maxHeartbeats 4000000 in
theorem innermost_any (K1 K2 : Nat) (caps1 caps2 : Array Value) (is hides : List UInt8 → Bool) (w : World) (v : Value) (ns : List (List UInt8)) (h : Named w v ns) (hK1 : Enters K1) (hK2 : Enters K2)
    (h1 : ∀ n : List UInt8, Calls Tryz.prog K1 (#[.string ⟨n.toArray⟩] ++ caps1) w fun e w' => e = .returned (.bool (is n)) ∧ w' = w)
    (h2 : ∀ n : List UInt8, Calls Tryz.prog K2 (#[.string ⟨n.toArray⟩] ++ caps2) w fun e w' => e = .returned (.bool (hides n)) ∧ w' = w) :
    Calls Tryz.prog 168 #[v, .func (.func K1) #[] caps1, .func (.func K2) #[] caps2] w fun e w' => e = .returned (.int .i64 (innerL is hides ns)) ∧ w' = w := by
  obtain ⟨a, c, rfl, hc1, hc2, hcell⟩ := h
  unfold maxLen at hc2
  unfold Enters at hK1 hK2
  obtain ⟨R, hR⟩ : ∃ R, innerL is hides ns = R := ⟨_, rfl⟩
  rw [hR]
  have HR := hide hR
  clear hR
  have H1 := hide h1
  have H2 := hide h2
  have HC := hide hcell
  clear h1 h2 hcell
  go_enter Tryz.func168, Tryz.ntmps168
  go_wp2_with fail
  go_loopw [7] (fun i wr => ∃ k : Nat, k ≤ ns.length ∧ i = .int .i64 ((k : Int) - 1) ∧ w = wr ∧ Hid (innerTo is hides ns k = R)) (fun i _ => (intOf i + 1).toNat)
  case atStart => exact ⟨ns.length, Nat.le_refl _, rfl, rfl, HR⟩
  case round =>
    obtain ⟨k, hk, rfl, rfl, hH⟩ := hrel
    clear HR
    cases k with
    | zero =>
      have hRe : R = ns.length := hH.out.symm
      subst hRe
      clear hH
      go_wp2_with fail
      go_ret
      exact ⟨rfl, rfl⟩
    | succ i =>
      obtain ⟨g, x, rfl, hx⟩ := HC.out i (by omega)
      have hge : decide ((0 : Int) ≤ (i : Int)) = true := by simp
      have e1 : ((i + 1 : Nat) : Int) - 1 = i := by omega
      rw [e1]
      have hS := hH.out
      unfold innerTo at hS
      have hg : ns.getD i [] = ns[i] := by simp [List.getD, List.getElem?_eq_getElem (show i < ns.length by omega)]
      rw [hg] at hS
      have HS := hide hS
      have C1 := hide (H1.out ns[i])
      have C2 := hide (H2.out ns[i])
      clear hS hH hg e1
      generalize ns[i] = n at *
      cases hi : is n
      · rw [hi] at C1 HS
        cases hh : hides n
        · rw [hh] at C2 HS
          have HS2 : Hid (innerTo is hides ns i = R) := by have := HS.out; rw [Hid]; simpa using this
          clear HS hi hh
          go_wp2_with fail
          refine C1.out.mono ?_
          rintro e w1 ⟨rfl, rfl⟩
          go_wp2_with fail
          refine C2.out.mono ?_
          rintro e w2 ⟨rfl, rfl⟩
          go_wp2_with fail
          go_roundw
          case rel => exact ⟨i, by omega, by go_num, by first | rfl | trivial, HS2⟩
          case measure => simp [intOf]
        · rw [hh] at C2 HS
          have hRe : R = ns.length := by have := HS.out; simpa using this.symm
          subst hRe
          clear HS hi hh
          go_wp2_with fail
          refine C1.out.mono ?_
          rintro e w1 ⟨rfl, rfl⟩
          go_wp2_with fail
          refine C2.out.mono ?_
          rintro e w2 ⟨rfl, rfl⟩
          go_wp2_with fail
          go_ret
          exact ⟨rfl, rfl⟩
      · rw [hi] at C1 HS
        have hRe : R = i := by have := HS.out; simpa using this.symm
        subst hRe
        clear HS hi
        go_wp2_with fail
        refine C1.out.mono ?_
        rintro e w1 ⟨rfl, rfl⟩
        go_wp2_with fail
        go_ret
        exact ⟨rfl, rfl⟩
theorem enters238 : Enters 238 := enters_of Tryz.func238 (by kernel_rfl) (by kernel_rfl)
theorem enters239 : Enters 239 := enters_of Tryz.func239 (by kernel_rfl) (by kernel_rfl)
theorem enters240 : Enters 240 := enters_of Tryz.func240 (by kernel_rfl) (by kernel_rfl)
theorem enters241 : Enters 241 := enters_of Tryz.func241 (by kernel_rfl) (by kernel_rfl)
theorem enters169 : Enters 169 := enters_of Tryz.func169 (by kernel_rfl) (by kernel_rfl)
theorem enters170 : Enters 170 := enters_of Tryz.func170 (by kernel_rfl) (by kernel_rfl)
theorem Named.take {w : World} {a : Option Addr} {n c : Nat} {ns : List (List UInt8)} (h : Named w (.slice a n c) ns) {m : Nat} (hm : m ≤ ns.length) : Named w (.slice a m c) (ns.take m) := by
  obtain ⟨a', c', he, h1, h2, h3⟩ := h
  simp only [Value.slice.injEq] at he
  obtain ⟨rfl, rfl, rfl⟩ := he
  refine ⟨a, c, by rw [List.length_take, Nat.min_eq_left hm], by rw [List.length_take]; omega, h2, fun i hi => ?_⟩
  rw [List.length_take] at hi
  obtain ⟨g, x, e, hx⟩ := h3 i (by omega)
  exact ⟨g, x, e, by rw [List.getElem_take]; exact hx⟩
/-- Where an element of this name closes others from. -/
def closedL (ns : List (List UInt8)) (n : List UInt8) : Nat :=
  if n = [108, 105] then innerL (· == [108, 105]) listN (ns.take (if blockN n = true then innerL (· == [112]) wallN ns else ns.length))
  else if blockN n = true then innerL (· == [112]) wallN ns else ns.length
set_option maxRecDepth 4000 in
set_option maxHeartbeats 4000000 in
theorem closedBy_any (w : World) (v : Value) (ns : List (List UInt8)) (n : List UInt8) (h : Named w v ns) :
    Calls Tryz.prog 163 #[v, .string ⟨n.toArray⟩] w fun e w' => e = .returned (.int .i64 (closedL ns n)) ∧ w' = w := by
  have hb := hide (fun w => isBlock_any n w)
  have hp := hide (innermost_any 238 239 #[] #[] (· == [112]) wallN w v ns h enters238 enters239 (fun n => isP_any n w) (fun n => isWall_any n w))
  have hle : innerL (· == [112]) wallN ns ≤ ns.length := innerTo_le _ _ _ _ (Nat.le_refl _)
  obtain ⟨F, hF⟩ : ∃ F, (if blockN n = true then innerL (· == [112]) wallN ns else ns.length) = F := ⟨_, rfl⟩
  have hFl : F ≤ ns.length := by rw [← hF]; split <;> omega
  obtain ⟨a, c, rfl, hc1, hc2, hcell⟩ := id h
  have hl := hide (innermost_any 240 241 #[] #[] (· == [108, 105]) listN w (.slice a F c) (ns.take F) (h.take hFl) enters240 enters241 (fun n => isLi_any n w) (fun n => isList_any n w))
  unfold closedL
  rw [hF]
  have hbl : n = [108, 105] → blockN n = true := fun e => by subst e; rfl
  unfold maxLen at hc2
  have HF := hide hF
  clear hF hcell h
  generalize innerL (· == [108, 105]) listN (ns.take F) = L at *
  generalize innerL (· == [112]) wallN ns = Q at *
  cases hbk : blockN n
  · have hne : n ≠ [108, 105] := fun e => by have := hbl e; rw [hbk] at this; simp at this
    have e1 : (n == [108, 105]) = false := by simpa using hne
    have e2 := (nameEq n _).trans e1
    rw [hbk] at hb
    rw [if_neg hne]
    have hFn : F = ns.length := by rw [← HF.out, hbk]; simp
    subst hFn
    clear hbk hbl HF hl hp hne hFl
    go_enter Tryz.func163, Tryz.ntmps163
    go_wp2_with fail
    refine (hb.out _).mono ?_
    rintro e w1 ⟨rfl, rfl⟩
    go_wp2_with fail
    go_ret
    exact ⟨rfl, rfl⟩
  · rw [hbk] at hb
    have hFQ : F = Q := by rw [← HF.out, hbk]; simp
    subst hFQ
    by_cases hli : n = [108, 105]
    · have e1 : (n == [108, 105]) = true := by simpa using hli
      have e2 := (nameEq n _).trans e1
      rw [if_pos hli]
      clear hbk hbl HF hli
      go_enter Tryz.func163, Tryz.ntmps163
      go_wp2_with fail
      refine (hb.out _).mono ?_
      rintro e w1 ⟨rfl, h1⟩
      obtain rfl : w = w1 := h1.symm
      go_wp2_with fail
      refine hp.out.mono ?_
      rintro e w1 ⟨rfl, h1⟩
      obtain rfl : w = w1 := h1.symm
      go_wp2_with fail
      refine hl.out.mono ?_
      rintro e w1 ⟨rfl, h1⟩
      obtain rfl : w = w1 := h1.symm
      go_wp2_with fail
      go_ret
      exact ⟨rfl, rfl⟩
    · have e1 : (n == [108, 105]) = false := by simpa using hli
      have e2 := (nameEq n _).trans e1
      rw [if_neg hli]
      clear hbk hbl HF hli hl
      go_enter Tryz.func163, Tryz.ntmps163
      go_wp2_with fail
      refine (hb.out _).mono ?_
      rintro e w1 ⟨rfl, h1⟩
      obtain rfl : w = w1 := h1.symm
      go_wp2_with fail
      refine hp.out.mono ?_
      rintro e w1 ⟨rfl, h1⟩
      obtain rfl : w = w1 := h1.symm
      go_wp2_with fail
      go_ret
      exact ⟨rfl, rfl⟩
end Go.Proofs.YtlcljanibjdejaaGreat
