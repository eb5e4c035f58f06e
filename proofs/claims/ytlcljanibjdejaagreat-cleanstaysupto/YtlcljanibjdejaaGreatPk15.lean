/- Split. printText, of a text that is no longer than one that is read. Join: joined. Join. The last / of a path, and its first part. -/
import Derived.Test.YtlcljanibjdejaaGreatPk14
import Derived.Test.YtlcljanibjdejaaGreatPk13
import Derived.Laws.StructEq
import Derived.Lib.IndexLaws
namespace Go.Proofs.YtlcljanibjdejaaGreat
open Go.RowKit

theorem end6 {tmps : Array Value} {W w : World} {r : Nat} {u A : UrlT} {e : Int} (hp : tmps.getD 2 undef = .pointer (some ⟨r, 0, none⟩)) (he : tmps.getD 3 undef = .int .i64 e) (hU : IsUrl W r u) (hA : A = u) (hk : Keeps [] w W) :
    bodyPost Tryz.prog Tryz.f71 (fun x w' => x = .returned (.tuple #[urlV A, .int .i64 e]) ∧ Keeps [] w w') Exit.ret { tmps := tmps, defers := [] } W := by
  subst hA
  refine ⟨rfl, .tuple #[urlV A, .int .i64 e], ?_, rfl, hk⟩
  have hp' : tmps[2]?.getD undef = .pointer (some ⟨r, 0, none⟩) := by simpa using hp
  have he' : tmps[3]?.getD undef = .int .i64 e := by simpa using he
  rw [results_cell_tmp (p := 2) (u := 3) (ty := 99) rfl]
  simp [asAddr, hp', he', load23 hU, Result.andThen]

theorem split_long (s : ByteArray) (w : World) (hm : s.size ≤ maxLen) (h : 3000 < s.size) :
    Calls Tryz.prog 71 #[.string s] w fun e w' => e = .returned (.tuple #[urlV noUrl, .int .i64 2]) ∧ Keeps [] w w' := by
  unfold maxLen at hm
  have hka : Keeps [] w (w.alloc (.cells #[.string ⟨#[]⟩, .string ⟨#[]⟩, .string ⟨#[]⟩, .string ⟨#[]⟩, .string ⟨#[]⟩, .bool false, .bool false, .bool false, .bool false] 99)) := (Keeps.refl [] w).alloc _
  have hR : IsUrl (w.alloc (.cells #[.string ⟨#[]⟩, .string ⟨#[]⟩, .string ⟨#[]⟩, .string ⟨#[]⟩, .string ⟨#[]⟩, .bool false, .bool false, .bool false, .bool false] 99)) w.heap.size noUrl := heap_alloc_new _ _
  have hgt : decide ((3000 : Int) < (s.size : Int)) = true := by simp; omega
  have HR := hide hR
  go_enter Tryz.func71, Tryz.ntmps71
  go_wp2_with fail
  exact end6 rfl rfl HR.out rfl hka

set_option maxHeartbeats 1000000 in
theorem split_short (s : ByteArray) (w : World) (h : ¬ 3000 < s.size) (hM : HasMax w) :
    Calls Tryz.prog 71 #[.string s] w fun e w' => e = .returned (.tuple #[urlV (splitL s.data.toList), .int .i64 0]) ∧ Keeps [] w w' := by
  have hka : Keeps [] w (w.alloc (.cells #[.string ⟨#[]⟩, .string ⟨#[]⟩, .string ⟨#[]⟩, .string ⟨#[]⟩, .string ⟨#[]⟩, .bool false, .bool false, .bool false, .bool false] 99)) := (Keeps.refl [] w).alloc _
  have hR : IsUrl (w.alloc (.cells #[.string ⟨#[]⟩, .string ⟨#[]⟩, .string ⟨#[]⟩, .string ⟨#[]⟩, .string ⟨#[]⟩, .bool false, .bool false, .bool false, .bool false] 99)) w.heap.size noUrl := heap_alloc_new _ _
  have hM' := hM.keeps hka (by simp)
  have hgt : decide ((3000 : Int) < (s.size : Int)) = false := by simp; omega
  have hsp := hide (split_any s _ (by omega) hM')
  generalize splitL s.data.toList = A at *
  go_enter Tryz.func71, Tryz.ntmps71
  go_wp2_with fail
  refine hsp.out.mono ?_
  rintro e w1 ⟨rfl, hk1⟩
  have hR1 := hR.keeps hk1 (by simp)
  have hk2 := hka.trans hk1
  unfold urlV urlCells
  have r0 : w1.cell? ⟨w.heap.size, 0, none⟩ = some (.string ⟨([] : List UInt8).toArray⟩) := hR1.cell 0
  have r1 : w1.cell? ⟨w.heap.size, 1, none⟩ = some (.string ⟨([] : List UInt8).toArray⟩) := hR1.cell 1
  have r2 : w1.cell? ⟨w.heap.size, 2, none⟩ = some (.string ⟨([] : List UInt8).toArray⟩) := hR1.cell 2
  have r3 : w1.cell? ⟨w.heap.size, 3, none⟩ = some (.string ⟨([] : List UInt8).toArray⟩) := hR1.cell 3
  have r4 : w1.cell? ⟨w.heap.size, 4, none⟩ = some (.string ⟨([] : List UInt8).toArray⟩) := hR1.cell 4
  have r5 : w1.cell? ⟨w.heap.size, 5, none⟩ = some (.bool false) := hR1.cell 5
  have r6 : w1.cell? ⟨w.heap.size, 6, none⟩ = some (.bool false) := hR1.cell 6
  have r7 : w1.cell? ⟨w.heap.size, 7, none⟩ = some (.bool false) := hR1.cell 7
  have r8 : w1.cell? ⟨w.heap.size, 8, none⟩ = some (.bool false) := hR1.cell 8
  have z0 := hR1.free 0
  have z1 := hR1.free 1
  have z2 := hR1.free 2
  have z3 := hR1.free 3
  have z4 := hR1.free 4
  have z5 := hR1.free 5
  have z6 := hR1.free 6
  have z7 := hR1.free 7
  have z8 := hR1.free 8
  go_wp2_with fail
  exact end6 rfl rfl (((((((((hR1.set0 A.scheme).set1 A.authority).set2 A.path).set3 A.query).set4 A.fragment).set5 A.hs).set6 A.ha).set7 A.hq).set8 A.hf) rfl (keeps9 hk2 (Nat.le_refl _) _ _ _ _ _ _ _ _ _)
end Go.Proofs.YtlcljanibjdejaaGreat

namespace Go.Proofs.YtlcljanibjdejaaGreat
open Go.RowKit Go.Maps

theorem IsBld.keeps {B b : Nat} {l : List UInt8} {w w' : World} (h : IsBld B b l w) (hk : Keeps [] w w') : IsBld B b l w' := by
  rcases h with ⟨hB, v, hb, ho, hne⟩ | ⟨hB, v, hb, ho, hne⟩
  · exact .inl ⟨hB, v, by rw [hk.block b (lt_of_block hb) List.not_mem_nil]; exact hb, hk.owns ho (fun _ _ => List.not_mem_nil), hne⟩
  · exact .inr ⟨hB, v, by rw [hk.block b (lt_of_block hb) List.not_mem_nil]; exact hb, hk.owns ho (fun _ _ => List.not_mem_nil), hne⟩

set_option maxRecDepth 4000 in
set_option maxHeartbeats 2000000 in
theorem printText_any (B b : Nat) (l t : List UInt8) (w : World) (h : IsBld B b l w) (hBw : B ≤ w.heap.size) (ht : t.length ≤ 3000) (hl : l.length ≤ 100000000) :
    Calls Tryz.prog 142 #[.pointer (some ⟨b, 0, none⟩), .string ⟨t.toArray⟩] w fun e w' => e = .returned (.tuple #[]) ∧ IsBld B b (l ++ putL t) w' ∧ KeepsB B b w w' := by
  by_cases hne : t = []
  · subst hne
    have e0 : l ++ putL [] = l := by simp [putL]
    rw [e0]
    go_enter Tryz.func142, Tryz.ntmps142
    go_wp2_with fail
    go_loopg [1] 1 (fun g v wr => v = .string ⟨#[]⟩ ∧ wr = w)
    case atStart => exact ⟨rfl, rfl⟩
    case round =>
      obtain ⟨rfl, rfl⟩ := hrel
      go_wp2_with fail
      go_end0
      exact ⟨rfl, h, KeepsB.refl _ _ _⟩
  · obtain ⟨X, hX⟩ : ∃ X : ByteArray, X = ⟨t.toArray⟩ := ⟨_, rfl⟩
    have hsz : X.size = t.length := by rw [hX]; rfl
    have hpos : 0 < X.size := by rw [hsz]; exact List.length_pos_iff.2 hne
    have hput := hide (fun w => put_any X w (by unfold maxLen; omega))
    have hans : putAns X.data.toList = (putL t, 0) := by
      unfold putAns
      rw [hX, str_list, if_neg (by omega)]
    rw [hans] at hput
    have hpl := putL_le t
    have hwr := hide (fun (w : World) h hB => write_all B b l (putL t) w h (by omega) hB)
    generalize putL t = T at *
    rw [← hX]
    have h3 : X.size ≤ 3000 := by omega
    have hmin : min (X.size : Int) 3000 = X.size := by omega
    have hx0 : X.extract 0 X.size = X := by simp
    have hx1 : X.extract X.size X.size = ⟨#[]⟩ := by
      apply WideShapes.bytes_inj
      rw [Lib.extract_data]
      simp
    have hgt : decide ((0 : Int) < (X.size : Int)) = true := by simp; omega
    clear hX hans hsz hne ht
    go_enter Tryz.func142, Tryz.ntmps142
    go_wp2_with fail
    go_loopg [1] 2 (fun g v wr => (v = .string X ∧ wr = w ∧ g = 2) ∨ (v = .string ⟨#[]⟩ ∧ IsBld B b (l ++ T) wr ∧ KeepsB B b w wr))
    case atStart => exact .inl ⟨rfl, rfl, rfl⟩
    case round =>
      rcases hrel with ⟨rfl, rfl, rfl⟩ | ⟨rfl, h1, h2⟩
      · go_wp2_with fail
        refine (hput.out _).mono ?_
        rintro e w2 ⟨rfl, hk2⟩
        unfold two
        go_wp2_with fail
        refine (hwr.out _ (h.keeps hk2) (Nat.le_trans hBw hk2.size)).mono ?_
        rintro e w3 ⟨rfl, h3', hb3⟩
        have hb : KeepsB B b wr w3 := (KeepsB.of hk2).trans hb3
        go_wp2_with fail
        go_roundg 1
        case measure => omega
        case rel => exact .inr ⟨rfl, h3', hb⟩
      · go_wp2_with fail
        go_end0
        exact ⟨rfl, h1, h2⟩
end Go.Proofs.YtlcljanibjdejaaGreat

namespace Go.Proofs.YtlcljanibjdejaaGreat
open Go.RowKit

theorem enters218 : Enters 218 := enters_of Tryz.func218 (by kernel_rfl) (by kernel_rfl)

theorem bld_newU (w : World) : IsBld w.heap.size w.heap.size [] (w.alloc (.cells #[.pointer none, .slice none 0 0] 134)) :=
  .inl ⟨Nat.le_refl _, .slice none 0 0, heap_alloc_new _ _, ⟨rfl, .inl ⟨rfl, rfl⟩⟩, by simp [Value.ownBlock]⟩

theorem join2 (x y : List UInt8) : Lib.join [x, y] [] = x ++ y := by simp [Lib.join, List.intercalate]
theorem join1 (x : List UInt8) : Lib.join [x] [] = x := by simp [Lib.join]

/-- A part is put, of what is joined. -/
theorem put_anyU (has : Bool) (bk c : Nat) (xs : List ByteArray) (B b : Nat) (l F : List UInt8) (w : World) (hF : Lib.join (xs.map (·.data.toList)) [] = F) (hcells : ∀ (j : Nat) x, xs[j]? = some x → w.cell? ⟨bk, 0 + j, none⟩ = some (.string x)) (hbk : bk < w.heap.size) (n : Nat) (hn : xs.length = n) (hN : n ≤ 2) (hcap : n ≤ c)
    (h : IsBld B b l w) (hlen : l.length + F.length ≤ 1000000000) (hB : B ≤ w.heap.size) :
    Calls Tryz.prog 218 #[.bool has, .slice (some ⟨bk, 0, none⟩) n c, .pointer (some ⟨b, 0, none⟩)] w fun e w' => e = .returned (.tuple #[]) ∧ IsBld B b (l ++ if has = true then F else []) w' ∧ KeepsB B b w w' := by
  subst hn
  have hj := hide (Tryz.strings_Join bk 0 c xs ⟨#[]⟩ w hcells hbk (by omega) hcap (by
    have : (⟨#[]⟩ : ByteArray).data.toList = [] := rfl
    rw [this, hF]; omega))
  have e0 : (⟨#[]⟩ : ByteArray).data.toList = [] := rfl
  rw [e0, hF] at hj
  have H := hide h
  clear hcells hF e0 h
  cases has
  · go_enter Tryz.func218, Tryz.ntmps218
    go_wp2_with fail
    go_end0
    exact ⟨rfl, by simpa using H.out, KeepsB.refl _ _ _⟩
  · go_enter Tryz.func218, Tryz.ntmps218
    go_wp2_with fail
    refine hj.out.mono ?_
    rintro e w1 ⟨rfl, hb1⟩
    have hk1 : Keeps [] w w1 := Keeps.of_below hb1
    have h1 := H.out.keeps hk1
    go_wp2_with fail
    refine (write_all B b l F _ h1 (by omega) (by have := hk1.size; omega)).mono ?_
    rintro e w2 ⟨rfl, h2, hk2⟩
    go_wp2_with fail
    go_end0
    exact ⟨rfl, by simpa using h2, (KeepsB.of hk1).trans hk2⟩

theorem KeepsB.url {B b : Nat} {w w' : World} {q : Nat} {u : UrlT} (h : KeepsB B b w w') (hU : IsUrl w q u) (hq : q < B) (hb : q ≠ b) : IsUrl w' q u := by
  rw [IsUrl, h.block q hU.lt hb (.inl hq)]; exact hU

/-- While a link is joined. -/
structure Jo (w : World) (x b : Nat) (u : UrlT) (W : World) (l : List UInt8) : Prop where
  url : IsUrl W x u
  bld : IsBld b b l W
  keeps : Keeps [] w W
  bw : w.heap.size ≤ b
  xb : x < b
  bW : b ≤ W.heap.size

theorem Jo.put2 {w : World} {x b : Nat} {u : UrlT} {W : World} {l : List UInt8} (h : Jo w x b u W l) (has : Bool) (p q : List UInt8) (hl : l.length + (p ++ q).length ≤ 1000000000) :
    Calls Tryz.prog 218 #[.bool has, .slice (some ⟨W.heap.size, 0, none⟩) 2 2, .pointer (some ⟨b, 0, none⟩)] (W.alloc (.cells #[.string ⟨p.toArray⟩, .string ⟨q.toArray⟩] 9)) fun e W' => e = .returned (.tuple #[]) ∧ Jo w x b u W' (l ++ if has = true then p ++ q else []) := by
  have hk : Keeps [] W (W.alloc (.cells #[.string ⟨p.toArray⟩, .string ⟨q.toArray⟩] 9)) := (Keeps.refl [] W).alloc _
  refine (put_anyU has W.heap.size 2 [⟨p.toArray⟩, ⟨q.toArray⟩] b b l (p ++ q) _ (join2 p q) ?_ (by simp) 2 rfl (by omega) (by omega) (h.bld.keeps hk) hl (by have := h.bW; have := hk.size; omega)).mono ?_
  · intro j y hj
    have hb := heap_alloc_new W (.cells #[.string ⟨p.toArray⟩, .string ⟨q.toArray⟩] 9)
    rw [Nat.zero_add]
    match j, hj with
    | 0, hj => simp at hj; subst hj; rw [Lib.cell_of_heap hb]; rfl
    | 1, hj => simp at hj; subst hj; rw [Lib.cell_of_heap hb]; rfl
  · rintro e W' ⟨rfl, h1, h2⟩
    have hB := h.bW
    have hs1 := hk.size
    have hs2 := h2.size
    exact ⟨rfl, h2.url (h.url.keeps hk (by simp)) h.xb (by have := h.xb; omega), h1, KeepsB.nil (h.keeps.trans hk) h2 h.bw (Nat.le_refl _), h.bw, h.xb, by omega⟩

theorem Jo.put1 {w : World} {x b : Nat} {u : UrlT} {W : World} {l : List UInt8} (h : Jo w x b u W l) (has : Bool) (p : List UInt8) (hl : l.length + p.length ≤ 1000000000) :
    Calls Tryz.prog 218 #[.bool has, .slice (some ⟨W.heap.size, 0, none⟩) 1 1, .pointer (some ⟨b, 0, none⟩)] (W.alloc (.cells #[.string ⟨p.toArray⟩] 9)) fun e W' => e = .returned (.tuple #[]) ∧ Jo w x b u W' (l ++ if has = true then p else []) := by
  have hk : Keeps [] W (W.alloc (.cells #[.string ⟨p.toArray⟩] 9)) := (Keeps.refl [] W).alloc _
  refine (put_anyU has W.heap.size 1 [⟨p.toArray⟩] b b l p _ (join1 p) ?_ (by simp) 1 rfl (by omega) (by omega) (h.bld.keeps hk) hl (by have := h.bW; have := hk.size; omega)).mono ?_
  · intro j y hj
    have hb := heap_alloc_new W (.cells #[.string ⟨p.toArray⟩] 9)
    rw [Nat.zero_add]
    match j, hj with
    | 0, hj => simp at hj; subst hj; rw [Lib.cell_of_heap hb]; rfl
  · rintro e W' ⟨rfl, h1, h2⟩
    have hB := h.bW
    have hs1 := hk.size
    have hs2 := h2.size
    exact ⟨rfl, h2.url (h.url.keeps hk (by simp)) h.xb (by have := h.xb; omega), h1, KeepsB.nil (h.keeps.trans hk) h2 h.bw (Nat.le_refl _), h.bw, h.xb, by omega⟩

theorem if_len (c : Bool) (l : List UInt8) : (if c = true then l else []).length ≤ l.length := by split <;> simp

set_option maxRecDepth 4000 in
set_option maxHeartbeats 4000000 in
theorem joined_any (u : UrlT) (w : World) (hl : u.scheme.length ≤ 20000 ∧ u.authority.length ≤ 20000 ∧ u.path.length ≤ 20000 ∧ u.query.length ≤ 20000 ∧ u.fragment.length ≤ 20000) :
    Calls Tryz.prog 146 #[urlV u] w fun e w' => e = .returned (.string ⟨(joinL u).toArray⟩) ∧ Keeps [] w w' := by
  have hmf : ∀ (fn : Fn) (first cap : Array Value) (w : World), (Instr.makeFunc fn first cap).run Tryz.prog w = .ok (.func fn first cap) w := fun _ _ _ _ => rfl
  have hE := enters218
  unfold Enters at hE
  unfold urlV urlCells
  obtain ⟨A, hA⟩ : ∃ A, joinL u = A := ⟨_, rfl⟩
  rw [hA]
  have HA : Hid (A = [] ++ (if u.hs = true then u.scheme ++ [58] else []) ++ (if u.ha = true then [47, 47] ++ u.authority else []) ++ u.path ++ (if u.hq = true then [63] ++ u.query else []) ++ (if u.hf = true then [35] ++ u.fragment else [])) := by
    rw [← hA]; unfold joinL; simp [Hid]
  clear hA
  have l1 := if_len u.hs (u.scheme ++ [58])
  have l2 := if_len u.ha ([47, 47] ++ u.authority)
  have l4 := if_len u.hq ([63] ++ u.query)
  simp only [List.length_append, List.length_cons, List.length_nil] at l1 l2 l4
  obtain ⟨a1, h1⟩ : ∃ a, (if u.hs = true then u.scheme ++ [58] else []) = a := ⟨_, rfl⟩
  obtain ⟨a2, h2⟩ : ∃ a, (if u.ha = true then [47, 47] ++ u.authority else []) = a := ⟨_, rfl⟩
  obtain ⟨a4, h4⟩ : ∃ a, (if u.hq = true then [63] ++ u.query else []) = a := ⟨_, rfl⟩
  obtain ⟨a5, h5⟩ : ∃ a, (if u.hf = true then [35] ++ u.fragment else []) = a := ⟨_, rfl⟩
  rw [h1, h2, h4, h5] at HA
  rw [h1] at l1
  rw [h2] at l2
  rw [h4] at l4
  have H1 := hide h1
  have H2 := hide h2
  have H4 := hide h4
  have H5 := hide h5
  clear h1 h2 h4 h5
  go_enter Tryz.func146, Tryz.ntmps146
  go_wp2_with fail
  obtain ⟨W0, hW0⟩ : ∃ W0, W0 = ((w.alloc (.cells #[.string ⟨u.scheme.toArray⟩, .string ⟨u.authority.toArray⟩, .string ⟨u.path.toArray⟩, .string ⟨u.query.toArray⟩, .string ⟨u.fragment.toArray⟩, .bool u.hs, .bool u.ha, .bool u.hq, .bool u.hf] 99)).alloc (.cells #[.pointer none, .slice none 0 0] 134)) := ⟨_, rfl⟩
  have hsz : w.heap.size + 1 + 1 = W0.heap.size := by rw [hW0]; simp
  rw [← hW0, hsz]
  have j0 : Jo w w.heap.size (w.heap.size + 1) u W0 [] := by
    subst hW0
    have hk0 : Keeps [] w (w.alloc (.cells #[.string ⟨u.scheme.toArray⟩, .string ⟨u.authority.toArray⟩, .string ⟨u.path.toArray⟩, .string ⟨u.query.toArray⟩, .string ⟨u.fragment.toArray⟩, .bool u.hs, .bool u.ha, .bool u.hq, .bool u.hf] 99)) := (Keeps.refl [] w).alloc _
    have hb := bld_newU (w.alloc (.cells #[.string ⟨u.scheme.toArray⟩, .string ⟨u.authority.toArray⟩, .string ⟨u.path.toArray⟩, .string ⟨u.query.toArray⟩, .string ⟨u.fragment.toArray⟩, .bool u.hs, .bool u.ha, .bool u.hq, .bool u.hf] 99))
    have e1 : (w.alloc (.cells #[.string ⟨u.scheme.toArray⟩, .string ⟨u.authority.toArray⟩, .string ⟨u.path.toArray⟩, .string ⟨u.query.toArray⟩, .string ⟨u.fragment.toArray⟩, .bool u.hs, .bool u.ha, .bool u.hq, .bool u.hf] 99)).heap.size = w.heap.size + 1 := by simp
    rw [e1] at hb
    refine ⟨?_, hb, hk0.alloc _, by omega, by omega, by simp⟩
    unfold IsUrl
    rw [Below.heap_alloc _ _ _ (by simp)]
    exact heap_alloc_new _ _
  clear hW0 hsz
  generalize w.heap.size + 1 = b at *
  generalize hx : w.heap.size = x at *
  clear hx
  refine (j0.put2 u.hs u.scheme [58] (by simp; omega)).mono ?_
  rintro e W1 ⟨rfl, j1⟩
  rw [H1.out] at j1
  have c6 : W1.cell? ⟨x, 6, none⟩ = some (.bool u.ha) := j1.url.cell 6
  have c1 : W1.cell? ⟨x, 1, none⟩ = some (.string ⟨u.authority.toArray⟩) := j1.url.cell 1
  go_wp2_with fail
  refine (j1.put2 u.ha [47, 47] u.authority (by simp; omega)).mono ?_
  rintro e W2 ⟨rfl, j2⟩
  rw [H2.out] at j2
  have c2 : W2.cell? ⟨x, 2, none⟩ = some (.string ⟨u.path.toArray⟩) := j2.url.cell 2
  go_wp2_with fail
  refine (j2.put1 true u.path (by simp; omega)).mono ?_
  rintro e W3 ⟨rfl, j3⟩
  rw [if_pos rfl] at j3
  have c7 : W3.cell? ⟨x, 7, none⟩ = some (.bool u.hq) := j3.url.cell 7
  have c3 : W3.cell? ⟨x, 3, none⟩ = some (.string ⟨u.query.toArray⟩) := j3.url.cell 3
  go_wp2_with fail
  refine (j3.put2 u.hq [63] u.query (by simp; omega)).mono ?_
  rintro e W4 ⟨rfl, j4⟩
  rw [H4.out] at j4
  have c8 : W4.cell? ⟨x, 8, none⟩ = some (.bool u.hf) := j4.url.cell 8
  have c4 : W4.cell? ⟨x, 4, none⟩ = some (.string ⟨u.fragment.toArray⟩) := j4.url.cell 4
  go_wp2_with fail
  refine (j4.put2 u.hf [35] u.fragment (by simp; omega)).mono ?_
  rintro e W5 ⟨rfl, j5⟩
  rw [H5.out, ← HA.out] at j5
  go_wp2_with fail
  refine (Tryz.Builder_String_any b b A W5 j5.bld j5.bW).mono ?_
  rintro e W6 ⟨rfl, hb6⟩
  have hk6 : Keeps [] w W6 := by
    have h6 : Below w.heap.size W5 W6 := ⟨hb6.os, hb6.tape, hb6.output, hb6.size, fun k hk => hb6.block k (by have := j5.bw; omega)⟩
    exact ⟨h6.os.trans j5.keeps.os, h6.tape.trans j5.keeps.tape, h6.output.trans j5.keeps.output, Nat.le_trans j5.keeps.size h6.size, fun k hk _ => (h6.block k hk).trans (j5.keeps.block k hk List.not_mem_nil)⟩
  go_wp2_with fail
  go_ret
  exact ⟨by simp, hk6⟩
end Go.Proofs.YtlcljanibjdejaaGreat

namespace Go.Proofs.YtlcljanibjdejaaGreat
open Go.RowKit

theorem url_ext (a b : UrlT) : (a = b) ↔ (a.scheme = b.scheme ∧ a.authority = b.authority ∧ a.path = b.path ∧ a.query = b.query ∧ a.fragment = b.fragment ∧ a.hs = b.hs ∧ a.ha = b.ha ∧ a.hq = b.hq ∧ a.hf = b.hf) := by
  cases a
  cases b
  simp

set_option maxHeartbeats 2000000 in
theorem eqUrl (x y : UrlT) (w : World) : (binOp .neq 99 (urlV x) (urlV y)).run Tryz.prog w = .ok (.bool (decide (x ≠ y))) w := by
  have u9 := Tryz.underlying9
  have u4 := Tryz.underlying4
  have hS : Tryz.prog.underlying 99 = some (.struct (Tryz.prog.fieldsOf 99)) := by kernel_rfl
  have hp : Tryz.prog.stoodInHeld 99 = false := by kernel_rfl
  unfold urlV urlCells
  rw [run_neq_struct, show (10000 : Nat) = 9999 + 1 from rfl, run_equalIn_agg w 9999 99 _ _ hS hp]
  simp only [Program.fieldsOf, Tryz.underlying99]
  go_simp
  have e := url_ext x y
  by_cases h : x = y
  · subst h
    simp
  · have h' := mt e.2 h
    rw [decide_eq_false h]
    repeat' split
    all_goals first | rfl | (exfalso; exact h' ⟨by assumption, by assumption, by assumption, by assumption, by assumption, by assumption, by assumption, by assumption, by assumption⟩)

/-- What Join and Resolve answer: a text, or ErrForm. -/
def ansO (a : Option (List UInt8)) : Ending := match a with
  | some x => .returned (.tuple #[.string ⟨x.toArray⟩, .int .i64 0])
  | none => .returned (.tuple #[.string ⟨#[]⟩, .int .i64 1])

theorem box_url (w : World) (u : UrlT) : IsUrl (w.alloc (.cells #[.string ⟨u.scheme.toArray⟩, .string ⟨u.authority.toArray⟩, .string ⟨u.path.toArray⟩, .string ⟨u.query.toArray⟩, .string ⟨u.fragment.toArray⟩, .bool u.hs, .bool u.ha, .bool u.hq, .bool u.hf] 99)) w.heap.size u := heap_alloc_new _ _

def Short (u : UrlT) : Prop := u.scheme.length ≤ 20000 ∧ u.authority.length ≤ 20000 ∧ u.path.length ≤ 20000 ∧ u.query.length ≤ 20000 ∧ u.fragment.length ≤ 20000

set_option maxRecDepth 4000 in
set_option maxHeartbeats 4000000 in
theorem join_any (u : UrlT) (w : World) (hl : Short u) (hM : HasMax w) :
    Calls Tryz.prog 72 #[urlV u] w fun e w' => e = ansO (joinsL u) ∧ Keeps [] w w' := by
  have hjn := hide (fun w => joined_any u w hl)
  have hJ : Hid (joinsL u = if (joinL u).length ≤ 3000 ∧ splitL (joinL u) = u then some (joinL u) else none) := rfl
  have hlen : (joinL u).length ≤ 200000 := by
    obtain ⟨h1, h2, h3, h4, h5⟩ := hl
    have l1 := if_len u.hs (u.scheme ++ [58])
    have l2 := if_len u.ha ([47, 47] ++ u.authority)
    have l4 := if_len u.hq (63 :: u.query)
    have l5 := if_len u.hf (35 :: u.fragment)
    unfold joinL
    simp only [List.length_append, List.length_cons, List.length_nil] at l1 l2 l4 l5 ⊢
    omega
  clear hl
  generalize joinL u = A at *
  have hlong := hide (fun (w : World) (h : 3000 < A.length) => split_long ⟨A.toArray⟩ w (by rw [str_size]; unfold maxLen; omega) h)
  have hshort := hide (fun (w : World) (h : ¬ 3000 < A.length) (hM : HasMax w) => split_short ⟨A.toArray⟩ w h hM)
  rw [str_list] at hshort
  have hbx := box_url w u
  have hka : Keeps [] w _ := (Keeps.refl [] w).alloc (.cells #[.string ⟨u.scheme.toArray⟩, .string ⟨u.authority.toArray⟩, .string ⟨u.path.toArray⟩, .string ⟨u.query.toArray⟩, .string ⟨u.fragment.toArray⟩, .bool u.hs, .bool u.ha, .bool u.hq, .bool u.hf] 99)
  by_cases hL : 3000 < A.length
  · rw [hJ.out, if_neg (by omega)]
    unfold ansO
    unfold urlV urlCells at hjn ⊢
    have hlo := hide (fun w => hlong.out w hL)
    clear hlong hshort hL hlen
    unfold urlV urlCells noUrl at hlo
    go_enter Tryz.func72, Tryz.ntmps72
    go_wp2_with fail
    refine (hjn.out _).mono ?_
    rintro e w1 ⟨rfl, hk1⟩
    go_wp2_with fail
    refine (hlo.out _).mono ?_
    rintro e w2 ⟨rfl, hk2⟩
    go_wp2_with fail
    go_ret2
    exact ⟨rfl, ((hka.trans hk1).trans hk2).alloc _⟩
  · have hsh := hide (fun w hM => hshort.out w hL hM)
    have hgd : Tryz.prog.eqGuardType Tryz.prog.depth 99 = false := by kernel_rfl
    have hJ2 : Hid (joinsL u = if splitL A = u then some A else none) := by
      rw [hJ.out]
      by_cases h : splitL A = u
      · rw [if_pos ⟨by omega, h⟩, if_pos h]; exact rfl
      · rw [if_neg (fun hh => h hh.2), if_neg h]; exact rfl
    clear hlong hshort hL hlen hJ
    generalize splitL A = C at *
    by_cases hE : C = u
    · rw [hJ2.out, if_pos hE]
      unfold ansO
      have heq : ∀ w, (binOp .neq 99 (urlV C) (urlV u)).run Tryz.prog w = .ok (.bool false) w := fun w => (eqUrl C u w).trans (by rw [decide_eq_false (by simpa using hE)])
      unfold urlV urlCells at heq hjn hsh ⊢
      go_enter Tryz.func72, Tryz.ntmps72
      go_wp2_with fail
      refine (hjn.out _).mono ?_
      rintro e w1 ⟨rfl, hk1⟩
      go_wp2_with fail
      refine (hsh.out _ (hM.keeps (hka.trans hk1) (by simp))).mono ?_
      rintro e w2 ⟨rfl, hk2⟩
      have hu2 := fun o => (hbx.keeps (hk1.trans hk2) (by simp)).keeps ((Keeps.refl [] w2).alloc o) (by simp)
      have u0 : ∀ o, (w2.alloc o).cell? ⟨w.heap.size, 0, none⟩ = some (.string ⟨u.scheme.toArray⟩) := fun o => (hu2 o).cell 0
      have u1 : ∀ o, (w2.alloc o).cell? ⟨w.heap.size, 1, none⟩ = some (.string ⟨u.authority.toArray⟩) := fun o => (hu2 o).cell 1
      have u2 : ∀ o, (w2.alloc o).cell? ⟨w.heap.size, 2, none⟩ = some (.string ⟨u.path.toArray⟩) := fun o => (hu2 o).cell 2
      have u3 : ∀ o, (w2.alloc o).cell? ⟨w.heap.size, 3, none⟩ = some (.string ⟨u.query.toArray⟩) := fun o => (hu2 o).cell 3
      have u4 : ∀ o, (w2.alloc o).cell? ⟨w.heap.size, 4, none⟩ = some (.string ⟨u.fragment.toArray⟩) := fun o => (hu2 o).cell 4
      have u5 : ∀ o, (w2.alloc o).cell? ⟨w.heap.size, 5, none⟩ = some (.bool u.hs) := fun o => (hu2 o).cell 5
      have u6 : ∀ o, (w2.alloc o).cell? ⟨w.heap.size, 6, none⟩ = some (.bool u.ha) := fun o => (hu2 o).cell 6
      have u7 : ∀ o, (w2.alloc o).cell? ⟨w.heap.size, 7, none⟩ = some (.bool u.hq) := fun o => (hu2 o).cell 7
      have u8 : ∀ o, (w2.alloc o).cell? ⟨w.heap.size, 8, none⟩ = some (.bool u.hf) := fun o => (hu2 o).cell 8
      clear hu2
      go_wp2_with fail
      go_ret2
      exact ⟨rfl, ((hka.trans hk1).trans hk2).alloc _⟩
    · rw [hJ2.out, if_neg hE]
      unfold ansO
      have heq : ∀ w, (binOp .neq 99 (urlV C) (urlV u)).run Tryz.prog w = .ok (.bool true) w := fun w => (eqUrl C u w).trans (by rw [decide_eq_true (hE)])
      unfold urlV urlCells at heq hjn hsh ⊢
      go_enter Tryz.func72, Tryz.ntmps72
      go_wp2_with fail
      refine (hjn.out _).mono ?_
      rintro e w1 ⟨rfl, hk1⟩
      go_wp2_with fail
      refine (hsh.out _ (hM.keeps (hka.trans hk1) (by simp))).mono ?_
      rintro e w2 ⟨rfl, hk2⟩
      have hu2 := fun o => (hbx.keeps (hk1.trans hk2) (by simp)).keeps ((Keeps.refl [] w2).alloc o) (by simp)
      have u0 : ∀ o, (w2.alloc o).cell? ⟨w.heap.size, 0, none⟩ = some (.string ⟨u.scheme.toArray⟩) := fun o => (hu2 o).cell 0
      have u1 : ∀ o, (w2.alloc o).cell? ⟨w.heap.size, 1, none⟩ = some (.string ⟨u.authority.toArray⟩) := fun o => (hu2 o).cell 1
      have u2 : ∀ o, (w2.alloc o).cell? ⟨w.heap.size, 2, none⟩ = some (.string ⟨u.path.toArray⟩) := fun o => (hu2 o).cell 2
      have u3 : ∀ o, (w2.alloc o).cell? ⟨w.heap.size, 3, none⟩ = some (.string ⟨u.query.toArray⟩) := fun o => (hu2 o).cell 3
      have u4 : ∀ o, (w2.alloc o).cell? ⟨w.heap.size, 4, none⟩ = some (.string ⟨u.fragment.toArray⟩) := fun o => (hu2 o).cell 4
      have u5 : ∀ o, (w2.alloc o).cell? ⟨w.heap.size, 5, none⟩ = some (.bool u.hs) := fun o => (hu2 o).cell 5
      have u6 : ∀ o, (w2.alloc o).cell? ⟨w.heap.size, 6, none⟩ = some (.bool u.ha) := fun o => (hu2 o).cell 6
      have u7 : ∀ o, (w2.alloc o).cell? ⟨w.heap.size, 7, none⟩ = some (.bool u.hq) := fun o => (hu2 o).cell 7
      have u8 : ∀ o, (w2.alloc o).cell? ⟨w.heap.size, 8, none⟩ = some (.bool u.hf) := fun o => (hu2 o).cell 8
      clear hu2
      go_wp2_with fail
      go_ret2
      exact ⟨rfl, ((hka.trans hk1).trans hk2).alloc _⟩
end Go.Proofs.YtlcljanibjdejaaGreat

namespace Go.Proofs.YtlcljanibjdejaaGreat
open Go.RowKit

/-- Where the last / stands; -1: nowhere. -/
def LastAt (l : List UInt8) (i : Int) : Prop := (i = -1 ∧ ∀ d ∈ l, d ≠ 47) ∨ ∃ k : Nat, i = k ∧ ∃ h : k < l.length, l[k] = 47 ∧ ∀ j (hj : j < l.length), k < j → l[j] ≠ 47

theorem LastAt.split {l : List UInt8} {k : Nat} (h : k < l.length) (h1 : l[k] = 47) (h2 : ∀ j (hj : j < l.length), k < j → l[j] ≠ 47) : l = l.take k ++ 47 :: l.drop (k + 1) ∧ ∀ d ∈ l.drop (k + 1), d ≠ 47 := by
  refine ⟨?_, ?_⟩
  · rw [← h1, List.getElem_cons_drop, List.take_append_drop]
  · intro d hd
    obtain ⟨j, hj, rfl⟩ := List.getElem_of_mem hd
    rw [List.getElem_drop]
    exact h2 _ _ (by omega)

theorem LastAt.cut {l : List UInt8} {i : Int} (h : LastAt l i) : cutLast l = l.take (max i 0).toNat ∧ (max i 0).toNat ≤ l.length := by
  rcases h with ⟨rfl, hn⟩ | ⟨k, rfl, hk, h1, h2⟩
  · rw [cutLast_none l hn]
    exact ⟨rfl, Nat.zero_le _⟩
  · obtain ⟨e, hn⟩ := LastAt.split hk h1 h2
    have : cutLast l = l.take k := by
      conv => lhs; rw [e]
      exact cutLast_at _ _ hn
    rw [this]
    have e2 : (max (k : Int) 0).toNat = k := by omega
    rw [e2]
    exact ⟨rfl, by omega⟩

theorem LastAt.up {l : List UInt8} {i : Int} (h : LastAt l i) : upSl l = l.take (i + 1).toNat ∧ -1 ≤ i ∧ i < l.length := by
  rcases h with ⟨rfl, hn⟩ | ⟨k, rfl, hk, h1, h2⟩
  · rw [upSl_none l hn]; simp; omega
  · obtain ⟨e, hn⟩ := LastAt.split hk h1 h2
    have : upSl l = l.take (k + 1) := by
      conv => lhs; rw [e]
      rw [upSl_at _ _ hn, List.take_succ_eq_append_getElem hk, h1]
    rw [this]
    have e2 : ((k : Int) + 1).toNat = k + 1 := by omega
    rw [e2]
    exact ⟨rfl, by omega, by omega⟩

theorem index_tw : ∀ l : List UInt8, (Lib.indexByte l 47 = -1 ∧ l.takeWhile noSl = l) ∨ (Lib.indexByte l 47 = (l.takeWhile noSl).length ∧ (l.takeWhile noSl).length < l.length)
  | [] => .inl ⟨rfl, rfl⟩
  | c :: l => by
    unfold Lib.indexByte
    by_cases h : c = 47
    · subst h
      right
      simp [noSl]
    · have hb : (c == 47) = false := by simpa using h
      have hn : noSl c = true := by simpa [noSl] using h
      rw [hb]
      rcases index_tw l with ⟨e1, e2⟩ | ⟨e1, e2⟩
      · left
        rw [e1]
        simp [hn, e2]
      · right
        rw [e1]
        have : (((l.takeWhile noSl).length : Int) == -1) = false := by simp
        rw [this]
        simp [hn]
        try omega

theorem first_index (l : List UInt8) (h : l ≠ []) : (Lib.indexByte (l.drop 1) 47 < 0 ∧ firstL l = l.length) ∨ (∃ k : Nat, Lib.indexByte (l.drop 1) 47 = k ∧ firstL l = k + 1) := by
  have hp := List.length_pos_iff.2 h
  unfold firstL
  rcases index_tw (l.drop 1) with ⟨e1, e2⟩ | ⟨e1, e2⟩
  · left
    rw [e1, e2, List.length_drop]
    exact ⟨by omega, by omega⟩
  · right
    exact ⟨_, e1, by omega⟩

theorem enters287 : Enters 287 := enters_of Tryz.func287 (by kernel_rfl) (by kernel_rfl)

set_option maxHeartbeats 1000000 in
theorem firstPart_any (X : ByteArray) (w : World) (h0 : 0 < X.size) (hX : X.size ≤ 100000) :
    Calls Tryz.prog 222 #[.string X] w fun e w' => e = .returned (.int .i64 (firstL X.data.toList)) ∧ w' = w := by
  have hi := hide (fun w => Tryz.strings_IndexByte (X.extract 1 X.size) 47 w)
  have e47 : (47 : Int).toNat.toUInt8 = 47 := by decide
  rw [Lib.extract_to_end, e47] at hi
  have hne : X.data.toList ≠ [] := by
    intro h
    have := len_size X
    rw [h] at this
    simp at this
    omega
  have hl := len_size X
  rcases first_index X.data.toList hne with ⟨h1, h2⟩ | ⟨k, h1, h2⟩
  · rw [h2, hl]
    generalize Lib.indexByte (X.data.toList.drop 1) 47 = i at *
    have hd : decide (i < 0) = true := by simpa using h1
    clear h2 hne hl
    go_enter Tryz.func222, Tryz.ntmps222
    go_wp2_with (go_at_call 287; refine (hi.out _).mono ?_; rintro e w' ⟨rfl, rfl⟩)
    go_ret
    exact ⟨by simp, rfl⟩
  · have hk := firstL_le _ hne
    rw [h2, hl] at hk
    rw [h2]
    rw [h1] at hi
    clear h2 hne h1 hl
    go_enter Tryz.func222, Tryz.ntmps222
    go_wp2_with (go_at_call 287; refine (hi.out _).mono ?_; rintro e w' ⟨rfl, rfl⟩)
    go_ret
    exact ⟨by simp, rfl⟩

set_option maxHeartbeats 2000000 in
theorem lastIndex_any (v : Value) (B : Nat) (l : List UInt8) (w : World) (h : w.ownsRow B 5 1 v l.length (Lib.byteCells l)) (hl : l.length ≤ 100000) :
    Calls Tryz.prog 316 #[v, .int .u8 47] w fun e w' => (∃ i, e = .returned (.int .i64 i) ∧ LastAt l i) ∧ w' = w := by
  obtain ⟨o, c, hv⟩ := row_form h
  subst hv
  go_enter Tryz.func316, Tryz.ntmps316
  go_wp2_with fail
  go_loopw [5] (fun i wr => ∃ k : Nat, k ≤ l.length ∧ i = .int .i64 ((k : Int) - 1) ∧ wr = w ∧ Hid (∀ j (hj : j < l.length), k ≤ j → l[j] ≠ 47)) (fun i _ => ((intOf i) + 1).toNat)
  case atStart => exact ⟨l.length, Nat.le_refl _, rfl, rfl, fun j hj h => by omega⟩
  case round =>
    obtain ⟨k, hk, rfl, rfl, hH⟩ := hrel
    by_cases h0 : k = 0
    · subst h0
      go_wp2_with fail
      go_ret
      exact ⟨⟨_, rfl, .inl ⟨rfl, fun d hd => by
        obtain ⟨j, hj, rfl⟩ := List.getElem_of_mem hd
        exact hH.out j hj (Nat.zero_le _)⟩⟩, rfl⟩
    · obtain ⟨m, rfl⟩ : ∃ m, k = m + 1 := ⟨k - 1, by omega⟩
      have e1 : (((m + 1 : Nat) : Int) - 1) = (m : Int) := by omega
      rw [e1]
      have hm : m < l.length := by omega
      rcases h.2 with ⟨he, h0'⟩ | ⟨g, cap, cur, he, _⟩
      · omega
      simp only [Value.slice.injEq] at he
      obtain ⟨rfl, _, rfl⟩ := he
      have hc := h.cells (g := g) rfl m (.int .u8 (l[m].toNat : Int)) (by simp [Lib.byteCells, hm])
      rw [add_zero] at hc
      have HH := hide h
      cases hb : ((l[m].toNat : Int) == 47)
      · have hne : l[m] ≠ 47 := by
          rw [← (beq_at rfl : (l[m] == 47) = ((l[m].toNat : Int) == 47))] at hb
          simpa using hb
        have HN : Hid (∀ j (hj : j < l.length), m ≤ j → l[j] ≠ 47) := fun j hj hmj => by
          rcases Nat.lt_or_ge m j with h' | h'
          · exact hH.out j hj (by omega)
          · have : j = m := by omega
            subst this
            exact hne
        clear hne hH h e1
        generalize l[m] = d at *
        go_wp2_with fail
        go_roundw
        case rel => exact ⟨m, by omega, by go_num, by first | rfl | trivial, HN⟩
        case measure => simp [intOf] <;> omega
      · have heq : l[m] = 47 := by
          rw [← (beq_at rfl : (l[m] == 47) = ((l[m].toNat : Int) == 47))] at hb
          simpa using hb
        have HQ := hide heq
        clear heq h e1
        go_wp2_with fail
        go_ret
        exact ⟨⟨_, rfl, .inr ⟨m, rfl, hm, HQ.out, fun j hj h' => hH.out j hj h'⟩⟩, rfl⟩

theorem bytesLast_any (v : Value) (B : Nat) (l : List UInt8) (w : World) (h : w.ownsRow B 5 1 v l.length (Lib.byteCells l)) (hl : l.length ≤ 100000) :
    Calls Tryz.prog 289 #[v, .int .u8 47] w fun e w' => (∃ i, e = .returned (.int .i64 i) ∧ LastAt l i) ∧ w' = w := by
  have hh := hide (lastIndex_any v B l w h hl)
  clear h
  go_enter Tryz.func289, Tryz.ntmps289
  go_wp2_with fail
  refine hh.out.mono ?_
  rintro e w1 ⟨⟨i, rfl, hi⟩, rfl⟩
  go_wp2_with fail
  go_ret
  exact ⟨⟨i, by simp, hi⟩, rfl⟩

theorem row_take {w : World} {B : Nat} {g cap : Nat} {l : List UInt8} (h : w.ownsRow B 5 1 (.slice (some ⟨g, 0, none⟩) l.length cap) l.length (Lib.byteCells l)) (m : Nat) (hm : m ≤ l.length) :
    w.ownsRow B 5 1 (.slice (some ⟨g, 0, none⟩) m cap) (l.take m).length (Lib.byteCells (l.take m)) := by
  rcases h.2 with ⟨h1, _⟩ | ⟨g', cap', cur, he, h2, h3, h4, h5, h6, h7⟩
  · simp at h1
  · simp at he
    obtain ⟨rfl, rfl⟩ := he
    have e1 : (l.take m).length = m := by simp; omega
    refine ⟨by rw [Lib.byteCells_length]; omega, .inr ⟨g, cap, cur, by rw [e1], h2, h3, by rw [e1]; omega, h5, h6, ?_⟩⟩
    rw [e1]
    simp only [Nat.mul_one] at h7 ⊢
    have : cur.toList.take m = (cur.toList.take l.length).take m := by rw [List.take_take, Nat.min_eq_left hm]
    rw [this, h7]
    simp [Lib.byteCells]

set_option maxHeartbeats 1000000 in
/-- A path without its last /, and what is behind it. -/
theorem withoutLast_any (v : Value) (B : Nat) (l : List UInt8) (w : World) (h : w.ownsRow B 5 1 v l.length (Lib.byteCells l)) (hl : l.length ≤ 100000) :
    Calls Tryz.prog 221 #[v] w fun e w' => (∃ v', e = .returned v' ∧ w.ownsRow B 5 1 v' (cutLast l).length (Lib.byteCells (cutLast l)) ∧ v'.ownBlock = v.ownBlock) ∧ w' = w := by
  have hb := hide (fun w h => bytesLast_any v B l w h hl)
  rcases h.2 with ⟨hv, h0⟩ | ⟨g, cap, cur, hv, _, _, hc1, hc2, _⟩
  · have hl0 : l = [] := List.eq_nil_of_length_eq_zero h0
    subst hl0
    subst hv
    have HH := hide h
    go_enter Tryz.func221, Tryz.ntmps221
    go_wp2_with fail
    refine (hb.out _ HH.out).mono ?_
    rintro e w1 ⟨⟨i, rfl, hi⟩, rfl⟩
    have hi' : i = -1 := by
      rcases hi with ⟨h1, _⟩ | ⟨k, _, hk, _⟩
      · exact h1
      · simp at hk
    subst hi'
    go_wp2_with fail
    go_ret
    exact ⟨⟨_, rfl, by simpa [cutLast, show (max (-1 : Int) 0).toNat = 0 from by decide] using HH.out, rfl⟩, rfl⟩
  · subst hv
    unfold maxLen at hc2
    have HH := hide h
    clear h
    go_enter Tryz.func221, Tryz.ntmps221
    go_wp2_with fail
    refine (hb.out _ HH.out).mono ?_
    rintro e w1 ⟨⟨i, rfl, hi⟩, rfl⟩
    obtain ⟨e1, e2⟩ := hi.cut
    obtain ⟨m, hm⟩ : ∃ m : Nat, max i 0 = m := ⟨(max i 0).toNat, by omega⟩
    rw [hm] at e1 e2
    simp only [Int.toNat_natCast] at e1 e2
    have E1 := hide e1
    clear e1
    go_wp2_with fail
    go_ret
    refine ⟨⟨_, rfl, ?_, rfl⟩, rfl⟩
    rw [E1.out]
    simpa [hm] using row_take HH.out m e2
end Go.Proofs.YtlcljanibjdejaaGreat
