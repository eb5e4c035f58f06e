/- Words of markup: the texts of nodes, spelt out with blanks. strings.FieldsFunc and Contains, laid at this program. strings.IndexByte, LastIndexByte and Join, laid at this program. Words of markup: what is white. Words of markup: IndexRune of a rune that is no byte. Words of markup: isWhite, for every rune. Words of markup: the words of a tree. -/
import Derived.Test.YtlcljanibjdejaaGreatFm11
import Derived.Shelf.Strings.FieldsFuncAny
import Derived.Shelf.Strings.FieldsFuncGrows
import Derived.Shelf.Strings.Runes
import Derived.Shelf.Strings.OnBuilder
import Derived.Shelf.Small.Strs
import Derived.Shelf.Strings.LastIndex
import Derived.Lib.OthersKept
import Derived.Laws.Runes
import Derived.WalkMore
import Derived.Deep.RegionHeld3
namespace Go.Proofs.YtlcljanibjdejaaGreat
open Go.RowKit Go.Maps
theorem KeepsB.blk {B b : Nat} {w w' : World} {g : Nat} {cs : Array Value} {ty : TypeId} (h : KeepsB B b w w') (ht : w.heap[g]? = some (.cells cs ty (0, 0))) (hty : ty ≠ 5) (hg : g ≠ b) : w'.heap[g]? = some (.cells cs ty (0, 0)) := by
  rw [h.block g (lt_of_block ht) hg (.inr (fun cs f e => by rw [ht] at e; simp at e; exact hty e.2.1))]; exact ht
theorem fblk_new {w W : World} {o : Obj} {k : Nat} (hk : w.heap.size = k) (hW : w.alloc o = W) : W.heap[k]? = some o ∧ W.heap.size = k + 1 := by
  subst hk; subst hW; exact ⟨heap_alloc_new w o, by simp⟩
def blankN (nm : List UInt8) : List UInt8 := if partsN nm = true then [32] else []
theorem blank_any (B b : Nat) (L nm tx : List UInt8) (av kv : Value) (w : World) (h : IsBld B b L w) (hL : L.length ≤ 1000000000) (hBw : B ≤ w.heap.size) :
    Calls Tryz.prog 205 #[.agg #[.string ⟨nm.toArray⟩, av, .string ⟨tx.toArray⟩, kv], .pointer (some ⟨b, 0, none⟩)] w fun e w' => e = .returned (.tuple #[]) ∧ IsBld B b (L ++ blankN nm) w' ∧ KeepsB B b w w' := by
  obtain ⟨W, hW⟩ : ∃ W, w.alloc (.cells #[.string ⟨nm.toArray⟩, av, .string ⟨tx.toArray⟩, kv] 45) = W := ⟨_, rfl⟩
  have hkW : Keeps [] w W := by rw [← hW]; exact (Keeps.refl [] w).alloc _
  have hb := (fblk_new rfl hW).1
  have b0 : W.cell? ⟨w.heap.size, 0, none⟩ = some (.string ⟨nm.toArray⟩) := cell_blk hb 0
  have hBW : B ≤ W.heap.size := Nat.le_trans hBw hkW.size
  have HKW := hide (KeepsB.of (B := B) (b := b) hkW)
  have HBl := hide (h.keeps hkW)
  have HW := hide hW
  have hpn := hide (fun w => parts_any nm w)
  unfold blankN
  clear h hkW hb hW
  cases hpp : partsN nm
  · rw [hpp] at hpn
    clear hpp
    simp only [Bool.false_eq_true, if_false, List.append_nil]
    go_enter Tryz.func205, Tryz.ntmps205
    go_upto_region 1 with fail
    rw [HW.out]
    go_wp2_with fail
    refine (hpn.out _).mono ?_
    rintro e w1 ⟨rfl, h9⟩
    subst h9
    go_wp2_with fail
    go_end0
    exact ⟨rfl, HBl.out, HKW.out⟩
  · rw [hpp] at hpn
    clear hpp
    simp only [if_true]
    have hwb := hide (writeByte_all B b L 32 W HBl.out hL hBW)
    have e32 : (((32 : UInt8).toNat : Nat) : Int) = 32 := rfl
    rw [e32] at hwb
    go_enter Tryz.func205, Tryz.ntmps205
    go_upto_region 1 with fail
    rw [HW.out]
    go_wp2_with fail
    refine (hpn.out _).mono ?_
    rintro e w1 ⟨rfl, h9⟩
    subst h9
    go_wp2_with fail
    refine hwb.out.mono ?_
    rintro e w2 ⟨rfl, hb2, hk2⟩
    go_wp2_with fail
    go_end0
    exact ⟨rfl, hb2, HKW.out.trans hk2⟩
def spellL : List Nd → List UInt8
  | [] => []
  | .mk n _ t k :: r => blankN n ++ (t ++ (spellL k ++ (blankN n ++ spellL r)))
theorem spell_drop (l : List Pn) (k : Nat) (hk : k < l.length) : spellL ((l.drop k).map Pn.nd) = blankN l[k].nd.name ++ (l[k].nd.text ++ (spellL l[k].nd.kids ++ (blankN l[k].nd.name ++ spellL ((l.drop (k + 1)).map Pn.nd)))) := by
  rw [List.drop_eq_getElem_cons hk, List.map_cons]
  generalize l[k] = p
  obtain ⟨⟨n, a, t, ks⟩, av, kv⟩ := p
  rw [spellL]
  rfl
theorem enters205 : Enters 205 := enters_of Tryz.func205 (by kernel_rfl) (by kernel_rfl)
set_option maxRecDepth 8000 in
set_option maxHeartbeats 8000000 in
theorem spell_all (B b : Nat) (P : Nat → Prop) (w0 : World) (hB0 : w0.heap.size ≤ B) (hBb : B ≤ b) (v : Value) (ns : List Nd) (h : Ns w0 P v ns) : ∀ (w : World) (L : List UInt8), Keeps [] w0 w → IsBld B b L w → B ≤ w.heap.size → L.length + (spellL ns).length ≤ 900000000 →
    Calls Tryz.prog 204 #[v, .pointer (some ⟨b, 0, none⟩), .func (.func 205) #[] #[.pointer (some ⟨b, 0, none⟩)]] w fun e w' => e = .returned (.tuple #[]) ∧ IsBld B b (L ++ spellL ns) w' ∧ KeepsB B b w w' := by
  induction h with
  | mk v l ns hns hl ha hk ih =>
    intro w L hkw hbl hBw hL
    subst hns
    have hE := enters205
    unfold Enters at hE
    obtain ⟨R, hR⟩ : ∃ R, spellL (l.map Pn.nd) = R := ⟨_, rfl⟩
    rw [hR] at hL ⊢
    have hlw := hl.keeps hkw (fun _ _ => List.not_mem_nil)
    obtain ⟨o, c, rfl, h1, h2⟩ := hlw.lies.form
    unfold maxLen at h2
    have hbw : b < w.heap.size := by rcases hbl with ⟨_, v, hb, _⟩ | ⟨_, v, hb, _⟩ <;> exact lt_of_block hb
    have HR := hide hR
    have HL := hide hl
    have HI := hide ih
    have HK := hide hkw
    have HBl0 := hide hbl
    have HAv := hide (fun p hp => (ha p hp).lies.form)
    have HKv := hide (fun p hp => (hk p hp).form)
    clear hR hlw hl ha hk ih hkw hbl
    go_enter Tryz.func204, Tryz.ntmps204
    go_wp2_with fail
    go_loopw [10] (fun i wr => ∃ (k : Nat) (A : List UInt8), k ≤ l.length ∧ i = .int .i64 k ∧ IsBld B b (L ++ A) wr ∧ KeepsB B b w wr ∧ Hid (A ++ spellL ((l.drop k).map Pn.nd) = R)) (fun i _ => l.length - (intOf i).toNat)
    case atStart => exact ⟨0, [], Nat.zero_le _, rfl, by rw [List.append_nil]; exact HBl0.out, KeepsB.refl _ _ _, hide (by rw [List.nil_append]; exact HR.out)⟩
    case round =>
      obtain ⟨k, A, hk, rfl, hbr, hkr, hH⟩ := hrel
      clear HR
      by_cases hlt : k < l.length
      · have hkn := hkr.nil HK.out hB0 hBb
        obtain ⟨g, x, hoo, hcl⟩ := (HL.out.lies.keeps hkn).addr (by omega)
        subst hoo
        obtain ⟨a0, a1, a2, a3⟩ := lies_pn hcl k hlt
        have hH1 := hH.out
        rw [spell_drop l k hlt] at hH1
        have hBr : B ≤ wr.heap.size := Nat.le_trans hBw hkr.size
        have hgb : wr.heap.size ≠ b := by have := hkr.size; omega
        have hki := HI.out l[k] (List.getElem_mem hlt)
        have hav := HAv.out l[k] (List.getElem_mem hlt)
        have hkv := HKv.out l[k] (List.getElem_mem hlt)
        have HH1 := hide hH1
        have HKI := hide hki
        clear hH hH1 hcl hki
        generalize l[k] = p at *
        obtain ⟨⟨nm, la, tx, ks⟩, av, kv⟩ := p
        simp only [Nd.name, Nd.text, Nd.kids, Nd.attrs] at a0 a1 a2 a3 HH1 HKI hav hkv
        obtain ⟨ao, ac, rfl, _, _⟩ := hav
        obtain ⟨ko, kc, rfl⟩ := hkv
        have hlen : A.length + ((blankN nm).length + (tx.length + ((spellL ks).length + ((blankN nm).length + (spellL ((l.drop (k + 1)).map Pn.nd)).length)))) = R.length := by rw [← HH1.out]; simp only [List.length_append]
        have HH2 : Hid ((A ++ (blankN nm ++ (tx ++ (spellL ks ++ blankN nm)))) ++ spellL ((l.drop (k + 1)).map Pn.nd) = R) := hide (by rw [← HH1.out]; simp)
        obtain ⟨W, hW⟩ : ∃ W, wr.alloc (.cells #[.string ⟨nm.toArray⟩, .slice ao la.length ac, .string ⟨tx.toArray⟩, .slice ko ks.length kc] 45) = W := ⟨_, rfl⟩
        have hkW : Keeps [] wr W := by rw [← hW]; exact (Keeps.refl [] wr).alloc _
        have HG := hide (fblk_new rfl hW).1
        have hBW : B ≤ W.heap.size := Nat.le_trans hBr hkW.size
        have HBl := hide (hbr.keeps hkW)
        have HKW := hide (hkr.trans (KeepsB.of hkW))
        have HW := hide hW
        have hbl1 := hide (fun w1 h1 h2 => blank_any B b (L ++ A) nm tx (.slice ao la.length ac) (.slice ko ks.length kc) w1 h1 (by simp; omega) h2)
        have hwr2 := hide (fun w1 h1 h2 => write_all B b (L ++ A ++ blankN nm) tx w1 h1 (by simp; omega) h2)
        have hki3 := hide (fun w1 (hk1 : KeepsB B b w w1) h1 h2 => HKI.out w1 (L ++ A ++ blankN nm ++ tx) (hk1.nil HK.out hB0 hBb) h1 h2 (by simp; omega))
        have hbl4 := hide (fun w1 h1 h2 => blank_any B b (L ++ A ++ blankN nm ++ tx ++ spellL ks) nm tx (.slice ao la.length ac) (.slice ko ks.length kc) w1 h1 (by simp; omega) h2)
        clear HH1 HKI hlen hkr hbr hkn hkW hW HI HAv HKv
        go_upto_region 3 with fail
        rw [HW.out]
        have m0 : W.cell? ⟨wr.heap.size, 0, none⟩ = some (.string ⟨nm.toArray⟩) := cell_blk HG.out 0
        have m1 : W.cell? ⟨wr.heap.size, 1, none⟩ = some (.slice ao la.length ac) := cell_blk HG.out 1
        have m2 : W.cell? ⟨wr.heap.size, 2, none⟩ = some (.string ⟨tx.toArray⟩) := cell_blk HG.out 2
        have m3 : W.cell? ⟨wr.heap.size, 3, none⟩ = some (.slice ko ks.length kc) := cell_blk HG.out 3
        go_wp2_with fail
        refine (hbl1.out W HBl.out hBW).mono ?_
        rintro e w1 ⟨rfl, hb1, hk1⟩
        have HG := hide (hk1.blk HG.out (by decide) hgb)
        have HB1 := hide hb1
        have HK1 := hide (HKW.out.trans hk1)
        have hB1 : B ≤ w1.heap.size := Nat.le_trans hBW hk1.size
        clear hb1 hk1 m0 m1 m2 m3
        have m0 : w1.cell? ⟨wr.heap.size, 0, none⟩ = some (.string ⟨nm.toArray⟩) := cell_blk HG.out 0
        have m1 : w1.cell? ⟨wr.heap.size, 1, none⟩ = some (.slice ao la.length ac) := cell_blk HG.out 1
        have m2 : w1.cell? ⟨wr.heap.size, 2, none⟩ = some (.string ⟨tx.toArray⟩) := cell_blk HG.out 2
        have m3 : w1.cell? ⟨wr.heap.size, 3, none⟩ = some (.slice ko ks.length kc) := cell_blk HG.out 3
        go_wp2_with fail
        refine (hwr2.out w1 HB1.out hB1).mono ?_
        rintro e w2 ⟨rfl, hb2, hk2⟩
        have HG := hide (hk2.blk HG.out (by decide) hgb)
        have HB2 := hide hb2
        have HK2 := hide (HK1.out.trans hk2)
        have hB2 : B ≤ w2.heap.size := Nat.le_trans hB1 hk2.size
        clear hb2 hk2 m0 m1 m2 m3
        have m0 : w2.cell? ⟨wr.heap.size, 0, none⟩ = some (.string ⟨nm.toArray⟩) := cell_blk HG.out 0
        have m1 : w2.cell? ⟨wr.heap.size, 1, none⟩ = some (.slice ao la.length ac) := cell_blk HG.out 1
        have m2 : w2.cell? ⟨wr.heap.size, 2, none⟩ = some (.string ⟨tx.toArray⟩) := cell_blk HG.out 2
        have m3 : w2.cell? ⟨wr.heap.size, 3, none⟩ = some (.slice ko ks.length kc) := cell_blk HG.out 3
        go_wp2_with fail
        refine (hki3.out w2 HK2.out HB2.out hB2).mono ?_
        rintro e w3 ⟨rfl, hb3, hk3⟩
        have HG := hide (hk3.blk HG.out (by decide) hgb)
        have HB3 := hide hb3
        have HK3 := hide (HK2.out.trans hk3)
        have hB3 : B ≤ w3.heap.size := Nat.le_trans hB2 hk3.size
        clear hb3 hk3 m0 m1 m2 m3
        have m0 : w3.cell? ⟨wr.heap.size, 0, none⟩ = some (.string ⟨nm.toArray⟩) := cell_blk HG.out 0
        have m1 : w3.cell? ⟨wr.heap.size, 1, none⟩ = some (.slice ao la.length ac) := cell_blk HG.out 1
        have m2 : w3.cell? ⟨wr.heap.size, 2, none⟩ = some (.string ⟨tx.toArray⟩) := cell_blk HG.out 2
        have m3 : w3.cell? ⟨wr.heap.size, 3, none⟩ = some (.slice ko ks.length kc) := cell_blk HG.out 3
        go_wp2_with fail
        refine (hbl4.out w3 HB3.out hB3).mono ?_
        rintro e w4 ⟨rfl, hb4, hk4⟩
        have HB4 := hide hb4
        have HK4 := hide (HK3.out.trans hk4)
        clear hb4 hk4 m0 m1 m2 m3
        go_wp2_with fail
        go_roundw
        case rel => exact ⟨k + 1, A ++ (blankN nm ++ (tx ++ (spellL ks ++ blankN nm))), by omega, by go_num, by rw [show L ++ (A ++ (blankN nm ++ (tx ++ (spellL ks ++ blankN nm)))) = L ++ A ++ blankN nm ++ tx ++ spellL ks ++ blankN nm from by simp]; exact HB4.out, HK4.out, HH2⟩
        case measure => simp [intOf]; omega
      · have hA : L ++ A = L ++ R := by
          have := hH.out
          rw [List.drop_eq_nil_of_le (by omega)] at this
          rw [← this]
          simp [spellL]
        rw [hA] at hbr
        go_wp2_with fail
        go_end0
        exact ⟨rfl, hbr, hkr⟩
end Go.Proofs.YtlcljanibjdejaaGreat
namespace Go.Proofs
open Go.Shelf
def Tryz.lays229_ren : Go.Shelf.Ren := ⟨fun | 229 => 209 | n => n, fun | 9 => 9 | 40 => 225 | 31 => 62 | 152 => 253 | 3 => 3 | 0 => 0 | 4 => 4 | 21 => 21 | 154 => 255 | n => n, fun | n => n⟩
theorem Tryz.lays229 : Go.Proofs.Lays.n229 Tryz.prog Tryz.lays229_ren := {
  mixed := by kernel_rfl
  f229 := Tryz.func209.trans (congrArg some (by kernel_rfl))
  t0 := Tryz.underlying0
  a0 := Tryz.isAgg0
  z0 := Tryz.sizeOf0
  v0 := Tryz.zeroValue0
  t3 := Tryz.underlying3
  a3 := Tryz.isAgg3
  z3 := Tryz.sizeOf3
  v3 := Tryz.zeroValue3
  t4 := Tryz.underlying4
  a4 := Tryz.isAgg4
  z4 := Tryz.sizeOf4
  v4 := Tryz.zeroValue4
  t9 := Tryz.underlying9
  a9 := Tryz.isAgg9
  z9 := Tryz.sizeOf9
  v9 := Tryz.zeroValue9
  t21 := Tryz.underlying21
  a21 := Tryz.isAgg21
  z21 := Tryz.sizeOf21
  v21 := Tryz.zeroValue21
  t31 := Tryz.underlying62
  a31 := Tryz.isAgg62
  z31 := Tryz.sizeOf62
  v31 := Tryz.zeroValue62
  t40 := Tryz.underlying225
  a40 := Tryz.isAgg225
  z40 := Tryz.sizeOf225
  v40 := Tryz.zeroValue225
  t152 := Tryz.underlying253
  a152 := Tryz.isAgg253
  z152 := Tryz.sizeOf253
  v152 := Tryz.zeroValue253
  t154 := Tryz.underlying255
  a154 := Tryz.isAgg255
  z154 := Tryz.sizeOf255
  v154 := Tryz.zeroValue255 }
def Tryz.lays144_ren : Go.Shelf.Ren := ⟨fun | 144 => 282 | 143 => 233 | 219 => 295 | 217 => 315 | 225 => 320 | 224 => 321 | 267 => 322 | 266 => 334 | 314 => 337 | n => n, fun | 9 => 9 | 4 => 4 | 3 => 3 | 5 => 5 | 46 => 245 | 146 => 274 | 51 => 270 | n => n, fun | 1 => 0 | n => n⟩
theorem Tryz.lays144 : Go.Proofs.Lays.n144 Tryz.prog Tryz.lays144_ren := {
  mixed := by kernel_rfl
  f143 := Tryz.func233.trans (congrArg some (by kernel_rfl))
  f144 := Tryz.func282.trans (congrArg some (by kernel_rfl))
  f217 := Tryz.func315.trans (congrArg some (by kernel_rfl))
  f219 := Tryz.func295.trans (congrArg some (by kernel_rfl))
  f224 := Tryz.func321.trans (congrArg some (by kernel_rfl))
  f225 := Tryz.func320.trans (congrArg some (by kernel_rfl))
  f266 := Tryz.func334.trans (congrArg some (by kernel_rfl))
  f267 := Tryz.func322.trans (congrArg some (by kernel_rfl))
  f314 := Tryz.func337.trans (congrArg some (by kernel_rfl))
  t3 := Tryz.underlying3
  a3 := Tryz.isAgg3
  z3 := Tryz.sizeOf3
  v3 := Tryz.zeroValue3
  t4 := Tryz.underlying4
  a4 := Tryz.isAgg4
  z4 := Tryz.sizeOf4
  v4 := Tryz.zeroValue4
  t5 := Tryz.underlying5
  a5 := Tryz.isAgg5
  z5 := Tryz.sizeOf5
  v5 := Tryz.zeroValue5
  t9 := Tryz.underlying9
  a9 := Tryz.isAgg9
  z9 := Tryz.sizeOf9
  v9 := Tryz.zeroValue9
  t46 := Tryz.underlying245
  a46 := Tryz.isAgg245
  z46 := Tryz.sizeOf245
  v46 := Tryz.zeroValue245
  t51 := Tryz.underlying270
  a51 := Tryz.isAgg270
  z51 := Tryz.sizeOf270
  v51 := Tryz.zeroValue270
  t146 := Tryz.underlying274
  a146 := Tryz.isAgg274
  z146 := Tryz.sizeOf274
  v146 := Tryz.zeroValue274
  g1 := by kernel_rfl }
open Go.RowKit in
/-- strings.Contains: "Contains reports whether substr is within s.": IT RETURNS 'Lib.contains s substr'; the world is as it was. (LAID: no walk: one application.) -/
theorem Tryz.strings_Contains (s sub : ByteArray) (m : Int) (w : World) (hs : s.size < 4294967281) (hm : w.cell? ⟨0, 0, none⟩ = some (.int .i64 m)) :
    Calls Tryz.prog 282 #[.string s, .string sub] w fun e w' => e = .returned (.bool (Lib.contains s.data.toList sub.data.toList)) ∧ w' = w := Any.strings_Contains Tryz.lays144 s sub m w hs hm
def Tryz.lays151_ren : Go.Shelf.Ren := ⟨fun | 151 => 280 | 152 => 314 | 137 => 287 | 119 => 333 | 224 => 321 | 225 => 320 | 217 => 315 | 266 => 334 | n => n, fun | 9 => 9 | 21 => 21 | 4 => 4 | 3 => 3 | 5 => 5 | 0 => 0 | 46 => 245 | n => n, fun | n => n⟩
theorem Tryz.lays151 : Go.Proofs.Lays.n151 Tryz.prog Tryz.lays151_ren := {
  mixed := by kernel_rfl
  f119 := Tryz.func333.trans (congrArg some (by kernel_rfl))
  f137 := Tryz.func287.trans (congrArg some (by kernel_rfl))
  f151 := Tryz.func280.trans (congrArg some (by kernel_rfl))
  f152 := Tryz.func314.trans (congrArg some (by kernel_rfl))
  f217 := Tryz.func315.trans (congrArg some (by kernel_rfl))
  f224 := Tryz.func321.trans (congrArg some (by kernel_rfl))
  f225 := Tryz.func320.trans (congrArg some (by kernel_rfl))
  f266 := Tryz.func334.trans (congrArg some (by kernel_rfl))
  t0 := Tryz.underlying0
  a0 := Tryz.isAgg0
  z0 := Tryz.sizeOf0
  v0 := Tryz.zeroValue0
  t3 := Tryz.underlying3
  a3 := Tryz.isAgg3
  z3 := Tryz.sizeOf3
  v3 := Tryz.zeroValue3
  t4 := Tryz.underlying4
  a4 := Tryz.isAgg4
  z4 := Tryz.sizeOf4
  v4 := Tryz.zeroValue4
  t5 := Tryz.underlying5
  a5 := Tryz.isAgg5
  z5 := Tryz.sizeOf5
  v5 := Tryz.zeroValue5
  t9 := Tryz.underlying9
  a9 := Tryz.isAgg9
  z9 := Tryz.sizeOf9
  v9 := Tryz.zeroValue9
  t21 := Tryz.underlying21
  a21 := Tryz.isAgg21
  z21 := Tryz.sizeOf21
  v21 := Tryz.zeroValue21
  t46 := Tryz.underlying245
  a46 := Tryz.isAgg245
  z46 := Tryz.sizeOf245
  v46 := Tryz.zeroValue245 }
open Go.RowKit in
theorem Tryz.strings_ContainsRune_ascii (s : ByteArray) (r : Int) (w : World) (h0 : 0 ≤ r) (h1 : r < 128) :
    Calls Tryz.prog 280 #[.string s, .int .i32 r] w fun e w' => e = .returned (.bool (decide (0 ≤ Lib.indexByte s.data.toList r.toNat.toUInt8))) ∧ w' = w := Any.strings_ContainsRune_ascii Tryz.lays151 s r w h0 h1
open Go.RowKit in
theorem Tryz.strings_FieldsFunc_grows (g : Nat) (lb : Array Value) (eg : ∀ args w, (callFunc g args).run Tryz.prog w = .ok (.enter g args) w) (p : Nat → Bool) (s : ByteArray) (w : World) (hs : s.size ≤ 4294967296) (hp : PredGrows Tryz.prog g lb p w) :
    Calls Tryz.prog 209 #[.string s, .func (.func g) #[] lb] w fun e w' => ∃ A, e = .returned (.slice (some ⟨A, 0, none⟩) (Lib.goFieldsP p s).length (Lib.goFieldsP p s).length) ∧ w.heap.size ≤ A ∧
      w'.ownsRow w.heap.size 9 1 (.slice (some ⟨A, 0, none⟩) (Lib.goFieldsP p s).length (Lib.goFieldsP p s).length) (Lib.goFieldsP p s).length ((Lib.goFieldsP p s).map Value.string) ∧ Below w.heap.size w w' := Any.strings_FieldsFunc_grows Tryz.lays229 g lb eg p s w hs hp (by kernel_rfl) (by kernel_rfl)
end Go.Proofs
namespace Go.Proofs
open Go.Shelf
def Tryz.lays156_ren : Go.Shelf.Ren := ⟨fun | 156 => 208 | 165 => 279 | 166 => 144 | 169 => 98 | 240 => 214 | 241 => 313 | 276 => 283 | 277 => 332 | n => n, fun | 31 => 62 | 9 => 9 | 3 => 3 | 4 => 4 | 0 => 0 | 20 => 20 | 72 => 134 | 76 => 175 | 70 => 132 | 37 => 107 | 75 => 174 | 127 => 203 | 164 => 257 | 5 => 5 | 80 => 111 | n => n, fun | n => n⟩
theorem Tryz.lays156 : Go.Proofs.Lays.n156 Tryz.prog Tryz.lays156_ren := {
  mixed := by kernel_rfl
  f156 := Tryz.func208.trans (congrArg some (by kernel_rfl))
  f165 := Tryz.func279.trans (congrArg some (by kernel_rfl))
  f166 := Tryz.func144.trans (congrArg some (by kernel_rfl))
  f169 := Tryz.func98.trans (congrArg some (by kernel_rfl))
  f240 := Tryz.func214.trans (congrArg some (by kernel_rfl))
  f241 := Tryz.func313.trans (congrArg some (by kernel_rfl))
  f276 := Tryz.func283.trans (congrArg some (by kernel_rfl))
  f277 := Tryz.func332.trans (congrArg some (by kernel_rfl))
  t0 := Tryz.underlying0
  a0 := Tryz.isAgg0
  z0 := Tryz.sizeOf0
  v0 := Tryz.zeroValue0
  t3 := Tryz.underlying3
  a3 := Tryz.isAgg3
  z3 := Tryz.sizeOf3
  v3 := Tryz.zeroValue3
  t4 := Tryz.underlying4
  a4 := Tryz.isAgg4
  z4 := Tryz.sizeOf4
  v4 := Tryz.zeroValue4
  t9 := Tryz.underlying9
  a9 := Tryz.isAgg9
  z9 := Tryz.sizeOf9
  v9 := Tryz.zeroValue9
  t20 := Tryz.underlying20
  a20 := Tryz.isAgg20
  z20 := Tryz.sizeOf20
  v20 := Tryz.zeroValue20
  t31 := Tryz.underlying62
  a31 := Tryz.isAgg62
  z31 := Tryz.sizeOf62
  v31 := Tryz.zeroValue62
  t37 := Tryz.underlying107
  a37 := Tryz.isAgg107
  z37 := Tryz.sizeOf107
  v37 := Tryz.zeroValue107
  t70 := Tryz.underlying132
  a70 := Tryz.isAgg132
  z70 := Tryz.sizeOf132
  v70 := Tryz.zeroValue132
  t72 := Tryz.underlying134
  a72 := Tryz.isAgg134
  z72 := Tryz.sizeOf134
  v72 := Tryz.zeroValue134
  t75 := Tryz.underlying174
  a75 := Tryz.isAgg174
  z75 := Tryz.sizeOf174
  v75 := Tryz.zeroValue174
  t76 := Tryz.underlying175
  a76 := Tryz.isAgg175
  z76 := Tryz.sizeOf175
  v76 := Tryz.zeroValue175
  t127 := Tryz.underlying203
  a127 := Tryz.isAgg203
  z127 := Tryz.sizeOf203
  v127 := Tryz.zeroValue203
  t164 := Tryz.underlying257
  a164 := Tryz.isAgg257
  z164 := Tryz.sizeOf257
  v164 := Tryz.zeroValue257 }
theorem Tryz.Builder_Extra_156 : Builder.Extra Tryz.prog Tryz.lays156_ren := {
  sizeBuilder := by kernel_rfl
  liesBuilder := by kernel_rfl
  t5 := Tryz.underlying5
  a5 := Tryz.isAgg5
  z5 := Tryz.sizeOf5
  v5 := Tryz.zeroValue5
  infoByte := by kernel_rfl
  cellsByte := by kernel_rfl
  sizeByte := by kernel_rfl
  neB5 := by decide }
open Go.RowKit in
/-- No element: the empty string; the world is as it was. (Whatever the slice's address and capacity: a nil slice too.) (LAID: no walk: one application.) -/
theorem Tryz.strings_Join_none (a : Option Addr) (c : Nat) (sep : ByteArray) (w : World) :
    Calls Tryz.prog 208 #[.slice a 0 c, .string sep] w fun e w' => e = .returned (.string ⟨#[]⟩) ∧ w' = w := Any.strings_Join_none Tryz.lays156 Tryz.Builder_Extra_156 a c sep w
open Go.RowKit in
/-- strings.Join: "Join concatenates the elements of its first argument to create a single string. The separator string sep is placed between elements in the resulting string.": HOWEVER MANY ELEMENTS. Below the heap's end the world is as it was. (LAID: no walk: one application.) -/
theorem Tryz.strings_Join (bk o c : Nat) (xs : List ByteArray) (sep : ByteArray) (w : World) (hcells : ∀ (j : Nat) x, xs[j]? = some x → w.cell? ⟨bk, o + j, none⟩ = some (.string x)) (hbk : bk < w.heap.size) (hN : xs.length ≤ 140737488355328) (hcap : xs.length ≤ c) (hlen : (Lib.join (xs.map (·.data.toList)) sep.data.toList).length ≤ 140737488355328) :
    Calls Tryz.prog 208 #[.slice (some ⟨bk, o, none⟩) xs.length c, .string sep] w fun e w' => e = .returned (.string ⟨(Lib.join (xs.map (·.data.toList)) sep.data.toList).toArray⟩) ∧ Below w.heap.size w w' := Any.strings_Join Tryz.lays156 Tryz.Builder_Extra_156 bk o c xs sep w hcells hbk hN hcap hlen
def Tryz.lays137_ren : Go.Shelf.Ren := ⟨fun | 137 => 287 | 217 => 315 | 266 => 334 | n => n, fun | 9 => 9 | 5 => 5 | 3 => 3 | n => n, fun | n => n⟩
theorem Tryz.lays137 : Go.Proofs.Lays.n137 Tryz.prog Tryz.lays137_ren := {
  mixed := by kernel_rfl
  f137 := Tryz.func287.trans (congrArg some (by kernel_rfl))
  f217 := Tryz.func315.trans (congrArg some (by kernel_rfl))
  f266 := Tryz.func334.trans (congrArg some (by kernel_rfl))
  t3 := Tryz.underlying3
  a3 := Tryz.isAgg3
  z3 := Tryz.sizeOf3
  v3 := Tryz.zeroValue3
  t5 := Tryz.underlying5
  a5 := Tryz.isAgg5
  z5 := Tryz.sizeOf5
  v5 := Tryz.zeroValue5
  t9 := Tryz.underlying9
  a9 := Tryz.isAgg9
  z9 := Tryz.sizeOf9
  v9 := Tryz.zeroValue9 }
open Go.RowKit in
/-- strings.IndexByte: "IndexByte returns the index of the first instance of c in s, or -1 if c is not present in s.": IT RETURNS 'Lib.indexByte s c'; the world is as it was. (LAID: no walk: one application.) -/
theorem Tryz.strings_IndexByte (s : ByteArray) (c : Int) (w : World) :
    Calls Tryz.prog 287 #[.string s, .int .u8 c] w fun e w' => e = .returned (.int .i64 (Lib.indexByte s.data.toList c.toNat.toUInt8)) ∧ w' = w := Any.strings_IndexByte Tryz.lays137 s c w
end Go.Proofs
namespace Go.Proofs.YtlcljanibjdejaaGreat
open Go.RowKit Go.Maps
theorem iter_pos {w : World} {k : Nat} {s : ByteArray} {p : Nat} (h : w.heap[k]? = some (.stringIter s p)) : w.iterPos k = p := by simp [World.iterPos, h]
def S5 : ByteArray := ⟨#[9, 10, 12, 13, 32]⟩
set_option maxRecDepth 4000 in
set_option maxHeartbeats 2000000 in
theorem idxRune_bad (w : World) : Calls Tryz.prog 314 #[.string S5, .int .i32 65533] w fun e w' => e = .returned (.int .i64 (-1)) ∧ Below w.heap.size w w' := by
  have hsz : S5.size = 5 := rfl
  go_enter Tryz.func314, Tryz.ntmps314
  go_wp2_with fail
  go_loopw [5, 6] (fun _ _ wr => ∃ pos, pos ≤ 5 ∧ wr.heap[w.heap.size]? = some (.stringIter S5 pos) ∧ Below w.heap.size w wr) (fun _ _ wr => 5 - wr.iterPos w.heap.size)
  case atStart => exact ⟨0, Nat.zero_le _, World.iter_heap w S5 0, (Below.refl _ w).alloc (Nat.le_refl _) _⟩
  case round =>
    obtain ⟨pos, hp, hit, hbw⟩ := hrel
    by_cases hlt : pos < 5
    · have hnx : ∀ ty, (Instr.next (.pointer (some ⟨w.heap.size, 0, none⟩)) true ty).run Tryz.prog wr = _ := fun ty => Lib.run_next_any_at wr w.heap.size S5 pos ty hit (by rw [hsz]; exact hlt)
      have hdec : (Utf8.decode S5 pos).2 = 1 ∧ ((Utf8.decode S5 pos).1 == 65533) = false := by
        match pos, hlt with
        | 0, _ => exact ⟨by kernel_rfl, by kernel_rfl⟩
        | 1, _ => exact ⟨by kernel_rfl, by kernel_rfl⟩
        | 2, _ => exact ⟨by kernel_rfl, by kernel_rfl⟩
        | 3, _ => exact ⟨by kernel_rfl, by kernel_rfl⟩
        | 4, _ => exact ⟨by kernel_rfl, by kernel_rfl⟩
      obtain ⟨R, hR⟩ : ∃ R, (Utf8.decode S5 pos).1 = R := ⟨_, rfl⟩
      rw [hR, hdec.1] at hnx
      have hne := hdec.2
      rw [hR] at hne
      have hne2 : ((R : Int) == 65533) = false := by simp at hne ⊢; omega
      have hit2 := Lib.iterAt_heap wr w.heap.size S5 pos (pos + 1) hit
      have hbw2 := Lib.below_iterAt hbw (k := w.heap.size) (Nat.le_refl _) S5 (pos + 1)
      have hip : wr.iterPos w.heap.size = pos := iter_pos hit
      obtain ⟨W, hWd⟩ : ∃ W, wr.iterAt w.heap.size S5 (pos + 1) = W := ⟨_, rfl⟩
      rw [hWd] at hnx hit2 hbw2
      clear hit hbw hdec hR hne
      go_wp2_with fail
      go_roundw
      case rel => exact ⟨pos + 1, by omega, hit2, hbw2⟩
      case measure => rw [hip, iter_pos hit2]; omega
    · have he : pos = 5 := by omega
      subst he
      have hnx : ∀ ty, (Instr.next (.pointer (some ⟨w.heap.size, 0, none⟩)) true ty).run Tryz.prog wr = _ := fun ty => Lib.run_next_end_at wr w.heap.size S5 5 ty hit (by rw [hsz]; omega)
      go_wp2_with fail
      go_ret
      exact ⟨rfl, hbw⟩
theorem validRune_any (x : Int) (w : World) : Calls Tryz.prog 333 #[.int .i32 x] w fun e w' => (e = .returned (.bool true) ∨ e = .returned (.bool false)) ∧ w' = w := by
  go_enter Tryz.func333, Tryz.ntmps333
  go_wp2_with fail
  all_goals go_ret
  all_goals first | exact ⟨.inl rfl, rfl⟩ | exact ⟨.inr rfl, rfl⟩
theorem enc_forms (x : Nat) (h0 : 128 ≤ x) : (∃ a z, Utf8.encode (x : Int) = ⟨#[a, z]⟩ ∧ 128 ≤ z.toNat) ∨ (∃ a b z, Utf8.encode (x : Int) = ⟨#[a, b, z]⟩ ∧ 128 ≤ z.toNat) ∨ (∃ a b c z, Utf8.encode (x : Int) = ⟨#[a, b, c, z]⟩ ∧ 128 ≤ z.toNat) := by
  have key : ∀ c : Nat, 128 ≤ (UInt8.ofNat (0x80 + c % 64)).toNat := fun c => by simp; omega
  unfold Utf8.encode
  obtain ⟨c, hc⟩ : ∃ c, (if Utf8.valid (x : Int) then (x : Int).toNat else Utf8.runeError) = c := ⟨_, rfl⟩
  have hc1 : 128 ≤ c := by
    rw [← hc]
    split
    · omega
    · decide
  simp only [hc]
  rw [if_neg (by omega)]
  split
  · exact .inl ⟨_, _, rfl, key c⟩
  · split
    · exact .inr (.inl ⟨_, _, _, rfl, key c⟩)
    · exact .inr (.inr ⟨_, _, _, _, rfl, key c⟩)
theorem idx_no (s : ByteArray) (z : UInt8) (hz : 128 ≤ z.toNat) (hs : ∀ c ∈ s.data.toList, c.toNat < 128) (w : World) : Calls Tryz.prog 287 #[.string s, .int .u8 z.toNat] w fun e w' => e = .returned (.int .i64 (-1)) ∧ w' = w := by
  refine (Tryz.strings_IndexByte s z.toNat w).mono ?_
  rintro e w' ⟨rfl, h⟩
  refine ⟨?_, h⟩
  have e1 : ((z.toNat : Int).toNat.toUInt8) = z := by simp
  rw [e1]
  have e2 : ∀ l : List UInt8, (∀ c ∈ l, c.toNat < 128) → Lib.indexByte l z = -1 := fun l => by
    induction l with
    | nil => intro _; rfl
    | cons c l ih =>
      intro h
      have h1 := h c (by simp)
      have h2 := ih (fun d hd => h d (by simp [hd]))
      have hne : ¬ c = z := fun e => by subst e; omega
      simp [Lib.indexByte, hne, h2]
  rw [e2 _ hs]
end Go.Proofs.YtlcljanibjdejaaGreat
namespace Go.Proofs.YtlcljanibjdejaaGreat
open Go.RowKit Go.Maps
theorem slice_from (s : ByteArray) (k : Nat) (h : k ≤ s.size) (w : World) : (Instr.slice 9 (.string s) (some (.int .i64 (k : Int))) none none).run Tryz.prog w = .ok (.string (s.extract k s.size)) w := by
  have h2 : (k : Int) ≤ (s.size : Int) := by omega
  simp [Instr.slice, run_underlying Tryz.underlying9, Instr.sliceBounds, run_sliceBound, h2, Result.andThen]
theorem below_of_keeps {w w' : World} (h : Keeps [] w w') : Below w.heap.size w w' := ⟨h.os, h.tape, h.output, h.size, fun k hk => h.block k hk List.not_mem_nil⟩
@[reducible] def SKw (W w' : World) : Prop := Keeps [] W w'
set_option maxRecDepth 8000 in
set_option maxHeartbeats 4000000 in
theorem idxRune_far (s : ByteArray) (hsz : 5 ≤ s.size) (hs5 : s.size ≤ 100) (hs : ∀ c ∈ s.data.toList, c.toNat < 128) (x : Nat) (h0 : 128 ≤ x) (h2 : x ≠ 65533) (w : World) : Calls Tryz.prog 314 #[.string s, .int .i32 x] w fun e w' => e = .returned (.int .i64 (-1)) ∧ Below w.heap.size w w' := by
  have hse := hide (fun (i j : Nat) => show ∀ c ∈ (s.extract i j).data.toList, c.toNat < 128 from fun c hc => hs c (by rw [ByteArray.data_extract, Array.toList_extract] at hc; exact List.mem_of_mem_drop (List.mem_of_mem_take (by simpa [List.extract] using hc))))
  have hsg := hide (fun (i : Nat) (h : i < s.size) => show (s[i]'h).toNat < 128 from hs _ (by rw [ByteArray.getElem_eq_getElem_data]; simp))
  have d0 : decide ((0 : Int) ≤ (x : Int)) = true := decide_eq_true (by omega)
  have d1 : decide ((x : Int) < 128) = false := decide_eq_false (by omega)
  have d2 : ((x : Int) == 65533) = false := by simp; omega
  have hv := hide (fun w => validRune_any x w)
  have hf := enc_forms x h0
  obtain ⟨E, hE⟩ : ∃ E, Utf8.encode (x : Int) = E := ⟨_, rfl⟩
  rw [hE] at hf
  have hcv0 : ∀ w, (convert 21 9 (.int .i32 (x : Int))).run Tryz.prog w = .ok (.string (Utf8.encode (x : Int))) w := fun w => run_convert_int_string w 21 9 .i32 (x : Int) (by rw [Tryz.underlying21]; rfl) Tryz.underlying9
  clear h2 hs
  rcases hf with ⟨a, z, hEE, hz⟩ | ⟨a, b, z, hEE, hz⟩ | ⟨a, b, c, z, hEE, hz⟩
  · rw [hEE] at hE
    have hcv : ∀ w, (convert 21 9 (.int .i32 (x : Int))).run Tryz.prog w = .ok (.string ⟨#[a, z]⟩) w := fun w => by rw [hcv0, hE]
    have ez : ∀ h, (⟨#[a, z]⟩ : ByteArray)[1]'h = z := fun _ => rfl
    have hcl := hsg.out 1 (by omega)
    have hl1 : decide ((1 : Int) < (s.size : Int)) = true := decide_eq_true (by omega)
    have hl2 : (2 : Int) ≤ (s.size : Int) := by omega
    have hw1 : IntKind.i64.wrap ((1 : Int) + 1) = 2 := by decide
    have hw2 : IntKind.i64.wrap (2 : Int) = 2 := by decide
    have hl3 : 2 ≤ s.size := by omega
    have hsl : ∀ w, (Instr.slice 9 (.string s) (some (.int .i64 2)) none none).run Tryz.prog w = .ok (.string (s.extract 2 s.size)) w := fun w => slice_from s 2 hl3 w
    have hl4 : 1 < s.size := by omega
    have hl5 : (1 : Int) < (s.size : Int) := by omega
    obtain ⟨cc, hcc⟩ : ∃ cc, s[1]'(by omega) = cc := ⟨_, rfl⟩
    rw [hcc] at hcl
    have es : ∀ h, s[1]'h = cc := fun _ => hcc
    have hib := hide (fun w => idx_no (s.extract 2 s.size) z hz (hse.out 2 s.size) w)
    have hn : ((cc.toNat : Int) != (z.toNat : Int)) = true := by
      have : ¬ ((cc.toNat : Int) = (z.toNat : Int)) := by omega
      rw [bne_iff_ne]
      exact this
    clear hcc hsz hs5
    clear hcv0 hEE
    go_enter Tryz.func314, Tryz.ntmps314
    go_wp2_with fail
    refine (hv.out _).mono ?_
    rintro e w1 ⟨rfl | rfl, h9⟩
    · subst h9
      obtain ⟨wo, hwo⟩ : ∃ wo, wo = w1 := ⟨_, rfl⟩
      subst hwo
      go_wp2_with fail
      go_step3
      go_wp2_with fail
      go_loopw [9, 10] (fun i f wr => i = .int .i64 1 ∧ f = .int .i64 0 ∧ wr = wo) (fun _ _ _ => 0)
      case atStart => exact ⟨rfl, rfl, rfl⟩
      case round =>
        obtain ⟨rfl, rfl, rfl⟩ := hrel
        go_wp2_with fail
        go_step3
        go_wp2_with fail
        go_quiet (fail)
        go_wp2_with fail
        have hkq : ∀ n, SKw wr (wr.drewN n) := fun n => (Keeps.refl [] wr).drewN n
        clear hv hse hsg hE hcv d0 d1 d2 h0 hcl hz hn es
        go_region_with (first | (go_at_call 287; refine (hib.out _).mono ?_; rintro e w7 ⟨rfl, h7⟩; subst h7))
        all_goals go_wp2_with fail
        all_goals simp (config := { zetaDelta := true }) only [Exit.noGoto_ret, Exit.inBlock, Exit.then]
        all_goals show bodyPost Tryz.prog Tryz.f314 _ Exit.ret _ _
        all_goals go_ret
        all_goals exact ⟨rfl, below_of_keeps ((Keeps.refl [] wr).drewN _)⟩
    · subst h9
      go_wp2_with fail
      go_ret
      exact ⟨rfl, Below.refl _ _⟩
  · rw [hEE] at hE
    have hcv : ∀ w, (convert 21 9 (.int .i32 (x : Int))).run Tryz.prog w = .ok (.string ⟨#[a, b, z]⟩) w := fun w => by rw [hcv0, hE]
    have ez : ∀ h, (⟨#[a, b, z]⟩ : ByteArray)[2]'h = z := fun _ => rfl
    have hcl := hsg.out 2 (by omega)
    have hl1 : decide ((2 : Int) < (s.size : Int)) = true := decide_eq_true (by omega)
    have hl2 : (3 : Int) ≤ (s.size : Int) := by omega
    have hw1 : IntKind.i64.wrap ((2 : Int) + 1) = 3 := by decide
    have hw2 : IntKind.i64.wrap (3 : Int) = 3 := by decide
    have hl3 : 3 ≤ s.size := by omega
    have hsl : ∀ w, (Instr.slice 9 (.string s) (some (.int .i64 3)) none none).run Tryz.prog w = .ok (.string (s.extract 3 s.size)) w := fun w => slice_from s 3 hl3 w
    have hl4 : 2 < s.size := by omega
    have hl5 : (2 : Int) < (s.size : Int) := by omega
    obtain ⟨cc, hcc⟩ : ∃ cc, s[2]'(by omega) = cc := ⟨_, rfl⟩
    rw [hcc] at hcl
    have es : ∀ h, s[2]'h = cc := fun _ => hcc
    have hib := hide (fun w => idx_no (s.extract 3 s.size) z hz (hse.out 3 s.size) w)
    have hn : ((cc.toNat : Int) != (z.toNat : Int)) = true := by
      have : ¬ ((cc.toNat : Int) = (z.toNat : Int)) := by omega
      rw [bne_iff_ne]
      exact this
    clear hcc hsz hs5
    clear hcv0 hEE
    go_enter Tryz.func314, Tryz.ntmps314
    go_wp2_with fail
    refine (hv.out _).mono ?_
    rintro e w1 ⟨rfl | rfl, h9⟩
    · subst h9
      obtain ⟨wo, hwo⟩ : ∃ wo, wo = w1 := ⟨_, rfl⟩
      subst hwo
      go_wp2_with fail
      go_step3
      go_wp2_with fail
      go_loopw [9, 10] (fun i f wr => i = .int .i64 2 ∧ f = .int .i64 0 ∧ wr = wo) (fun _ _ _ => 0)
      case atStart => exact ⟨rfl, rfl, rfl⟩
      case round =>
        obtain ⟨rfl, rfl, rfl⟩ := hrel
        go_wp2_with fail
        go_step3
        go_wp2_with fail
        go_quiet (fail)
        go_wp2_with fail
        have hkq : ∀ n, SKw wr (wr.drewN n) := fun n => (Keeps.refl [] wr).drewN n
        clear hv hse hsg hE hcv d0 d1 d2 h0 hcl hz hn es
        go_region_with (go_at_call 287; refine (hib.out _).mono ?_; rintro e w7 ⟨rfl, h7⟩; subst h7)
        all_goals go_wp2_with fail
        all_goals simp (config := { zetaDelta := true }) only [Exit.noGoto_ret, Exit.inBlock, Exit.then]
        all_goals show bodyPost Tryz.prog Tryz.f314 _ Exit.ret _ _
        all_goals go_ret
        all_goals exact ⟨rfl, below_of_keeps ((Keeps.refl [] wr).drewN _)⟩
    · subst h9
      go_wp2_with fail
      go_ret
      exact ⟨rfl, Below.refl _ _⟩
  · rw [hEE] at hE
    have hcv : ∀ w, (convert 21 9 (.int .i32 (x : Int))).run Tryz.prog w = .ok (.string ⟨#[a, b, c, z]⟩) w := fun w => by rw [hcv0, hE]
    have ez : ∀ h, (⟨#[a, b, c, z]⟩ : ByteArray)[3]'h = z := fun _ => rfl
    have hcl := hsg.out 3 (by omega)
    have hl1 : decide ((3 : Int) < (s.size : Int)) = true := decide_eq_true (by omega)
    have hl2 : (4 : Int) ≤ (s.size : Int) := by omega
    have hw1 : IntKind.i64.wrap ((3 : Int) + 1) = 4 := by decide
    have hw2 : IntKind.i64.wrap (4 : Int) = 4 := by decide
    have hl3 : 4 ≤ s.size := by omega
    have hsl : ∀ w, (Instr.slice 9 (.string s) (some (.int .i64 4)) none none).run Tryz.prog w = .ok (.string (s.extract 4 s.size)) w := fun w => slice_from s 4 hl3 w
    have hl4 : 3 < s.size := by omega
    have hl5 : (3 : Int) < (s.size : Int) := by omega
    obtain ⟨cc, hcc⟩ : ∃ cc, s[3]'(by omega) = cc := ⟨_, rfl⟩
    rw [hcc] at hcl
    have es : ∀ h, s[3]'h = cc := fun _ => hcc
    have hib := hide (fun w => idx_no (s.extract 4 s.size) z hz (hse.out 4 s.size) w)
    have hn : ((cc.toNat : Int) != (z.toNat : Int)) = true := by
      have : ¬ ((cc.toNat : Int) = (z.toNat : Int)) := by omega
      rw [bne_iff_ne]
      exact this
    clear hcc hsz hs5
    clear hcv0 hEE
    go_enter Tryz.func314, Tryz.ntmps314
    go_wp2_with fail
    refine (hv.out _).mono ?_
    rintro e w1 ⟨rfl | rfl, h9⟩
    · subst h9
      obtain ⟨wo, hwo⟩ : ∃ wo, wo = w1 := ⟨_, rfl⟩
      subst hwo
      go_wp2_with fail
      go_step3
      go_wp2_with fail
      go_loopw [9, 10] (fun i f wr => i = .int .i64 3 ∧ f = .int .i64 0 ∧ wr = wo) (fun _ _ _ => 0)
      case atStart => exact ⟨rfl, rfl, rfl⟩
      case round =>
        obtain ⟨rfl, rfl, rfl⟩ := hrel
        go_wp2_with fail
        go_step3
        go_wp2_with fail
        go_quiet (fail)
        go_wp2_with fail
        have hkq : ∀ n, SKw wr (wr.drewN n) := fun n => (Keeps.refl [] wr).drewN n
        clear hv hse hsg hE hcv d0 d1 d2 h0 hcl hz hn es
        go_region_with (go_at_call 287; refine (hib.out _).mono ?_; rintro e w7 ⟨rfl, h7⟩; subst h7)
        all_goals go_wp2_with fail
        all_goals simp (config := { zetaDelta := true }) only [Exit.noGoto_ret, Exit.inBlock, Exit.then]
        all_goals show bodyPost Tryz.prog Tryz.f314 _ Exit.ret _ _
        all_goals go_ret
        all_goals exact ⟨rfl, below_of_keeps ((Keeps.refl [] wr).drewN _)⟩
    · subst h9
      go_wp2_with fail
      go_ret
      exact ⟨rfl, Below.refl _ _⟩
end Go.Proofs.YtlcljanibjdejaaGreat
namespace Go.Proofs.YtlcljanibjdejaaGreat
open Go.RowKit Go.Maps
def whiteR (x : Nat) : Bool := x == 9 || x == 10 || x == 12 || x == 13 || x == 32
theorem white_low : ∀ x : Nat, x < 128 → decide (0 ≤ Lib.indexByte [9, 10, 12, 13, 32] (Int.toNat (x : Int)).toUInt8) = whiteR x := by decide +kernel
theorem contains_far (x : Nat) (h0 : 128 ≤ x) (w : World) : Calls Tryz.prog 280 #[.string S5, .int .i32 x] w fun e w' => e = .returned (.bool false) ∧ Below w.heap.size w w' := by
  have hi : Hid (Calls Tryz.prog 314 #[.string S5, .int .i32 x] w fun e w' => e = .returned (.int .i64 (-1)) ∧ Below w.heap.size w w') := by
    by_cases h2 : x = 65533
    · subst h2; exact hide (idxRune_bad w)
    · exact hide (idxRune_far S5 (by decide) (by decide) (by decide +kernel) x h0 h2 w)
  clear h0
  go_enter Tryz.func280, Tryz.ntmps280
  go_wp2_with fail
  refine hi.out.mono ?_
  rintro e w1 ⟨rfl, hb⟩
  go_wp2_with fail
  go_ret
  exact ⟨rfl, hb⟩
theorem isWhiteR_any (x : Nat) (w : World) : Calls Tryz.prog 210 #[.int .i32 x] w fun e w' => e = .returned (.bool (whiteR x)) ∧ Below w.heap.size w w' := by
  have hc : Hid (Calls Tryz.prog 280 #[.string S5, .int .i32 x] w fun e w' => e = .returned (.bool (whiteR x)) ∧ Below w.heap.size w w') := by
    by_cases h : x < 128
    · refine hide ((Tryz.strings_ContainsRune_ascii S5 x w (by omega) (by omega)).mono ?_)
      rintro e w' ⟨rfl, rfl⟩
      exact ⟨by rw [show S5.data.toList = [9, 10, 12, 13, 32] from rfl, white_low x h], Below.refl _ _⟩
    · have hw : whiteR x = false := by simp [whiteR]; omega
      rw [hw]
      exact hide (contains_far x (by omega) w)
  unfold S5 at hc
  generalize whiteR x = R at *
  go_enter Tryz.func210, Tryz.ntmps210
  go_wp2_with fail
  refine hc.out.mono ?_
  rintro e w1 ⟨rfl, hb⟩
  go_wp2_with fail
  go_ret
  exact ⟨rfl, hb⟩
theorem white_grows (w : World) : PredGrows Tryz.prog 210 #[] whiteR w := fun W x _ _ => isWhiteR_any x W
end Go.Proofs.YtlcljanibjdejaaGreat
namespace Go.Proofs.YtlcljanibjdejaaGreat
open Go.RowKit Go.Maps
theorem keeps_below {B : Nat} {w w' : World} (h : Below B w w') (hB : w.heap.size ≤ B) : Keeps [] w w' := ⟨h.os, h.tape, h.output, h.size, fun k hk _ => h.block k (by omega)⟩
def fieldsR (l : List UInt8) : List ByteArray := Lib.goFieldsP whiteR ⟨l.toArray⟩
def wordsL (l : List UInt8) : List UInt8 := Lib.join ((fieldsR l).map (·.data.toList)) [32]
theorem enters210 : Enters 210 := enters_of Tryz.func210 (by kernel_rfl) (by kernel_rfl)
set_option maxRecDepth 8000 in
set_option maxHeartbeats 4000000 in
theorem words_any (w : World) (v : Value) (ns : List Nd) (h : Ns w (fun _ => True) v ns) (hl : (spellL ns).length ≤ 900000000) (hfl : (fieldsR (spellL ns)).length ≤ 140737488355328) (hjl : (wordsL (spellL ns)).length ≤ 140737488355328) :
    Calls Tryz.prog 135 #[v] w fun e w' => e = .returned (.string ⟨(wordsL (spellL ns)).toArray⟩) ∧ Keeps [] w w' := by
  obtain ⟨o, c, rfl⟩ := h.form
  obtain ⟨W, hW⟩ : ∃ W, w.alloc (.cells #[.pointer none, .slice none 0 0] 134) = W := ⟨_, rfl⟩
  have hkW : Keeps [] w W := by rw [← hW]; exact (Keeps.refl [] w).alloc _
  have hbd : IsBld w.heap.size w.heap.size [] W := by rw [← hW]; exact bld_new w
  have hsp := hide (spell_all w.heap.size w.heap.size (fun _ => True) w (Nat.le_refl _) (Nat.le_refl _) _ ns h W [] hkW hbd hkW.size (by simpa using hl))
  rw [List.nil_append] at hsp
  have hE205 := enters205
  have hE210 := enters210
  have hst := hide (fun w1 (h1 : IsBld w.heap.size w.heap.size (spellL ns) w1) (h2 : w.heap.size ≤ w1.heap.size) => Tryz.Builder_String_any w.heap.size w.heap.size (spellL ns) w1 h1 h2)
  have hff := hide (fun w1 => Tryz.strings_FieldsFunc_grows 210 #[] hE210 whiteR ⟨(spellL ns).toArray⟩ w1 (by rw [str_size]; omega) (white_grows w1))
  have HW := hide hW
  have HKW := hide hkW
  unfold wordsL at hjl ⊢
  unfold fieldsR at hfl hjl ⊢
  have hmf : ∀ (fn : Fn) (first cap : Array Value) (w : World), (Instr.makeFunc fn first cap).run Tryz.prog w = .ok (.func fn first cap) w := fun _ _ _ _ => rfl
  generalize Lib.goFieldsP whiteR ⟨(spellL ns).toArray⟩ = F at *
  obtain ⟨R, hR⟩ : ∃ R, Lib.join (F.map (·.data.toList)) [32] = R := ⟨_, rfl⟩
  rw [hR]
  have HR := hide hR
  clear hR
  generalize spellL ns = SP at *
  clear hW hkW hbd h hl
  go_enter Tryz.func135, Tryz.ntmps135
  go_upto_region 2 with fail
  rw [HW.out]
  go_wp2_with fail
  refine hsp.out.mono ?_
  rintro e w1 ⟨rfl, hb1, hk1⟩
  have hB1 : w.heap.size ≤ w1.heap.size := Nat.le_trans HKW.out.size hk1.size
  have HB1 := hide hb1
  have HK1 := hide (hk1.nil HKW.out (Nat.le_refl _) (Nat.le_refl _))
  clear hb1 hk1
  go_wp2_with fail
  refine (hst.out w1 HB1.out hB1).mono ?_
  rintro e w2 ⟨rfl, hb2⟩
  have HK2 := hide (⟨hb2.os.trans HK1.out.os, hb2.tape.trans HK1.out.tape, hb2.output.trans HK1.out.output, Nat.le_trans HK1.out.size hb2.size, fun k hk _ => (hb2.block k hk).trans (HK1.out.block k hk List.not_mem_nil)⟩ : Keeps [] w w2)
  clear hb2
  go_wp2_with fail
  refine (hff.out w2).mono ?_
  rintro e w3 ⟨A, rfl, hA, hrow, hb3⟩
  have HK3 := hide (HK2.out.trans (keeps_below hb3 (Nat.le_refl _)))
  clear hb3
  by_cases h0 : F.length = 0
  · have hF : F = [] := List.eq_nil_of_length_eq_zero h0
    subst hF
    have hj := hide (fun a c w => Tryz.strings_Join_none a c ⟨#[32]⟩ w)
    have hR0 : R = [] := by rw [← HR.out]; rfl
    subst hR0
    clear hrow HR
    go_wp2_with fail
    refine (hj.out _ _ _).mono ?_
    rintro e w4 ⟨rfl, h9⟩
    subst h9
    go_wp2_with fail
    go_ret
    exact ⟨rfl, HK3.out⟩
  · have hcl : ∀ (j : Nat) x, F[j]? = some x → w3.cell? ⟨A, 0 + j, none⟩ = some (.string x) := fun j x hj => by
      obtain ⟨g, y, e, hc⟩ := (Lies.of_row hrow).addr (by omega)
      injection e with e
      injection e with e1 e2 e3
      subst e1 e2
      exact hc j _ (by rw [List.getElem?_map, hj]; rfl)
    have hAl : A < w3.heap.size := (hrow.lt A (by simp [Value.ownBlock])).2
    have hj := hide (Tryz.strings_Join A 0 F.length F ⟨#[32]⟩ w3 hcl hAl hfl (Nat.le_refl _) hjl)
    have e32 : (⟨#[32]⟩ : ByteArray).data.toList = [32] := rfl
    rw [e32, HR.out] at hj
    clear hrow hcl
    go_wp2_with fail
    refine hj.out.mono ?_
    rintro e w4 ⟨rfl, hb4⟩
    go_wp2_with fail
    go_ret
    exact ⟨rfl, HK3.out.trans (keeps_below hb4 (Nat.le_refl _))⟩
end Go.Proofs.YtlcljanibjdejaaGreat
