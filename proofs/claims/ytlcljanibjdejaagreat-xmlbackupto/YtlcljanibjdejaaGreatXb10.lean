/- Strict trees: ends, what stands around, kids and elements. Strict trees: an element. Strict trees: what is in an element. -/
import Derived.Test.YtlcljanibjdejaaGreatXb09
namespace Go.Proofs.YtlcljanibjdejaaGreat
open Go.RowKit Go.Maps
theorem Ls.past {w w' : World} {B r : Nat} {allv textv : Value} {l : List Pn} {text : List UInt8} {S : List Nat} (h : Ls w B r allv textv l text) (hk : Keeps S w w') (hS : ∀ g, g ∈ S → g < B) : Ls w' B r allv textv l text :=
  ⟨by rw [hk.block r h.lt (fun hm => by have := hS _ hm; have := h.hr; omega)]; exact h.blk, hk.owns h.all (fun g hg hm => by have := hS _ hm; have := (h.all.lt g hg).1; omega), hk.owns h.txt (fun g hg hm => by have := hS _ hm; have := (h.txt.lt g hg).1; omega),
    fun q hq => ⟨(h.done q hq).1.keeps hk (fun g hg hm => by have := hS _ hm; have := hg.1; omega), (h.done q hq).2.keeps hk (fun g hg hm => by have := hS _ hm; have := hg.1; omega)⟩, h.hr, h.pos⟩
theorem LsT.past {w w' : World} {B r : Nat} {s : Lst} {T : List Nat} {S : List Nat} (h : LsT w B r s T) (hk : Keeps S w w') (hS : ∀ g, g ∈ S → g < B) : LsT w' B r s T := by
  obtain ⟨a, t, l, e1, e2, h⟩ := h
  exact ⟨a, t, l, e1, e2, h.past hk hS⟩
set_option maxHeartbeats 1000000 in
theorem end260 (r b : Nat) (s : ByteArray) (l n : List UInt8) (w : World) (hs : s.size ≤ 3000) (h : Xr w r b s l) :
    Calls Tryz.prog 260 #[.pointer (some ⟨r, 0, none⟩), .string ⟨n.toArray⟩] w fun e w' => Gives (endX n l) (fun l' e w' => e = .returned (.tuple #[]) ∧ Xr w' r b s l') e w' ∧ Keeps [b] w w' := by
  have hmu := hide (fun (m L : List UInt8) (w1 : World) (hX : Xr w1 r b s L) => must255 r b s L m w1 hs hX)
  have hti := hide (fun (L : List UInt8) (w1 : World) (hX : Xr w1 r b s L) => title256 r b s L w1 hs hX)
  have hwh := hide (fun (L : List UInt8) (w1 : World) (hX : Xr w1 r b s L) => white253 r b s L w1 hs hX)
  have HV : Hid (endX n l = match mustX [60, 47] l with | .error e => .error e | .ok l1 => match titleX l1 with | .error e => .error e | .ok (m, l2) => if (m == n) = true then mustX [62] (l2.dropWhile whiteX) else .error 4) := rfl
  have hX := hide h
  clear h
  go_enter Tryz.func260, Tryz.ntmps260
  go_wp2_with fail
  refine (hmu.out [60, 47] l _ hX.out).mono ?_
  rintro e w1 ⟨hg1, hk1⟩
  rcases hg1 with ⟨l1, hx1, rfl, hX1⟩ | ⟨k1, hx1, rfl⟩
  case inr => exact ⟨rfl, .inr ⟨k1, HV.out.trans (by rw [hx1]), rfl⟩, hk1⟩
  have HX1 := hide hX1
  have HE1 := hide hx1
  have HK1 := hide hk1
  clear hX1 hx1 hk1
  go_wp2_with fail
  refine (hti.out l1 _ HX1.out).mono ?_
  rintro e w2 ⟨hg2, hk2⟩
  rcases hg2 with ⟨⟨m, l2⟩, hx2, rfl, hX2⟩ | ⟨k2, hx2, rfl⟩
  case inr => exact ⟨rfl, .inr ⟨k2, HV.out.trans (by rw [HE1.out]; simp only [hx2]), rfl⟩, HK1.out.trans hk2⟩
  have HX2 := hide hX2
  have HE2 := hide hx2
  have HK2 := hide (HK1.out.trans hk2)
  clear hX2 hx2 hk2
  simp only at HX2
  have hse : ((⟨m.toArray⟩ : ByteArray).toList == (⟨n.toArray⟩ : ByteArray).toList) = (m == n) := by rw [strEq, Bool.eq_iff_iff]; simp
  cases hb : (m == n)
  · have hbe : decide (m = n) = false := by simpa using hb
    have hbn : (m != n) = true := by simpa using hb
    rw [hb] at hse
    go_wp2_with fail
    refine (with_any _ _).mono ?_
    rintro e w3 ⟨rfl, rfl⟩
    exact ⟨rfl, .inr ⟨4, HV.out.trans (by rw [HE1.out]; simp only [HE2.out, hb]; rfl), rfl⟩, HK2.out⟩
  · have hbe : decide (m = n) = true := by simpa using hb
    have hbn : (m != n) = false := by simpa using hb
    rw [hb] at hse
    go_wp2_with fail
    refine (hwh.out l2 _ HX2.out).mono ?_
    rintro e w3 ⟨rfl, hX3, hk3⟩
    have HX3 := hide hX3
    have HK3 := hide (HK2.out.trans hk3)
    clear hX3 hk3
    go_wp2_with fail
    refine (hmu.out [62] _ _ HX3.out).mono ?_
    rintro e w4 ⟨hg4, hk4⟩
    rcases hg4 with ⟨l4, hx4, rfl, hX4⟩ | ⟨k4, hx4, rfl⟩
    · have HX4 := hide hX4
      have HE4 := hide hx4
      clear hX4 hx4
      go_wp2_with fail
      go_end0
      exact ⟨.inl ⟨l4, HV.out.trans (by rw [HE1.out]; simp only [HE2.out, hb, if_true]; exact HE4.out), rfl, HX4.out⟩, HK3.out.trans hk4⟩
    · exact ⟨rfl, .inr ⟨k4, HV.out.trans (by rw [HE1.out]; simp only [HE2.out, hb, if_true]; exact hx4), rfl⟩, HK3.out.trans hk4⟩
set_option maxRecDepth 4000 in
set_option maxHeartbeats 2000000 in
theorem misc186 (r b : Nat) (s : ByteArray) (l : List UInt8) (w : World) (hs : s.size ≤ 3000) (h : Xr w r b s l) (hM : HasMax w) (hb0 : b ≠ 0) :
    Calls Tryz.prog 186 #[.pointer (some ⟨r, 0, none⟩)] w fun e w' => Gives (miscX (l.length + 1) l) (fun l' e w' => e = .returned (.tuple #[]) ∧ Xr w' r b s l') e w' ∧ Keeps [b] w w' := by
  have hX := hide h
  have hm0 := hide (fun (w1 : World) (hk : Keeps [b] w w1) => hM.keeps hk (by simpa using hb0.symm))
  obtain ⟨R, hR⟩ : ∃ R, miscX (l.length + 1) l = R := ⟨_, rfl⟩
  rw [hR]
  have HR := hide hR
  clear hR h hM
  go_enter Tryz.func186, Tryz.ntmps186
  go_wp2_with fail
  go_loopw [7] (fun _ wr => ∃ (l' : List UInt8) (f : Nat), Hid (Xr wr r b s l') ∧ Hid (Keeps [b] w wr) ∧ l'.length < f ∧ Hid (miscX f l' = R)) (fun _ wr => left b s wr)
  case atStart => exact ⟨l, l.length + 1, hX.out, Keeps.refl _ _, by omega, HR.out⟩
  case round =>
    obtain ⟨l', f, hXr, hkr, hf, hC⟩ := hrel
    obtain ⟨wo, hwo⟩ : ∃ wo, wo = wr := ⟨_, rfl⟩
    subst hwo
    clear HR hX
    cases f with
    | zero => omega
    | succ f =>
      have hleft := hide hXr.out.tx.left
      have hC1 := hC.out
      rw [miscX] at hC1
      have hwh := hide (white253 r b s l' wo hs hXr.out)
      cases hw0 : headX whiteX l'
      · have hd : l'.dropWhile whiteX = l' := by
          cases l' with
          | nil => rfl
          | cons x l' => simp only [headX] at hw0; rw [List.dropWhile_cons, if_neg (by simp [hw0])]
        rw [hw0, hd] at hwh
        rw [hw0] at hC1
        simp only [Bool.false_eq_true, if_false] at hC1
        have hre := hide (fun w1 (hX1 : Xr w1 r b s l') hM1 => remark254 r b s l' w1 hs hX1 hM1 hb0)
        have HC := hide hC1
        clear hC1 hC hw0 hd
        go_wp2_with fail
        refine hwh.out.mono ?_
        rintro e w1 ⟨rfl, hX1, hk1⟩
        have HK1 := hide (hkr.out.trans hk1)
        go_wp2_with fail
        refine (hre.out _ hX1 (hm0.out _ HK1.out)).mono ?_
        rintro e w2 ⟨hro, hk2⟩
        unfold RemOut at hro
        cases hrx : remX l' with
        | none =>
          rw [hrx] at hro
          obtain ⟨rfl, hX2⟩ := hro
          have HX2 := hide hX2
          have HE : Hid (R = .ok l') := by have h9 := HC.out; rw [hrx] at h9; exact h9.symm
          clear hrx hX1 hX2
          go_wp2_with fail
          go_end0
          rw [HE.out]
          exact ⟨.ok ⟨rfl, HX2.out⟩, HK1.out.trans hk2⟩
        | some x =>
          rw [hrx] at hro
          rcases hro with ⟨⟨t, l2⟩, rfl, rfl, hX2⟩ | ⟨k2, rfl, rfl⟩
          · have hl2 := remX_ok hrx
            have HX2 := hide hX2
            have HE : Hid (miscX f l2 = R) := by have h9 := HC.out; rw [hrx] at h9; exact h9
            have hms : left b s w2 < left b s wo := by rw [hX2.tx.left, hleft.out]; simp only; omega
            have HMS := hide hms
            clear hrx hX1 hX2 hms
            go_wp2_with fail
            exact ⟨⟨l2, f, HX2.out, HK1.out.trans hk2, by omega, HE.out⟩, HMS.out⟩
          · have HE : Hid (R = .error k2) := by have h9 := HC.out; rw [hrx] at h9; exact h9.symm
            exact ⟨rfl, .inr ⟨k2, HE.out, rfl⟩, HK1.out.trans hk2⟩
      · rw [hw0] at hC1 hwh
        simp only [if_true] at hC1
        have hpos : (l'.dropWhile whiteX).length < l'.length := by
          cases l' with
          | nil => simp [headX] at hw0
          | cons x l' =>
            simp only [headX] at hw0
            rw [List.dropWhile_cons, if_pos hw0]
            have := drop_le whiteX l'
            simp only [List.length_cons]
            omega
        have HC := hide hC1
        generalize l'.dropWhile whiteX = L at *
        clear hC1 hC hw0
        go_wp2_with fail
        refine hwh.out.mono ?_
        rintro e w1 ⟨rfl, hX1, hk1⟩
        have HX1 := hide hX1
        have HK1 := hide (hkr.out.trans hk1)
        have hms : left b s w1 < left b s wo := by rw [hX1.tx.left, hleft.out]; omega
        have HMS := hide hms
        clear hX1 hk1 hms
        go_wp2_with fail
        exact ⟨⟨L, f, HX1.out, HK1.out, by omega, HC.out⟩, HMS.out⟩
end Go.Proofs.YtlcljanibjdejaaGreat
namespace Go.Proofs.YtlcljanibjdejaaGreat
open Go.RowKit Go.Maps
theorem set4_blk {W : World} {nb : Nat} {u0 u1 u2 u3 : Value} (v0 v1 v2 v3 : Value) (h : W.heap[nb]? = some (.cells #[u0, u1, u2, u3] 45 (0, 0))) :
    ((((W.setCell ⟨nb, 0, none⟩ v0).setCell ⟨nb, 1, none⟩ v1).setCell ⟨nb, 2, none⟩ v2).setCell ⟨nb, 3, none⟩ v3).heap[nb]? = some (.cells #[v0, v1, v2, v3] 45 (0, 0)) := by
  simp [World.setCell, Array.getElem?_modify, h]
theorem set4_keeps (W : World) (nb : Nat) (v0 v1 v2 v3 : Value) : Keeps [nb] W ((((W.setCell ⟨nb, 0, none⟩ v0).setCell ⟨nb, 1, none⟩ v1).setCell ⟨nb, 2, none⟩ v2).setCell ⟨nb, 3, none⟩ v3) :=
  ((((Keeps.refl [nb] W).setCell (.inl (by simp)) _).setCell (.inl (by simp)) _).setCell (.inl (by simp)) _).setCell (.inl (by simp)) _
/-- What element comes to. -/
def ElOut (w : World) (r b : Nat) (s : ByteArray) (p : Nd × List UInt8) (e : Ending) (w' : World) : Prop :=
  ∃ oa ca ok ck, e = .returned (.agg #[.string ⟨p.1.name.toArray⟩, .slice oa p.1.attrs.length ca, .string ⟨p.1.text.toArray⟩, .slice ok p.1.kids.length ck]) ∧ LiesP w' (fun g => w.heap.size ≤ g) (.slice oa p.1.attrs.length ca) p.1.attrs.length 2 (pairCells p.1.attrs) ∧ Ns w' (fun g => w.heap.size ≤ g) (.slice ok p.1.kids.length ck) p.1.kids ∧ Xr w' r b s p.2
/-- What kids comes to. -/
def KidsOut (w : World) (r b : Nat) (s : ByteArray) (p : List Nd × List UInt8) (e : Ending) (w' : World) : Prop :=
  ∃ o c, e = .returned (.slice o p.1.length c) ∧ Ns w' (fun g => w.heap.size ≤ g) (.slice o p.1.length c) p.1 ∧ Xr w' r b s p.2
set_option maxRecDepth 4000 in
set_option maxHeartbeats 8000000 in
theorem element187 (r b : Nat) (s : ByteArray) (hs : s.size ≤ 3000) (hb0 : b ≠ 0) (f d : Nat) (hd : d ≤ 9)
    (hkids : d ≤ 8 → ∀ (l : List UInt8) (w : World), Xr w r b s l → HasMax w → 2 * l.length + 1 < f → Calls Tryz.prog 259 #[.pointer (some ⟨r, 0, none⟩), .int .i64 d] w fun e w' => Gives (kidsX f d ⟨[], []⟩ l) (KidsOut w r b s) e w' ∧ Keeps [b] w w')
    (l : List UInt8) (w : World) (h : Xr w r b s l) (hM : HasMax w) (hf : 2 * l.length < f + 1) :
    Calls Tryz.prog 187 #[.pointer (some ⟨r, 0, none⟩), .int .i64 d] w fun e w' => Gives (elementX (f + 1) d l) (ElOut w r b s) e w' ∧ Keeps [b] w w' := by
  have hX := hide h
  have hbl := h.tx.lt
  have hrl := h.lt
  have hm0 := hide (fun (w1 : World) (hk : Keeps [b] w w1) => hM.keeps hk (by simpa using hb0.symm))
  obtain ⟨W, hW⟩ : ∃ W, w.alloc (.cells #[.string ⟨#[]⟩, .slice none 0 0, .string ⟨#[]⟩, .slice none 0 0] 45) = W := ⟨_, rfl⟩
  have hkW : Keeps [] w W := by rw [← hW]; exact (Keeps.refl [] w).alloc _
  have hbR : W.heap[w.heap.size]? = some (.cells #[.string ⟨#[]⟩, .slice none 0 0, .string ⟨#[]⟩, .slice none 0 0] 45 (0, 0)) := by rw [← hW]; exact heap_alloc_new w _
  have hres : ∀ (tmps : Array Value) (w3 : World) (cs : Array Value), cs.size = 4 → tmps.getD 4 undef = .pointer (some ⟨w.heap.size, 0, none⟩) → w3.heap[w.heap.size]? = some (.cells cs 45 (0, 0)) → (results Tryz.f187 tmps).run Tryz.prog w3 = .ok (.agg cs) w3 := fun tmps w3 cs hc hp hg => results_cell_row (P := Tryz.prog) rfl tmps w3 _ 45 cs (0, 0) _ hp hg Tryz.underlying45 rfl (by rw [hc]; kernel_rfl)
  have hmu := hide (fun (m L : List UInt8) (w1 : World) (hX : Xr w1 r b s L) => must255 r b s L m w1 hs hX)
  have hti := hide (fun (L : List UInt8) (w1 : World) (hX : Xr w1 r b s L) => title256 r b s L w1 hs hX)
  have hat := hide (fun (L : List UInt8) (w1 : World) (hX : Xr w1 r b s L) => attrs257 r b s L w1 hs hX)
  have hpa := hide (fun (L : List UInt8) (w1 : World) (hX : Xr w1 r b s L) => txPassed b s L [47, 62] w1 hs hX.tx)
  have hen := hide (fun (L n : List UInt8) (w1 : World) (hX : Xr w1 r b s L) => end260 r b s L n w1 hs hX)
  have HKD := hide hkids
  have HV : Hid (elementX (f + 1) d l = match tagX d l with | .error e => .error e | .ok ((n, a, true), r) => .ok (.mk n a [] [], r) | .ok ((n, a, false), r) => match kidsX f d ⟨[], []⟩ r with | .error e => .error e | .ok (ks, r2) => match endX n r2 with | .error e => .error e | .ok r3 => .ok (.mk n a [] ks, r3)) := rfl
  have HT : Hid (tagX d l = match mustX [60] l with | .error e => .error e | .ok l1 => match titleX l1 with | .error e => .error e | .ok (n, l2) => if 8 < d then .error 2 else match attrsX (l2.length + 1) [] l2 with | .error e => .error e | .ok (a, l3) => if [47, 62].isPrefixOf l3 = true then .ok ((n, a, true), l3.drop 2) else match mustX [62] l3 with | .error e => .error e | .ok l4 => .ok ((n, a, false), l4)) := rfl
  have HBR := hide hbR
  have HKW := hide hkW
  have HW := hide hW
  clear h hkW hW hbR hM hkids
  go_enter Tryz.func187, Tryz.ntmps187
  go_upto_region 1 with fail
  rw [HW.out]
  go_wp2_with fail
  refine (hmu.out [60] l _ (hX.out.keeps0 HKW.out)).mono ?_
  rintro e w1 ⟨hg1, hk1⟩
  rcases hg1 with ⟨l1, hx1, rfl, hX1⟩ | ⟨k1, hx1, rfl⟩
  case inr => exact ⟨rfl, .inr ⟨k1, HV.out.trans (by rw [HT.out, hx1]), rfl⟩, (HKW.out.to (by simp)).trans hk1⟩
  have HX1 := hide hX1
  have HE1 := hide hx1
  have HK1 := hide hk1
  have hl1 := mustX_ok hx1
  clear hX1 hx1 hk1
  go_wp2_with fail
  refine (hti.out l1 _ HX1.out).mono ?_
  rintro e w2 ⟨hg2, hk2⟩
  rcases hg2 with ⟨⟨n, l2⟩, hx2, rfl, hX2⟩ | ⟨k2, hx2, rfl⟩
  case inr => exact ⟨rfl, .inr ⟨k2, HV.out.trans (by rw [HT.out, HE1.out]; simp only [hx2]), rfl⟩, ((HKW.out.to (by simp)).trans HK1.out).trans hk2⟩
  have HE2 := hide hx2
  have hl2 := titleX_ok hx2
  have hk02 := HK1.out.trans hk2
  simp only at hX2
  obtain ⟨W3, hW3⟩ : ∃ W3, w2.alloc (.cells #[.string ⟨n.toArray⟩, .slice none 0 0, .string ⟨#[]⟩, .slice none 0 0] 45) = W3 := ⟨_, rfl⟩
  have hka : Keeps [] w2 W3 := by rw [← hW3]; exact (Keeps.refl [] w2).alloc _
  have hbq : W3.heap[w2.heap.size]? = some (.cells #[.string ⟨n.toArray⟩, .slice none 0 0, .string ⟨#[]⟩, .slice none 0 0] 45 (0, 0)) := by rw [← hW3]; exact heap_alloc_new w2 _
  have HX3 := hide (hX2.keeps0 hka)
  have HK3 := hide (hk02.trans (hka.to (by simp)))
  have HBQ := hide hbq
  have HW3 := hide hW3
  have hWs : w.heap.size < W.heap.size := lt_of_block HBR.out
  have hq2 : W.heap.size ≤ w2.heap.size := hk02.size
  have hq3 : w2.heap.size < W3.heap.size := lt_of_block hbq
  clear hX2 hx2 hk2 hk02 hka hbq hW3
  by_cases h8 : 8 < d
  · have h8d : (8 : Int) < (d : Int) := by omega
    have h8b : decide ((8 : Int) < (d : Int)) = true := by simpa using h8d
    go_upto_region 3 with fail
    rw [HW3.out]
    go_wp2_with fail
    refine (with_any _ _).mono ?_
    rintro e w4 ⟨rfl, rfl⟩
    exact ⟨rfl, .inr ⟨2, HV.out.trans (by rw [HT.out, HE1.out]; simp only [HE2.out, if_pos h8]), rfl⟩, (HKW.out.to (by simp)).trans HK3.out⟩
  have h8b : decide ((8 : Int) < (d : Int)) = false := by simp; omega
  go_upto_region 3 with fail
  rw [HW3.out]
  go_wp2_with fail
  refine (hat.out l2 _ HX3.out).mono ?_
  rintro e w4 ⟨hg4, hk4⟩
  rcases hg4 with ⟨⟨a, l3⟩, hx4, oa, ca, rfl, hr4, hX4⟩ | ⟨k4, hx4, rfl⟩
  case inr => exact ⟨rfl, .inr ⟨k4, HV.out.trans (by rw [HT.out, HE1.out]; simp only [HE2.out, if_neg h8, hx4]), rfl⟩, ((HKW.out.to (by simp)).trans HK3.out).trans hk4⟩
  have HE4 := hide hx4
  have hl3 := (attrsX_ok _ _ _ _ _ (by rfl) hx4).2
  simp only at hX4 hr4
  have hb4 := (hk4.block _ (lt_of_block HBQ.out) (by simp; omega)).trans HBQ.out
  have q1 : w4.cell? ⟨w2.heap.size, 1, none⟩ = some (.slice none 0 0) := cell_blk hb4 1
  have fq : w4.frozen? ⟨w2.heap.size, 1, none⟩ = false := free_blk hb4 1
  obtain ⟨W5, hW5⟩ : ∃ W5, w4.setCell ⟨w2.heap.size, 1, none⟩ (.slice oa a.length ca) = W5 := ⟨_, rfl⟩
  have hk5 : Keeps [w2.heap.size] w4 W5 := by rw [← hW5]; exact (Keeps.refl [w2.heap.size] w4).setCell (.inl (by simp)) _
  have hb5 : W5.heap[w2.heap.size]? = some (.cells #[.string ⟨n.toArray⟩, .slice oa a.length ca, .string ⟨#[]⟩, .slice none 0 0] 45 (0, 0)) := by rw [← hW5]; simp [World.setCell, Array.getElem?_modify, hb4]
  have hR4 := (((HK3.out.trans hk4).block _ (lt_of_block HBR.out) (by simp; omega)).trans HBR.out)
  have HLA := hide ((LiesP.of_row hr4 (fun g hg => (hr4.lt g hg).1)).keeps hk5 (fun g hg hm => by simp at hm; omega))
  have HX5 := hide (hX4.keeps hk5 (by simp; omega) (by simp; omega))
  have HK5 := hide (keeps_on ((HKW.out.to (T := [b]) (by simp)).trans (HK3.out.trans hk4)) hk5 (fun g hg hlt => by simp at hg; omega))
  have HB5 := hide hb5
  have HR5 := hide ((hk5.block _ (lt_of_block hR4) (by simp; omega)).trans hR4)
  have hq5 : W3.heap.size ≤ W5.heap.size := Nat.le_trans hk4.size hk5.size
  have HW5 := hide hW5
  have c5 := hide (HX5.out.cell)
  clear hx4 hr4 hX4 hk4 hb4 hW5 hk5 hb5 hR4
  go_upto_region 6 with fail
  rw [HW5.out]
  have c5' := c5.out
  go_wp2_with fail
  refine (hpa.out l3 _ HX5.out).mono ?_
  rintro e w6 ⟨rfl, hT6, hk6⟩
  have hb6 := (hk6.block _ (lt_of_block HB5.out) (by simp; omega)).trans HB5.out
  have hR6 := (hk6.block _ (lt_of_block HR5.out) (by simp; omega)).trans HR5.out
  have HLA6 := hide (HLA.out.keeps hk6 (fun g hg hm => by simp at hm; omega))
  have HX6 := hide (HX5.out.on hk6 hT6)
  have HK6 := hide (HK5.out.trans hk6)
  have hq6 : W3.heap.size ≤ w6.heap.size := Nat.le_trans hq5 hk6.size
  clear hT6 hk6 c5' c5
  cases hpx : ([47, 62] : List UInt8).isPrefixOf l3
  · rw [hpx] at HX6
    simp only [Bool.false_eq_true, if_false] at HX6
    have HB6 := hide hb6
    have HR6 := hide hR6
    clear hb6 hR6
    go_wp2_with fail
    refine (hmu.out [62] l3 _ HX6.out).mono ?_
    rintro e w7 ⟨hg7, hk7⟩
    rcases hg7 with ⟨l4, hx7, rfl, hX7⟩ | ⟨k7, hx7, rfl⟩
    case inr => exact ⟨rfl, .inr ⟨k7, HV.out.trans (by rw [HT.out, HE1.out]; simp only [HE2.out, if_neg h8, HE4.out, hpx, Bool.false_eq_true, if_false, hx7]), rfl⟩, HK6.out.trans hk7⟩
    have hl4 := mustX_ok hx7
    have HTG : Hid (tagX d l = .ok ((n, a, false), l4)) := HT.out.trans (by rw [HE1.out]; simp only [HE2.out, if_neg h8, HE4.out, hpx, Bool.false_eq_true, if_false, hx7])
    have HX7 := hide hX7
    have HK7 := hide (HK6.out.trans hk7)
    have HB7 := hide ((hk7.block _ (lt_of_block HB6.out) (by simp; omega)).trans HB6.out)
    have HR7 := hide ((hk7.block _ (lt_of_block HR6.out) (by simp; omega)).trans HR6.out)
    have HLA7 := hide (HLA6.out.keeps hk7 (fun g hg hm => by simp at hm; omega))
    have hq7 : W3.heap.size ≤ w7.heap.size := Nat.le_trans hq6 hk7.size
    have hkd := hide (HKD.out (by omega) l4 w7 hX7 (hm0.out _ HK7.out) (by simp at hl1 hl4; omega))
    clear hx7 hX7 hk7 HB6 HR6 HLA6 HX6
    go_wp2_with fail
    refine hkd.out.mono ?_
    rintro e w8 ⟨hg8, hk8⟩
    rcases hg8 with ⟨⟨ks, l5⟩, hx8, ok, ck, rfl, hN8, hX8⟩ | ⟨k8, hx8, rfl⟩
    case inr => exact ⟨rfl, .inr ⟨k8, HV.out.trans (by rw [HTG.out]; simp only [hx8]), rfl⟩, HK7.out.trans hk8⟩
    have HE8 := hide hx8
    simp only at hX8 hN8
    have hb8 := (hk8.block _ (lt_of_block HB7.out) (by simp; omega)).trans HB7.out
    have q3 : w8.cell? ⟨w2.heap.size, 3, none⟩ = some (.slice none 0 0) := cell_blk hb8 3
    have fq3 : w8.frozen? ⟨w2.heap.size, 3, none⟩ = false := free_blk hb8 3
    obtain ⟨W9, hW9⟩ : ∃ W9, w8.setCell ⟨w2.heap.size, 3, none⟩ (.slice ok ks.length ck) = W9 := ⟨_, rfl⟩
    have hk9 : Keeps [w2.heap.size] w8 W9 := by rw [← hW9]; exact (Keeps.refl [w2.heap.size] w8).setCell (.inl (by simp)) _
    have hb9 : W9.heap[w2.heap.size]? = some (.cells #[.string ⟨n.toArray⟩, .slice oa a.length ca, .string ⟨#[]⟩, .slice ok ks.length ck] 45 (0, 0)) := by rw [← hW9]; simp [World.setCell, Array.getElem?_modify, hb8]
    have HLA9 := hide ((HLA7.out.keeps hk8 (fun g hg hm => by simp at hm; omega)).keeps hk9 (fun g hg hm => by simp at hm; omega))
    have HN9 := hide (hN8.keeps hk9 (fun g hg hm => by simp at hm; omega))
    have HX9 := hide (hX8.keeps hk9 (by simp; omega) (by simp; omega))
    have HK9 := hide (keeps_on (HK7.out.trans hk8) hk9 (fun g hg hlt => by simp at hg; omega))
    have HR9 := hide ((hk9.block _ (by have := hk8.size; have := lt_of_block HR7.out; omega) (by simp; omega)).trans ((hk8.block _ (lt_of_block HR7.out) (by simp; omega)).trans HR7.out))
    have HB9 := hide hb9
    have HW9 := hide hW9
    have hq9 : W3.heap.size ≤ W9.heap.size := Nat.le_trans hq7 (Nat.le_trans hk8.size hk9.size)
    have hq97 : w7.heap.size ≤ W9.heap.size := Nat.le_trans hk8.size hk9.size
    clear hx8 hN8 hX8 hk8 hb8 hW9 hk9 hb9 HB7 HR7 HLA7 HX7 hkd
    go_upto_region 10 with fail
    rw [HW9.out]
    have n9 : W9.cell? ⟨w2.heap.size, 0, none⟩ = some (.string ⟨n.toArray⟩) := cell_blk HB9.out 0
    go_wp2_with fail
    refine (hen.out l5 n _ HX9.out).mono ?_
    rintro e wA ⟨hgA, hkA⟩
    rcases hgA with ⟨l6, hxA, rfl, hXA⟩ | ⟨kA, hxA, rfl⟩
    case inr => exact ⟨rfl, .inr ⟨kA, HV.out.trans (by rw [HTG.out]; simp only [HE8.out, hxA]), rfl⟩, HK9.out.trans hkA⟩
    have HEA := hide hxA
    have hbA := (hkA.block _ (lt_of_block HB9.out) (by simp; omega)).trans HB9.out
    have hRA := (hkA.block _ (lt_of_block HR9.out) (by simp; omega)).trans HR9.out
    have HLAA := hide (HLA9.out.keeps hkA (fun g hg hm => by simp at hm; omega))
    have HNA := hide (HN9.out.keeps hkA (fun g hg hm => by simp at hm; omega))
    have HXA := hide hXA
    have HKA := hide (HK9.out.trans hkA)
    have HRA := hide hRA
    have y0 := cell_blk hbA 0
    have y1 := cell_blk hbA 1
    have y2 := cell_blk hbA 2
    have y3 := cell_blk hbA 3
    have z0 := cell_blk hRA 0
    have z1 := cell_blk hRA 1
    have z2 := cell_blk hRA 2
    have z3 := cell_blk hRA 3
    have g0 := free_blk hRA 0
    have g1 := free_blk hRA 1
    have g2 := free_blk hRA 2
    have g3 := free_blk hRA 3
    simp at y0 y1 y2 y3 z0 z1 z2 z3
    clear hxA hXA hkA hbA hRA HB9 HR9 HLA9 HN9 HX9 n9
    go_wp2_with fail
    have hks := set4_keeps wA w.heap.size (.string ⟨n.toArray⟩) (.slice oa a.length ca) (.string ⟨#[]⟩) (.slice ok ks.length ck)
    refine ⟨rfl, _, hres _ _ #[.string ⟨n.toArray⟩, .slice oa a.length ca, .string ⟨#[]⟩, .slice ok ks.length ck] rfl rfl (set4_blk _ _ _ _ HRA.out), .inl ⟨(.mk n a [] ks, l6), HV.out.trans (by rw [HTG.out]; simp only [HE8.out, HEA.out]), oa, ca, ok, ck, rfl, ?_, ?_, ?_⟩, keeps_on HKA.out hks (fun g hg hlt => by simp at hg; omega)⟩
    · exact (HLAA.out.keeps hks (fun g hg hm => by simp at hm; omega)).mono (fun g _ hg => by omega)
    · exact (HNA.out.keeps hks (fun g hg hm => by simp at hm; omega)).mono (fun g _ hg => by omega)
    · exact HXA.out.keeps hks (by simp; omega) (by simp; omega)
  · rw [hpx] at HX6
    simp only [if_true] at HX6
    have HRA := hide hR6
    have y0 := cell_blk hb6 0
    have y1 := cell_blk hb6 1
    have y2 := cell_blk hb6 2
    have y3 := cell_blk hb6 3
    have z0 := cell_blk hR6 0
    have z1 := cell_blk hR6 1
    have z2 := cell_blk hR6 2
    have z3 := cell_blk hR6 3
    have g0 := free_blk hR6 0
    have g1 := free_blk hR6 1
    have g2 := free_blk hR6 2
    have g3 := free_blk hR6 3
    simp at y0 y1 y2 y3 z0 z1 z2 z3
    have HTG : Hid (tagX d l = .ok ((n, a, true), l3.drop 2)) := HT.out.trans (by rw [HE1.out]; simp only [HE2.out, if_neg h8, HE4.out, hpx, if_true])
    clear hb6 hR6
    go_wp2_with fail
    have hks := set4_keeps w6 w.heap.size (.string ⟨n.toArray⟩) (.slice oa a.length ca) (.string ⟨#[]⟩) (.slice none 0 0)
    refine ⟨rfl, _, hres _ _ #[.string ⟨n.toArray⟩, .slice oa a.length ca, .string ⟨#[]⟩, .slice none 0 0] rfl rfl (set4_blk _ _ _ _ HRA.out), .inl ⟨(.mk n a [] [], l3.drop 2), HV.out.trans (by rw [HTG.out]), oa, ca, none, 0, rfl, ?_, Ns.nil _ _ none 0 (by simp [maxLen]), ?_⟩, keeps_on HK6.out hks (fun g hg hlt => by simp at hg; omega)⟩
    · exact (HLA6.out.keeps hks (fun g hg hm => by simp at hm; omega)).mono (fun g _ hg => by omega)
    · exact HX6.out.keeps hks (by simp; omega) (by simp; omega)
end Go.Proofs.YtlcljanibjdejaaGreat
namespace Go.Proofs.YtlcljanibjdejaaGreat
open Go.RowKit Go.Maps
set_option maxHeartbeats 1000000 in
theorem text304 (r b : Nat) (s : ByteArray) (l : List UInt8) (w : World) (hs : s.size ≤ 3000) (h : Xr w r b s l) :
    Calls Tryz.prog 304 #[.pointer (some ⟨r, 0, none⟩)] w fun e w' => Gives (strictX (l.takeWhile noLt) (l.dropWhile noLt)) (fun p e w' => e = .returned (.string ⟨p.1.toArray⟩) ∧ Xr w' r b s p.2) e w' ∧ Keeps [b] w w' := by
  have c0 := h.cell
  have hp := hide (txPass 326 noLt enters326 noLtX_any b s l w hs h.tx)
  have hl1 : (l.takeWhile noLt).length ≤ 3000 := Nat.le_trans (List.takeWhile_sublist _).length_le (Nat.le_trans h.tx.len hs)
  have hst := strictAns_of (l.takeWhile noLt) (l.dropWhile noLt) hl1
  have hsa := hide (fun w => strict_any ⟨(l.takeWhile noLt).toArray⟩ w (by rw [str_size]; unfold maxLen; omega))
  rw [str_list] at hsa
  have HH := hide h
  clear h hl1
  generalize l.takeWhile noLt = RAW at *
  generalize l.dropWhile noLt = L2 at *
  generalize strictAns RAW = SA at *
  rcases hst with ⟨rfl, h8⟩ | ⟨rfl, h8⟩
  · rw [h8]
    clear h8
    go_enter Tryz.func304, Tryz.ntmps304
    go_wp2_with fail
    refine hp.out.mono ?_
    rintro e w1 ⟨rfl, hT, hk⟩
    go_wp2_with fail
    refine (hsa.out _).mono ?_
    rintro e w7 ⟨rfl, hk7⟩
    unfold two
    go_wp2_with fail
    refine (must68 _ _).mono ?_
    rintro e w8 ⟨rfl, h8⟩
    obtain rfl : w7 = w8 := h8.symm
    go_wp2_with fail
    go_ret
    exact ⟨.ok ⟨rfl, (HH.out.on hk hT).keeps0 hk7⟩, hk.trans (hk7.to (by simp))⟩
  · rw [h8]
    clear h8
    go_enter Tryz.func304, Tryz.ntmps304
    go_wp2_with fail
    refine hp.out.mono ?_
    rintro e w1 ⟨rfl, hT, hk⟩
    go_wp2_with fail
    refine (hsa.out _).mono ?_
    rintro e w7 ⟨rfl, hk7⟩
    unfold two
    go_wp2_with fail
    refine (must68_no _ 1 (by decide) _).mono ?_
    rintro e w8 ⟨rfl, h8⟩
    obtain rfl : w7 = w8 := h8.symm
    exact ⟨rfl, .no, hk.trans (hk7.to (by simp))⟩
theorem put_text_weight (s : Lst) (t : List UInt8) : (s.put (textN t)).weight = s.weight + t.length := by
  simp [Lst.put, textN, Nd.name, Nd.text, Lst.weight]; omega
theorem put_el_weight (s : Lst) (n : Nd) (hn : n.name ≠ []) : (s.put n).weight ≤ s.weight + 1 := by
  have he : n.name.isEmpty = false := by simpa using hn
  have := s.done_len
  simp only [Lst.put, he, Bool.false_eq_true, if_false, Lst.weight, List.length_append, List.length_cons, List.length_nil] at this ⊢
  omega
/-- The state of kids' loop. -/
structure KSt (w wr : World) (r b : Nat) (s : ByteArray) (R : Rx (List Nd)) (d : Nat) (acc : Lst) (l : List UInt8) (T : List Nat) (f : Nat) : Prop where
  ls : LsT wr w.heap.size w.heap.size acc T
  xr : Xr wr r b s l
  kp : Keeps [b] w wr
  wt : acc.weight + 4 * l.length ≤ 12000
  fl : 2 * l.length + 1 < f
  eq : kidsX f d acc l = R
theorem KSt.over {w wr w' : World} {r b : Nat} {s : ByteArray} {R : Rx (List Nd)} {d : Nat} {acc : Lst} {l l2 : List UInt8} {T : List Nat} {f : Nat} (h : KSt w wr r b s R d acc l T (f + 1)) (hb : b < w.heap.size) (hp : pieceX l = .over (.ok l2)) (hn : [60, 47].isPrefixOf l = false) (hX : Xr w' r b s l2) (hk : Keeps [b] wr w') : KSt w w' r b s R d acc l2 T f := by
  have h1 := pieceX_over hp
  refine ⟨h.ls.past hk (fun g hg => by simp at hg; omega), hX, h.kp.trans hk, by have := h.wt; omega, by have := h.fl; omega, ?_⟩
  have h2 := h.eq
  rw [kidsX, hn, hp] at h2
  simpa using h2
theorem KSt.said {w wr w' w2 : World} {r b : Nat} {s : ByteArray} {R : Rx (List Nd)} {d : Nat} {acc : Lst} {l l2 t : List UInt8} {T T2 : List Nat} {f : Nat} (h : KSt w wr r b s R d acc l T (f + 1)) (hb : b < w.heap.size) (hr : r < w.heap.size) (hp : pieceX l = .said (.ok (t, l2))) (hn : [60, 47].isPrefixOf l = false) (ht : t.length ≤ 4 * (l.length - l2.length)) (hX : Xr w' r b s l2) (hk : Keeps [b] wr w')
    (hl : LsT w2 w.heap.size w.heap.size (acc.put (textN t)) T2) (hs : Stp w' T w2 T2) (hT : LsT w' w.heap.size w.heap.size acc T) : KSt w w2 r b s R d (acc.put (textN t)) l2 T2 f := by
  have h1 := pieceX_said hp
  have hge := hT.ge
  refine ⟨hl, hX.keeps hs.1 (fun hm => by have := (hge.1 _ hm).1; omega) (fun hm => by have := (hge.1 _ hm).1; omega), keeps_on (h.kp.trans hk) hs.1 (fun g hg hlt => by have := (hge.1 _ hg).1; omega), ?_, by have := h.fl; omega, ?_⟩
  · rw [put_text_weight]; have := h.wt; omega
  · have h2 := h.eq
    rw [kidsX, hn, hp] at h2
    simpa using h2
theorem KSt.kid {w wr w' w2 : World} {r b : Nat} {s : ByteArray} {R : Rx (List Nd)} {d : Nat} {acc : Lst} {l l2 : List UInt8} {n : Nd} {T T2 : List Nat} {f : Nat} (h : KSt w wr r b s R d acc l T (f + 1)) (hb : b < w.heap.size) (hr : r < w.heap.size) (hp : pieceX l = .kid) (hn : [60, 47].isPrefixOf l = false) (he : elementX f (d + 1) l = .ok (n, l2)) (hX : Xr w' r b s l2) (hk : Keeps [b] wr w')
    (hl : LsT w2 w.heap.size w.heap.size (acc.put n) T2) (hs : Stp w' T w2 T2) (hT : LsT w' w.heap.size w.heap.size acc T) : KSt w w2 r b s R d (acc.put n) l2 T2 f := by
  have h1 := (right_all f).1 (d + 1) l n l2 he
  have hge := hT.ge
  have h3 : 1 ≤ sizeNs [n] := by cases n; simp [sizeNs]
  refine ⟨hl, hX.keeps hs.1 (fun hm => by have := (hge.1 _ hm).1; omega) (fun hm => by have := (hge.1 _ hm).1; omega), keeps_on (h.kp.trans hk) hs.1 (fun g hg hlt => by have := (hge.1 _ hg).1; omega), ?_, by have := h.fl; omega, ?_⟩
  · have := put_el_weight acc n h1.1
    have := h.wt
    omega
  · have h2 := h.eq
    rw [kidsX, hn, hp, he] at h2
    simpa using h2
theorem KSt.stop {w wr : World} {r b : Nat} {s : ByteArray} {R : Rx (List Nd)} {d : Nat} {acc : Lst} {l : List UInt8} {T : List Nat} {f : Nat} {k : Int} (h : KSt w wr r b s R d acc l T (f + 1)) (hn : [60, 47].isPrefixOf l = false) (hp : pieceX l = .over (.error k) ∨ pieceX l = .said (.error k) ∨ pieceX l = .kid ∧ elementX f (d + 1) l = .error k) : R = .error k := by
  rw [← h.eq, kidsX, hn]
  rcases hp with hp | hp | ⟨hp, he⟩
  · rw [hp]; rfl
  · rw [hp]; rfl
  · rw [hp, he]; rfl
end Go.Proofs.YtlcljanibjdejaaGreat
