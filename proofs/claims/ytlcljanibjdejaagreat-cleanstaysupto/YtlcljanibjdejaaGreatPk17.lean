/- A link in the light of a base: resolved. Resolve. -/
import Derived.Test.YtlcljanibjdejaaGreatPk16
namespace Go.Proofs.YtlcljanibjdejaaGreat
open Go.RowKit

structure Rs (w : World) (x y r : Nat) (b : UrlT) (W : World) (u : UrlT) : Prop where
  base : IsUrl W x b
  url : IsUrl W y u
  res : IsUrl W r noUrl
  keeps : Keeps [] w W
  xw : w.heap.size ≤ x
  yw : w.heap.size ≤ y
  rw : w.heap.size ≤ r
  ne1 : x ≠ y
  ne2 : y ≠ r
  ne3 : x ≠ r

theorem Rs.move {w : World} {x y r : Nat} {b : UrlT} {W W' : World} {u : UrlT} (h : Rs w x y r b W u) (hk : Keeps [] W W') : Rs w x y r b W' u :=
  ⟨h.base.keeps hk (by simp), h.url.keeps hk (by simp), h.res.keeps hk (by simp), h.keeps.trans hk, h.xw, h.yw, h.rw, h.ne1, h.ne2, h.ne3⟩
theorem Rs.put {w : World} {x y r : Nat} {b : UrlT} {W : World} {u u' : UrlT} (h : Rs w x y r b W u) {j : Nat} {v : Value} (hU : IsUrl (W.setCell ⟨y, j, none⟩ v) y u') : Rs w x y r b (W.setCell ⟨y, j, none⟩ v) u' := by
  have hk : Keeps [y] W (W.setCell ⟨y, j, none⟩ v) := (Keeps.refl [y] W).setCell (p := ⟨y, j, none⟩) (by simp) v
  exact ⟨h.base.keeps hk (by simpa using h.ne1), hU, h.res.keeps hk (by simpa using h.ne2.symm), h.keeps.setCell (.inr h.yw) v, h.xw, h.yw, h.rw, h.ne1, h.ne2, h.ne3⟩

theorem end15 {tmps : Array Value} {W w : World} {r : Nat} {u A : UrlT} (hp : tmps.getD 4 undef = .pointer (some ⟨r, 0, none⟩)) (hU : IsUrl W r u) (hA : A = u) (hk : Keeps [] w W) :
    bodyPost Tryz.prog Tryz.f148 (fun e w' => e = .returned (urlV A) ∧ Keeps [] w w') Exit.ret { tmps := tmps, defers := [] } W := by
  subst hA
  exact ⟨rfl, _, results_cell_row (P := Tryz.prog) rfl tmps W r 99 (urlCells A) (0, 0) _ hp hU Tryz.underlying99 rfl (info23.trans rfl), rfl, hk⟩

theorem Keeps.off {S : List Nat} {w w' : World} (h : Keeps S w.drew w') : Keeps S w w' := ⟨h.os, h.tape, h.output, h.size, h.block⟩
theorem Keeps.off2 {S : List Nat} {w w' : World} (h : Keeps S w.drew.drew w') : Keeps S w w' := ⟨h.os, h.tape, h.output, h.size, h.block⟩

theorem merged_len (b : UrlT) (p : List UInt8) : (mergedL b p).length ≤ b.path.length + p.length + 1 := by
  unfold mergedL
  split
  · omega
  split
  · omega
  split
  · simp
    try omega
  · have := upSl_le b.path
    rw [List.length_append]
    omega

theorem start3 (w : World) (b u : UrlT) : Rs w w.heap.size (w.heap.size + 1) (w.heap.size + 1 + 1) b (((w.alloc (.cells #[.string ⟨b.scheme.toArray⟩, .string ⟨b.authority.toArray⟩, .string ⟨b.path.toArray⟩, .string ⟨b.query.toArray⟩, .string ⟨b.fragment.toArray⟩, .bool b.hs, .bool b.ha, .bool b.hq, .bool b.hf] 99)).alloc (.cells #[.string ⟨u.scheme.toArray⟩, .string ⟨u.authority.toArray⟩, .string ⟨u.path.toArray⟩, .string ⟨u.query.toArray⟩, .string ⟨u.fragment.toArray⟩, .bool u.hs, .bool u.ha, .bool u.hq, .bool u.hf] 99)).alloc (.cells #[.string ⟨#[]⟩, .string ⟨#[]⟩, .string ⟨#[]⟩, .string ⟨#[]⟩, .string ⟨#[]⟩, .bool false, .bool false, .bool false, .bool false] 99)) u := by
  refine ⟨?_, ?_, ?_, (((Keeps.refl [] w).alloc _).alloc _).alloc _, by omega, by omega, by omega, by omega, by omega, by omega⟩
  · unfold IsUrl
    rw [Below.heap_alloc _ _ _ (by simp; omega), Below.heap_alloc _ _ _ (by simp)]
    exact heap_new_at _ _ rfl
  · unfold IsUrl
    rw [Below.heap_alloc _ _ _ (by simp)]
    exact heap_new_at _ _ (by simp)
  · exact heap_new_at _ _ (by simp)

set_option maxRecDepth 4000 in
set_option maxHeartbeats 40000000 in
theorem resolved_any (b u : UrlT) (w : World) (hb : b.path.length ≤ 3000) (hu : u.path.length ≤ 3000) :
    Calls Tryz.prog 148 #[urlV b, urlV u] w fun e w' => e = .returned (urlV (resL b u)) ∧ Keeps [] w w' := by
  obtain ⟨A, hA⟩ : ∃ A, resL b u = A := ⟨_, rfl⟩
  rw [hA]
  have HA := hide hA
  clear hA
  have ST := hide (fun u => start3 w b u)
  have MG := hide (fun (p : List UInt8) (w : World) (h : p.length ≤ 3000) => merged_any b ⟨p.toArray⟩ w hb h)
  obtain ⟨bs, ba, bp, bq, bf, bhs, bha, bhq, bhf⟩ := b
  obtain ⟨us, ua, up, uq, uf, uhs, uha, uhq, uhf⟩ := u
  simp only at hb hu
  unfold urlV urlCells
  cases uhs
  · cases uha
    · by_cases hp : up = []
      · have hpe : up.isEmpty = true := by simpa using hp
        cases uhq
        · have HX : Hid (A = ⟨bs, ba, dotsL (mergedL ⟨bs, ba, bp, bq, bf, bhs, bha, bhq, bhf⟩ up), bq, uf, true, bha, bhq, uhf⟩) := by rw [← HA.out, hp]; exact rfl
          clear hp HA
          obtain ⟨R, hR⟩ : ∃ R, dotsL (mergedL ⟨bs, ba, bp, bq, bf, bhs, bha, bhq, bhf⟩ up) = R := ⟨_, rfl⟩
          have HR := hide hR
          clear hR
          have hml := merged_len ⟨bs, ba, bp, bq, bf, bhs, bha, bhq, bhf⟩ up
          simp only at hml
          have WD := hide (fun w => withoutDots_any ⟨(mergedL ⟨bs, ba, bp, bq, bf, bhs, bha, bhq, bhf⟩ up).toArray⟩ w (by rw [str_size]; omega))
          rw [str_list, HR.out] at WD
          have MM := hide (fun w => MG.out up w hu)
          rw [str_list] at MM
          generalize mergedL ⟨bs, ba, bp, bq, bf, bhs, bha, bhq, bhf⟩ up = M at *
          unfold urlV urlCells at MM
          clear MG hml
          go_enter Tryz.func148, Tryz.ntmps148
          go_wp2_with fail
          go_region
          go_wp2_with fail
          go_region
          go_wp2_with fail
          refine (MM.out _).mono ?_
          rintro e W1 ⟨rfl, hk1⟩
          have g1 : Rs w w.heap.size (w.heap.size + 1) (w.heap.size + 1 + 1) ⟨bs, ba, bp, bq, bf, bhs, bha, bhq, bhf⟩ W1 ⟨bs, ba, up, bq, uf, true, bha, bhq, uhf⟩ := (ST.out ⟨bs, ba, up, bq, uf, true, bha, bhq, uhf⟩).move (Keeps.off2 hk1)
          clear hk1
          go_wp2_with fail
          refine (WD.out _).mono ?_
          rintro e W2 ⟨rfl, hk2⟩
          have g2 := g1.move hk2
          have d2 : W2.cell? ⟨w.heap.size + 1, 2, none⟩ = some (.string ⟨up.toArray⟩) := g2.url.cell 2
          have f2 := g2.url.free 2
          have gF : Rs w w.heap.size (w.heap.size + 1) (w.heap.size + 1 + 1) ⟨bs, ba, bp, bq, bf, bhs, bha, bhq, bhf⟩ (W2.setCell ⟨w.heap.size + 1, 2, none⟩ (.string ⟨R.toArray⟩)) ⟨bs, ba, R, bq, uf, true, bha, bhq, uhf⟩ := g2.put (g2.url.set2 R)
          have u0 : (W2.setCell ⟨w.heap.size + 1, 2, none⟩ (.string ⟨R.toArray⟩)).cell? ⟨w.heap.size + 1, 0, none⟩ = some (.string ⟨(bs : List UInt8).toArray⟩) := gF.url.cell 0
          have r0 : (W2.setCell ⟨w.heap.size + 1, 2, none⟩ (.string ⟨R.toArray⟩)).cell? ⟨w.heap.size + 1 + 1, 0, none⟩ = some (.string ⟨([] : List UInt8).toArray⟩) := gF.res.cell 0
          have z0 := gF.res.free 0
          have u1 : (W2.setCell ⟨w.heap.size + 1, 2, none⟩ (.string ⟨R.toArray⟩)).cell? ⟨w.heap.size + 1, 1, none⟩ = some (.string ⟨(ba : List UInt8).toArray⟩) := gF.url.cell 1
          have r1 : (W2.setCell ⟨w.heap.size + 1, 2, none⟩ (.string ⟨R.toArray⟩)).cell? ⟨w.heap.size + 1 + 1, 1, none⟩ = some (.string ⟨([] : List UInt8).toArray⟩) := gF.res.cell 1
          have z1 := gF.res.free 1
          have u2 : (W2.setCell ⟨w.heap.size + 1, 2, none⟩ (.string ⟨R.toArray⟩)).cell? ⟨w.heap.size + 1, 2, none⟩ = some (.string ⟨(R : List UInt8).toArray⟩) := gF.url.cell 2
          have r2 : (W2.setCell ⟨w.heap.size + 1, 2, none⟩ (.string ⟨R.toArray⟩)).cell? ⟨w.heap.size + 1 + 1, 2, none⟩ = some (.string ⟨([] : List UInt8).toArray⟩) := gF.res.cell 2
          have z2 := gF.res.free 2
          have u3 : (W2.setCell ⟨w.heap.size + 1, 2, none⟩ (.string ⟨R.toArray⟩)).cell? ⟨w.heap.size + 1, 3, none⟩ = some (.string ⟨(bq : List UInt8).toArray⟩) := gF.url.cell 3
          have r3 : (W2.setCell ⟨w.heap.size + 1, 2, none⟩ (.string ⟨R.toArray⟩)).cell? ⟨w.heap.size + 1 + 1, 3, none⟩ = some (.string ⟨([] : List UInt8).toArray⟩) := gF.res.cell 3
          have z3 := gF.res.free 3
          have u4 : (W2.setCell ⟨w.heap.size + 1, 2, none⟩ (.string ⟨R.toArray⟩)).cell? ⟨w.heap.size + 1, 4, none⟩ = some (.string ⟨(uf : List UInt8).toArray⟩) := gF.url.cell 4
          have r4 : (W2.setCell ⟨w.heap.size + 1, 2, none⟩ (.string ⟨R.toArray⟩)).cell? ⟨w.heap.size + 1 + 1, 4, none⟩ = some (.string ⟨([] : List UInt8).toArray⟩) := gF.res.cell 4
          have z4 := gF.res.free 4
          have u5 : (W2.setCell ⟨w.heap.size + 1, 2, none⟩ (.string ⟨R.toArray⟩)).cell? ⟨w.heap.size + 1, 5, none⟩ = some (.bool true) := gF.url.cell 5
          have r5 : (W2.setCell ⟨w.heap.size + 1, 2, none⟩ (.string ⟨R.toArray⟩)).cell? ⟨w.heap.size + 1 + 1, 5, none⟩ = some (.bool false) := gF.res.cell 5
          have z5 := gF.res.free 5
          have u6 : (W2.setCell ⟨w.heap.size + 1, 2, none⟩ (.string ⟨R.toArray⟩)).cell? ⟨w.heap.size + 1, 6, none⟩ = some (.bool bha) := gF.url.cell 6
          have r6 : (W2.setCell ⟨w.heap.size + 1, 2, none⟩ (.string ⟨R.toArray⟩)).cell? ⟨w.heap.size + 1 + 1, 6, none⟩ = some (.bool false) := gF.res.cell 6
          have z6 := gF.res.free 6
          have u7 : (W2.setCell ⟨w.heap.size + 1, 2, none⟩ (.string ⟨R.toArray⟩)).cell? ⟨w.heap.size + 1, 7, none⟩ = some (.bool bhq) := gF.url.cell 7
          have r7 : (W2.setCell ⟨w.heap.size + 1, 2, none⟩ (.string ⟨R.toArray⟩)).cell? ⟨w.heap.size + 1 + 1, 7, none⟩ = some (.bool false) := gF.res.cell 7
          have z7 := gF.res.free 7
          have u8 : (W2.setCell ⟨w.heap.size + 1, 2, none⟩ (.string ⟨R.toArray⟩)).cell? ⟨w.heap.size + 1, 8, none⟩ = some (.bool uhf) := gF.url.cell 8
          have r8 : (W2.setCell ⟨w.heap.size + 1, 2, none⟩ (.string ⟨R.toArray⟩)).cell? ⟨w.heap.size + 1 + 1, 8, none⟩ = some (.bool false) := gF.res.cell 8
          have z8 := gF.res.free 8
          go_wp2_with fail
          exact end15 rfl (((((((((gF.res.set0 bs).set1 ba).set2 R).set3 bq).set4 uf).set5 true).set6 bha).set7 bhq).set8 uhf) (HX.out.trans (by rw [HR.out])) (keeps9 gF.keeps gF.rw _ _ _ _ _ _ _ _ _)
        · have HX : Hid (A = ⟨bs, ba, dotsL (mergedL ⟨bs, ba, bp, bq, bf, bhs, bha, bhq, bhf⟩ up), uq, uf, true, bha, true, uhf⟩) := by rw [← HA.out, hp]; exact rfl
          clear hp HA
          obtain ⟨R, hR⟩ : ∃ R, dotsL (mergedL ⟨bs, ba, bp, bq, bf, bhs, bha, bhq, bhf⟩ up) = R := ⟨_, rfl⟩
          have HR := hide hR
          clear hR
          have hml := merged_len ⟨bs, ba, bp, bq, bf, bhs, bha, bhq, bhf⟩ up
          simp only at hml
          have WD := hide (fun w => withoutDots_any ⟨(mergedL ⟨bs, ba, bp, bq, bf, bhs, bha, bhq, bhf⟩ up).toArray⟩ w (by rw [str_size]; omega))
          rw [str_list, HR.out] at WD
          have MM := hide (fun w => MG.out up w hu)
          rw [str_list] at MM
          generalize mergedL ⟨bs, ba, bp, bq, bf, bhs, bha, bhq, bhf⟩ up = M at *
          unfold urlV urlCells at MM
          clear MG hml
          go_enter Tryz.func148, Tryz.ntmps148
          go_wp2_with fail
          go_region
          go_wp2_with fail
          refine (MM.out _).mono ?_
          rintro e W1 ⟨rfl, hk1⟩
          have g1 : Rs w w.heap.size (w.heap.size + 1) (w.heap.size + 1 + 1) ⟨bs, ba, bp, bq, bf, bhs, bha, bhq, bhf⟩ W1 ⟨bs, ba, up, uq, uf, true, bha, true, uhf⟩ := (ST.out ⟨bs, ba, up, uq, uf, true, bha, true, uhf⟩).move (Keeps.off hk1)
          clear hk1
          go_wp2_with fail
          refine (WD.out _).mono ?_
          rintro e W2 ⟨rfl, hk2⟩
          have g2 := g1.move hk2
          have d2 : W2.cell? ⟨w.heap.size + 1, 2, none⟩ = some (.string ⟨up.toArray⟩) := g2.url.cell 2
          have f2 := g2.url.free 2
          have gF : Rs w w.heap.size (w.heap.size + 1) (w.heap.size + 1 + 1) ⟨bs, ba, bp, bq, bf, bhs, bha, bhq, bhf⟩ (W2.setCell ⟨w.heap.size + 1, 2, none⟩ (.string ⟨R.toArray⟩)) ⟨bs, ba, R, uq, uf, true, bha, true, uhf⟩ := g2.put (g2.url.set2 R)
          have u0 : (W2.setCell ⟨w.heap.size + 1, 2, none⟩ (.string ⟨R.toArray⟩)).cell? ⟨w.heap.size + 1, 0, none⟩ = some (.string ⟨(bs : List UInt8).toArray⟩) := gF.url.cell 0
          have r0 : (W2.setCell ⟨w.heap.size + 1, 2, none⟩ (.string ⟨R.toArray⟩)).cell? ⟨w.heap.size + 1 + 1, 0, none⟩ = some (.string ⟨([] : List UInt8).toArray⟩) := gF.res.cell 0
          have z0 := gF.res.free 0
          have u1 : (W2.setCell ⟨w.heap.size + 1, 2, none⟩ (.string ⟨R.toArray⟩)).cell? ⟨w.heap.size + 1, 1, none⟩ = some (.string ⟨(ba : List UInt8).toArray⟩) := gF.url.cell 1
          have r1 : (W2.setCell ⟨w.heap.size + 1, 2, none⟩ (.string ⟨R.toArray⟩)).cell? ⟨w.heap.size + 1 + 1, 1, none⟩ = some (.string ⟨([] : List UInt8).toArray⟩) := gF.res.cell 1
          have z1 := gF.res.free 1
          have u2 : (W2.setCell ⟨w.heap.size + 1, 2, none⟩ (.string ⟨R.toArray⟩)).cell? ⟨w.heap.size + 1, 2, none⟩ = some (.string ⟨(R : List UInt8).toArray⟩) := gF.url.cell 2
          have r2 : (W2.setCell ⟨w.heap.size + 1, 2, none⟩ (.string ⟨R.toArray⟩)).cell? ⟨w.heap.size + 1 + 1, 2, none⟩ = some (.string ⟨([] : List UInt8).toArray⟩) := gF.res.cell 2
          have z2 := gF.res.free 2
          have u3 : (W2.setCell ⟨w.heap.size + 1, 2, none⟩ (.string ⟨R.toArray⟩)).cell? ⟨w.heap.size + 1, 3, none⟩ = some (.string ⟨(uq : List UInt8).toArray⟩) := gF.url.cell 3
          have r3 : (W2.setCell ⟨w.heap.size + 1, 2, none⟩ (.string ⟨R.toArray⟩)).cell? ⟨w.heap.size + 1 + 1, 3, none⟩ = some (.string ⟨([] : List UInt8).toArray⟩) := gF.res.cell 3
          have z3 := gF.res.free 3
          have u4 : (W2.setCell ⟨w.heap.size + 1, 2, none⟩ (.string ⟨R.toArray⟩)).cell? ⟨w.heap.size + 1, 4, none⟩ = some (.string ⟨(uf : List UInt8).toArray⟩) := gF.url.cell 4
          have r4 : (W2.setCell ⟨w.heap.size + 1, 2, none⟩ (.string ⟨R.toArray⟩)).cell? ⟨w.heap.size + 1 + 1, 4, none⟩ = some (.string ⟨([] : List UInt8).toArray⟩) := gF.res.cell 4
          have z4 := gF.res.free 4
          have u5 : (W2.setCell ⟨w.heap.size + 1, 2, none⟩ (.string ⟨R.toArray⟩)).cell? ⟨w.heap.size + 1, 5, none⟩ = some (.bool true) := gF.url.cell 5
          have r5 : (W2.setCell ⟨w.heap.size + 1, 2, none⟩ (.string ⟨R.toArray⟩)).cell? ⟨w.heap.size + 1 + 1, 5, none⟩ = some (.bool false) := gF.res.cell 5
          have z5 := gF.res.free 5
          have u6 : (W2.setCell ⟨w.heap.size + 1, 2, none⟩ (.string ⟨R.toArray⟩)).cell? ⟨w.heap.size + 1, 6, none⟩ = some (.bool bha) := gF.url.cell 6
          have r6 : (W2.setCell ⟨w.heap.size + 1, 2, none⟩ (.string ⟨R.toArray⟩)).cell? ⟨w.heap.size + 1 + 1, 6, none⟩ = some (.bool false) := gF.res.cell 6
          have z6 := gF.res.free 6
          have u7 : (W2.setCell ⟨w.heap.size + 1, 2, none⟩ (.string ⟨R.toArray⟩)).cell? ⟨w.heap.size + 1, 7, none⟩ = some (.bool true) := gF.url.cell 7
          have r7 : (W2.setCell ⟨w.heap.size + 1, 2, none⟩ (.string ⟨R.toArray⟩)).cell? ⟨w.heap.size + 1 + 1, 7, none⟩ = some (.bool false) := gF.res.cell 7
          have z7 := gF.res.free 7
          have u8 : (W2.setCell ⟨w.heap.size + 1, 2, none⟩ (.string ⟨R.toArray⟩)).cell? ⟨w.heap.size + 1, 8, none⟩ = some (.bool uhf) := gF.url.cell 8
          have r8 : (W2.setCell ⟨w.heap.size + 1, 2, none⟩ (.string ⟨R.toArray⟩)).cell? ⟨w.heap.size + 1 + 1, 8, none⟩ = some (.bool false) := gF.res.cell 8
          have z8 := gF.res.free 8
          go_wp2_with fail
          exact end15 rfl (((((((((gF.res.set0 bs).set1 ba).set2 R).set3 uq).set4 uf).set5 true).set6 bha).set7 true).set8 uhf) (HX.out.trans (by rw [HR.out])) (keeps9 gF.keeps gF.rw _ _ _ _ _ _ _ _ _)
      · have hpe : up.isEmpty = false := by simpa using hp
        have HX : Hid (A = ⟨bs, ba, dotsL (mergedL ⟨bs, ba, bp, bq, bf, bhs, bha, bhq, bhf⟩ up), uq, uf, true, bha, uhq, uhf⟩) := by rw [← HA.out]; unfold resL; simp [hp, Hid]
        clear hp HA
        obtain ⟨R, hR⟩ : ∃ R, dotsL (mergedL ⟨bs, ba, bp, bq, bf, bhs, bha, bhq, bhf⟩ up) = R := ⟨_, rfl⟩
        have HR := hide hR
        clear hR
        have hml := merged_len ⟨bs, ba, bp, bq, bf, bhs, bha, bhq, bhf⟩ up
        simp only at hml
        have WD := hide (fun w => withoutDots_any ⟨(mergedL ⟨bs, ba, bp, bq, bf, bhs, bha, bhq, bhf⟩ up).toArray⟩ w (by rw [str_size]; omega))
        rw [str_list, HR.out] at WD
        have MM := hide (fun w => MG.out up w hu)
        rw [str_list] at MM
        generalize mergedL ⟨bs, ba, bp, bq, bf, bhs, bha, bhq, bhf⟩ up = M at *
        unfold urlV urlCells at MM
        clear MG hml
        go_enter Tryz.func148, Tryz.ntmps148
        go_wp2_with fail
        go_region
        go_wp2_with fail
        refine (MM.out _).mono ?_
        rintro e W1 ⟨rfl, hk1⟩
        have g1 : Rs w w.heap.size (w.heap.size + 1) (w.heap.size + 1 + 1) ⟨bs, ba, bp, bq, bf, bhs, bha, bhq, bhf⟩ W1 ⟨bs, ba, up, uq, uf, true, bha, uhq, uhf⟩ := (ST.out ⟨bs, ba, up, uq, uf, true, bha, uhq, uhf⟩).move (Keeps.off hk1)
        clear hk1
        go_wp2_with fail
        refine (WD.out _).mono ?_
        rintro e W2 ⟨rfl, hk2⟩
        have g2 := g1.move hk2
        have d2 : W2.cell? ⟨w.heap.size + 1, 2, none⟩ = some (.string ⟨up.toArray⟩) := g2.url.cell 2
        have f2 := g2.url.free 2
        have gF : Rs w w.heap.size (w.heap.size + 1) (w.heap.size + 1 + 1) ⟨bs, ba, bp, bq, bf, bhs, bha, bhq, bhf⟩ (W2.setCell ⟨w.heap.size + 1, 2, none⟩ (.string ⟨R.toArray⟩)) ⟨bs, ba, R, uq, uf, true, bha, uhq, uhf⟩ := g2.put (g2.url.set2 R)
        have u0 : (W2.setCell ⟨w.heap.size + 1, 2, none⟩ (.string ⟨R.toArray⟩)).cell? ⟨w.heap.size + 1, 0, none⟩ = some (.string ⟨(bs : List UInt8).toArray⟩) := gF.url.cell 0
        have r0 : (W2.setCell ⟨w.heap.size + 1, 2, none⟩ (.string ⟨R.toArray⟩)).cell? ⟨w.heap.size + 1 + 1, 0, none⟩ = some (.string ⟨([] : List UInt8).toArray⟩) := gF.res.cell 0
        have z0 := gF.res.free 0
        have u1 : (W2.setCell ⟨w.heap.size + 1, 2, none⟩ (.string ⟨R.toArray⟩)).cell? ⟨w.heap.size + 1, 1, none⟩ = some (.string ⟨(ba : List UInt8).toArray⟩) := gF.url.cell 1
        have r1 : (W2.setCell ⟨w.heap.size + 1, 2, none⟩ (.string ⟨R.toArray⟩)).cell? ⟨w.heap.size + 1 + 1, 1, none⟩ = some (.string ⟨([] : List UInt8).toArray⟩) := gF.res.cell 1
        have z1 := gF.res.free 1
        have u2 : (W2.setCell ⟨w.heap.size + 1, 2, none⟩ (.string ⟨R.toArray⟩)).cell? ⟨w.heap.size + 1, 2, none⟩ = some (.string ⟨(R : List UInt8).toArray⟩) := gF.url.cell 2
        have r2 : (W2.setCell ⟨w.heap.size + 1, 2, none⟩ (.string ⟨R.toArray⟩)).cell? ⟨w.heap.size + 1 + 1, 2, none⟩ = some (.string ⟨([] : List UInt8).toArray⟩) := gF.res.cell 2
        have z2 := gF.res.free 2
        have u3 : (W2.setCell ⟨w.heap.size + 1, 2, none⟩ (.string ⟨R.toArray⟩)).cell? ⟨w.heap.size + 1, 3, none⟩ = some (.string ⟨(uq : List UInt8).toArray⟩) := gF.url.cell 3
        have r3 : (W2.setCell ⟨w.heap.size + 1, 2, none⟩ (.string ⟨R.toArray⟩)).cell? ⟨w.heap.size + 1 + 1, 3, none⟩ = some (.string ⟨([] : List UInt8).toArray⟩) := gF.res.cell 3
        have z3 := gF.res.free 3
        have u4 : (W2.setCell ⟨w.heap.size + 1, 2, none⟩ (.string ⟨R.toArray⟩)).cell? ⟨w.heap.size + 1, 4, none⟩ = some (.string ⟨(uf : List UInt8).toArray⟩) := gF.url.cell 4
        have r4 : (W2.setCell ⟨w.heap.size + 1, 2, none⟩ (.string ⟨R.toArray⟩)).cell? ⟨w.heap.size + 1 + 1, 4, none⟩ = some (.string ⟨([] : List UInt8).toArray⟩) := gF.res.cell 4
        have z4 := gF.res.free 4
        have u5 : (W2.setCell ⟨w.heap.size + 1, 2, none⟩ (.string ⟨R.toArray⟩)).cell? ⟨w.heap.size + 1, 5, none⟩ = some (.bool true) := gF.url.cell 5
        have r5 : (W2.setCell ⟨w.heap.size + 1, 2, none⟩ (.string ⟨R.toArray⟩)).cell? ⟨w.heap.size + 1 + 1, 5, none⟩ = some (.bool false) := gF.res.cell 5
        have z5 := gF.res.free 5
        have u6 : (W2.setCell ⟨w.heap.size + 1, 2, none⟩ (.string ⟨R.toArray⟩)).cell? ⟨w.heap.size + 1, 6, none⟩ = some (.bool bha) := gF.url.cell 6
        have r6 : (W2.setCell ⟨w.heap.size + 1, 2, none⟩ (.string ⟨R.toArray⟩)).cell? ⟨w.heap.size + 1 + 1, 6, none⟩ = some (.bool false) := gF.res.cell 6
        have z6 := gF.res.free 6
        have u7 : (W2.setCell ⟨w.heap.size + 1, 2, none⟩ (.string ⟨R.toArray⟩)).cell? ⟨w.heap.size + 1, 7, none⟩ = some (.bool uhq) := gF.url.cell 7
        have r7 : (W2.setCell ⟨w.heap.size + 1, 2, none⟩ (.string ⟨R.toArray⟩)).cell? ⟨w.heap.size + 1 + 1, 7, none⟩ = some (.bool false) := gF.res.cell 7
        have z7 := gF.res.free 7
        have u8 : (W2.setCell ⟨w.heap.size + 1, 2, none⟩ (.string ⟨R.toArray⟩)).cell? ⟨w.heap.size + 1, 8, none⟩ = some (.bool uhf) := gF.url.cell 8
        have r8 : (W2.setCell ⟨w.heap.size + 1, 2, none⟩ (.string ⟨R.toArray⟩)).cell? ⟨w.heap.size + 1 + 1, 8, none⟩ = some (.bool false) := gF.res.cell 8
        have z8 := gF.res.free 8
        go_wp2_with fail
        exact end15 rfl (((((((((gF.res.set0 bs).set1 ba).set2 R).set3 uq).set4 uf).set5 true).set6 bha).set7 uhq).set8 uhf) (HX.out.trans (by rw [HR.out])) (keeps9 gF.keeps gF.rw _ _ _ _ _ _ _ _ _)
    · skip
      have HX : Hid (A = ⟨bs, ua, dotsL up, uq, uf, true, true, uhq, uhf⟩) := HA.out.symm
      have WD := hide (fun w => withoutDots_any ⟨up.toArray⟩ w (by rw [str_size]; omega))
      rw [str_list] at WD
      generalize dotsL up = R at *
      clear MG HA
      go_enter Tryz.func148, Tryz.ntmps148
      go_wp2_with fail
      refine (WD.out _).mono ?_
      rintro e W1 ⟨rfl, hk1⟩
      have g1 : Rs w w.heap.size (w.heap.size + 1) (w.heap.size + 1 + 1) ⟨bs, ba, bp, bq, bf, bhs, bha, bhq, bhf⟩ W1 ⟨bs, ua, up, uq, uf, true, true, uhq, uhf⟩ := (ST.out ⟨bs, ua, up, uq, uf, true, true, uhq, uhf⟩).move hk1
      clear hk1
      have d2 : W1.cell? ⟨w.heap.size + 1, 2, none⟩ = some (.string ⟨up.toArray⟩) := g1.url.cell 2
      have f2 := g1.url.free 2
      have gF : Rs w w.heap.size (w.heap.size + 1) (w.heap.size + 1 + 1) ⟨bs, ba, bp, bq, bf, bhs, bha, bhq, bhf⟩ (W1.setCell ⟨w.heap.size + 1, 2, none⟩ (.string ⟨R.toArray⟩)) ⟨bs, ua, R, uq, uf, true, true, uhq, uhf⟩ := g1.put (g1.url.set2 R)
      have u0 : (W1.setCell ⟨w.heap.size + 1, 2, none⟩ (.string ⟨R.toArray⟩)).cell? ⟨w.heap.size + 1, 0, none⟩ = some (.string ⟨(bs : List UInt8).toArray⟩) := gF.url.cell 0
      have r0 : (W1.setCell ⟨w.heap.size + 1, 2, none⟩ (.string ⟨R.toArray⟩)).cell? ⟨w.heap.size + 1 + 1, 0, none⟩ = some (.string ⟨([] : List UInt8).toArray⟩) := gF.res.cell 0
      have z0 := gF.res.free 0
      have u1 : (W1.setCell ⟨w.heap.size + 1, 2, none⟩ (.string ⟨R.toArray⟩)).cell? ⟨w.heap.size + 1, 1, none⟩ = some (.string ⟨(ua : List UInt8).toArray⟩) := gF.url.cell 1
      have r1 : (W1.setCell ⟨w.heap.size + 1, 2, none⟩ (.string ⟨R.toArray⟩)).cell? ⟨w.heap.size + 1 + 1, 1, none⟩ = some (.string ⟨([] : List UInt8).toArray⟩) := gF.res.cell 1
      have z1 := gF.res.free 1
      have u2 : (W1.setCell ⟨w.heap.size + 1, 2, none⟩ (.string ⟨R.toArray⟩)).cell? ⟨w.heap.size + 1, 2, none⟩ = some (.string ⟨(R : List UInt8).toArray⟩) := gF.url.cell 2
      have r2 : (W1.setCell ⟨w.heap.size + 1, 2, none⟩ (.string ⟨R.toArray⟩)).cell? ⟨w.heap.size + 1 + 1, 2, none⟩ = some (.string ⟨([] : List UInt8).toArray⟩) := gF.res.cell 2
      have z2 := gF.res.free 2
      have u3 : (W1.setCell ⟨w.heap.size + 1, 2, none⟩ (.string ⟨R.toArray⟩)).cell? ⟨w.heap.size + 1, 3, none⟩ = some (.string ⟨(uq : List UInt8).toArray⟩) := gF.url.cell 3
      have r3 : (W1.setCell ⟨w.heap.size + 1, 2, none⟩ (.string ⟨R.toArray⟩)).cell? ⟨w.heap.size + 1 + 1, 3, none⟩ = some (.string ⟨([] : List UInt8).toArray⟩) := gF.res.cell 3
      have z3 := gF.res.free 3
      have u4 : (W1.setCell ⟨w.heap.size + 1, 2, none⟩ (.string ⟨R.toArray⟩)).cell? ⟨w.heap.size + 1, 4, none⟩ = some (.string ⟨(uf : List UInt8).toArray⟩) := gF.url.cell 4
      have r4 : (W1.setCell ⟨w.heap.size + 1, 2, none⟩ (.string ⟨R.toArray⟩)).cell? ⟨w.heap.size + 1 + 1, 4, none⟩ = some (.string ⟨([] : List UInt8).toArray⟩) := gF.res.cell 4
      have z4 := gF.res.free 4
      have u5 : (W1.setCell ⟨w.heap.size + 1, 2, none⟩ (.string ⟨R.toArray⟩)).cell? ⟨w.heap.size + 1, 5, none⟩ = some (.bool true) := gF.url.cell 5
      have r5 : (W1.setCell ⟨w.heap.size + 1, 2, none⟩ (.string ⟨R.toArray⟩)).cell? ⟨w.heap.size + 1 + 1, 5, none⟩ = some (.bool false) := gF.res.cell 5
      have z5 := gF.res.free 5
      have u6 : (W1.setCell ⟨w.heap.size + 1, 2, none⟩ (.string ⟨R.toArray⟩)).cell? ⟨w.heap.size + 1, 6, none⟩ = some (.bool true) := gF.url.cell 6
      have r6 : (W1.setCell ⟨w.heap.size + 1, 2, none⟩ (.string ⟨R.toArray⟩)).cell? ⟨w.heap.size + 1 + 1, 6, none⟩ = some (.bool false) := gF.res.cell 6
      have z6 := gF.res.free 6
      have u7 : (W1.setCell ⟨w.heap.size + 1, 2, none⟩ (.string ⟨R.toArray⟩)).cell? ⟨w.heap.size + 1, 7, none⟩ = some (.bool uhq) := gF.url.cell 7
      have r7 : (W1.setCell ⟨w.heap.size + 1, 2, none⟩ (.string ⟨R.toArray⟩)).cell? ⟨w.heap.size + 1 + 1, 7, none⟩ = some (.bool false) := gF.res.cell 7
      have z7 := gF.res.free 7
      have u8 : (W1.setCell ⟨w.heap.size + 1, 2, none⟩ (.string ⟨R.toArray⟩)).cell? ⟨w.heap.size + 1, 8, none⟩ = some (.bool uhf) := gF.url.cell 8
      have r8 : (W1.setCell ⟨w.heap.size + 1, 2, none⟩ (.string ⟨R.toArray⟩)).cell? ⟨w.heap.size + 1 + 1, 8, none⟩ = some (.bool false) := gF.res.cell 8
      have z8 := gF.res.free 8
      go_wp2_with fail
      exact end15 rfl (((((((((gF.res.set0 bs).set1 ua).set2 R).set3 uq).set4 uf).set5 true).set6 true).set7 uhq).set8 uhf) (HX.out) (keeps9 gF.keeps gF.rw _ _ _ _ _ _ _ _ _)
  · skip
    have HX : Hid (A = ⟨us, ua, dotsL up, uq, uf, true, uha, uhq, uhf⟩) := HA.out.symm
    have WD := hide (fun w => withoutDots_any ⟨up.toArray⟩ w (by rw [str_size]; omega))
    rw [str_list] at WD
    generalize dotsL up = R at *
    clear MG HA
    go_enter Tryz.func148, Tryz.ntmps148
    go_wp2_with fail
    refine (WD.out _).mono ?_
    rintro e W1 ⟨rfl, hk1⟩
    have g1 : Rs w w.heap.size (w.heap.size + 1) (w.heap.size + 1 + 1) ⟨bs, ba, bp, bq, bf, bhs, bha, bhq, bhf⟩ W1 ⟨us, ua, up, uq, uf, true, uha, uhq, uhf⟩ := (ST.out ⟨us, ua, up, uq, uf, true, uha, uhq, uhf⟩).move hk1
    clear hk1
    have d2 : W1.cell? ⟨w.heap.size + 1, 2, none⟩ = some (.string ⟨up.toArray⟩) := g1.url.cell 2
    have f2 := g1.url.free 2
    have gF : Rs w w.heap.size (w.heap.size + 1) (w.heap.size + 1 + 1) ⟨bs, ba, bp, bq, bf, bhs, bha, bhq, bhf⟩ (W1.setCell ⟨w.heap.size + 1, 2, none⟩ (.string ⟨R.toArray⟩)) ⟨us, ua, R, uq, uf, true, uha, uhq, uhf⟩ := g1.put (g1.url.set2 R)
    have u0 : (W1.setCell ⟨w.heap.size + 1, 2, none⟩ (.string ⟨R.toArray⟩)).cell? ⟨w.heap.size + 1, 0, none⟩ = some (.string ⟨(us : List UInt8).toArray⟩) := gF.url.cell 0
    have r0 : (W1.setCell ⟨w.heap.size + 1, 2, none⟩ (.string ⟨R.toArray⟩)).cell? ⟨w.heap.size + 1 + 1, 0, none⟩ = some (.string ⟨([] : List UInt8).toArray⟩) := gF.res.cell 0
    have z0 := gF.res.free 0
    have u1 : (W1.setCell ⟨w.heap.size + 1, 2, none⟩ (.string ⟨R.toArray⟩)).cell? ⟨w.heap.size + 1, 1, none⟩ = some (.string ⟨(ua : List UInt8).toArray⟩) := gF.url.cell 1
    have r1 : (W1.setCell ⟨w.heap.size + 1, 2, none⟩ (.string ⟨R.toArray⟩)).cell? ⟨w.heap.size + 1 + 1, 1, none⟩ = some (.string ⟨([] : List UInt8).toArray⟩) := gF.res.cell 1
    have z1 := gF.res.free 1
    have u2 : (W1.setCell ⟨w.heap.size + 1, 2, none⟩ (.string ⟨R.toArray⟩)).cell? ⟨w.heap.size + 1, 2, none⟩ = some (.string ⟨(R : List UInt8).toArray⟩) := gF.url.cell 2
    have r2 : (W1.setCell ⟨w.heap.size + 1, 2, none⟩ (.string ⟨R.toArray⟩)).cell? ⟨w.heap.size + 1 + 1, 2, none⟩ = some (.string ⟨([] : List UInt8).toArray⟩) := gF.res.cell 2
    have z2 := gF.res.free 2
    have u3 : (W1.setCell ⟨w.heap.size + 1, 2, none⟩ (.string ⟨R.toArray⟩)).cell? ⟨w.heap.size + 1, 3, none⟩ = some (.string ⟨(uq : List UInt8).toArray⟩) := gF.url.cell 3
    have r3 : (W1.setCell ⟨w.heap.size + 1, 2, none⟩ (.string ⟨R.toArray⟩)).cell? ⟨w.heap.size + 1 + 1, 3, none⟩ = some (.string ⟨([] : List UInt8).toArray⟩) := gF.res.cell 3
    have z3 := gF.res.free 3
    have u4 : (W1.setCell ⟨w.heap.size + 1, 2, none⟩ (.string ⟨R.toArray⟩)).cell? ⟨w.heap.size + 1, 4, none⟩ = some (.string ⟨(uf : List UInt8).toArray⟩) := gF.url.cell 4
    have r4 : (W1.setCell ⟨w.heap.size + 1, 2, none⟩ (.string ⟨R.toArray⟩)).cell? ⟨w.heap.size + 1 + 1, 4, none⟩ = some (.string ⟨([] : List UInt8).toArray⟩) := gF.res.cell 4
    have z4 := gF.res.free 4
    have u5 : (W1.setCell ⟨w.heap.size + 1, 2, none⟩ (.string ⟨R.toArray⟩)).cell? ⟨w.heap.size + 1, 5, none⟩ = some (.bool true) := gF.url.cell 5
    have r5 : (W1.setCell ⟨w.heap.size + 1, 2, none⟩ (.string ⟨R.toArray⟩)).cell? ⟨w.heap.size + 1 + 1, 5, none⟩ = some (.bool false) := gF.res.cell 5
    have z5 := gF.res.free 5
    have u6 : (W1.setCell ⟨w.heap.size + 1, 2, none⟩ (.string ⟨R.toArray⟩)).cell? ⟨w.heap.size + 1, 6, none⟩ = some (.bool uha) := gF.url.cell 6
    have r6 : (W1.setCell ⟨w.heap.size + 1, 2, none⟩ (.string ⟨R.toArray⟩)).cell? ⟨w.heap.size + 1 + 1, 6, none⟩ = some (.bool false) := gF.res.cell 6
    have z6 := gF.res.free 6
    have u7 : (W1.setCell ⟨w.heap.size + 1, 2, none⟩ (.string ⟨R.toArray⟩)).cell? ⟨w.heap.size + 1, 7, none⟩ = some (.bool uhq) := gF.url.cell 7
    have r7 : (W1.setCell ⟨w.heap.size + 1, 2, none⟩ (.string ⟨R.toArray⟩)).cell? ⟨w.heap.size + 1 + 1, 7, none⟩ = some (.bool false) := gF.res.cell 7
    have z7 := gF.res.free 7
    have u8 : (W1.setCell ⟨w.heap.size + 1, 2, none⟩ (.string ⟨R.toArray⟩)).cell? ⟨w.heap.size + 1, 8, none⟩ = some (.bool uhf) := gF.url.cell 8
    have r8 : (W1.setCell ⟨w.heap.size + 1, 2, none⟩ (.string ⟨R.toArray⟩)).cell? ⟨w.heap.size + 1 + 1, 8, none⟩ = some (.bool false) := gF.res.cell 8
    have z8 := gF.res.free 8
    go_wp2_with fail
    exact end15 rfl (((((((((gF.res.set0 us).set1 ua).set2 R).set3 uq).set4 uf).set5 true).set6 uha).set7 uhq).set8 uhf) (HX.out) (keeps9 gF.keeps gF.rw _ _ _ _ _ _ _ _ _)
end Go.Proofs.YtlcljanibjdejaaGreat

namespace Go.Proofs.YtlcljanibjdejaaGreat
open Go.RowKit

theorem enters145 : Enters 145 := enters_of Tryz.func145 (by kernel_rfl) (by kernel_rfl)
theorem enters148 : Enters 148 := enters_of Tryz.func148 (by kernel_rfl) (by kernel_rfl)
theorem enters72 : Enters 72 := enters_of Tryz.func72 (by kernel_rfl) (by kernel_rfl)

/-- What is split of a text is no longer than that. -/
theorem split_len (l : List UInt8) : (splitL l).scheme.length ≤ l.length ∧ (splitL l).authority.length ≤ l.length ∧ (splitL l).path.length ≤ l.length ∧ (splitL l).query.length ≤ l.length ∧ (splitL l).fragment.length ≤ l.length := by
  have tw : ∀ (f : UInt8 → Bool) (k : Nat), ((l.drop k).takeWhile f).length ≤ l.length := fun f k => by
    have h1 : ((l.drop k).takeWhile f).length ≤ (l.drop k).length := (List.takeWhile_sublist _).length_le
    rw [List.length_drop] at h1
    omega
  refine ⟨?_, ?_, ?_, ?_, ?_⟩
  · show ((schemeL l).getD []).length ≤ _
    unfold schemeL
    split
    · have := tw schB 0
      simpa using this
    · simp
  · show (auL l).length ≤ _
    unfold auL
    split
    · exact tw _ _
    · simp
  · exact tw _ _
  · show (quL l).length ≤ _
    unfold quL
    split
    · exact tw _ _
    · simp
  · show (frL l).length ≤ _
    unfold frL
    split
    · rw [List.length_drop]; omega
    · simp

theorem res_short (b u : UrlT) (n : Nat) (hb : b.scheme.length ≤ n ∧ b.authority.length ≤ n ∧ b.path.length ≤ n ∧ b.query.length ≤ n ∧ b.fragment.length ≤ n) (hu : u.scheme.length ≤ n ∧ u.authority.length ≤ n ∧ u.path.length ≤ n ∧ u.query.length ≤ n ∧ u.fragment.length ≤ n) (hn : n ≤ 3000) : Short (resL b u) := by
  obtain ⟨b1, b2, b3, b4, b5⟩ := hb
  obtain ⟨u1, u2, u3, u4, u5⟩ := hu
  have h1 := dotsL_len u.path
  have h2 := dotsL_len (mergedL b u.path)
  have h3 := merged_len b u.path
  unfold Short resL
  split
  · exact ⟨by simp only; omega, by simp only; omega, by simp only; omega, by simp only; omega, by simp only; omega⟩
  split
  · exact ⟨by simp only; omega, by simp only; omega, by simp only; omega, by simp only; omega, by simp only; omega⟩
  · refine ⟨by simp only; omega, by simp only; omega, by simp only; omega, ?_, by simp only; omega⟩
    simp only
    split <;> omega

set_option maxHeartbeats 1000000 in
theorem resolve_long (s t : ByteArray) (w : World) (hs : s.size ≤ maxLen) (ht : t.size ≤ maxLen) (h : 3000 < s.size ∨ 3000 < t.size) :
    Calls Tryz.prog 74 #[.string s, .string t] w fun e w' => e = .returned (.tuple #[.string ⟨#[]⟩, .int .i64 2]) ∧ w' = w := by
  unfold maxLen at hs ht
  by_cases h1 : 3000 < s.size
  · have hd : decide ((3000 : Int) < (s.size : Int)) = true := by simp; omega
    go_enter Tryz.func74, Tryz.ntmps74
    go_wp2_with fail
    go_ret2
    exact ⟨rfl, rfl⟩
  · have hd : decide ((3000 : Int) < (s.size : Int)) = false := by simp; omega
    have hd2 : decide ((3000 : Int) < (t.size : Int)) = true := by simp; omega
    go_enter Tryz.func74, Tryz.ntmps74
    go_wp2_with fail
    go_ret2
    exact ⟨rfl, rfl⟩

set_option maxRecDepth 8000 in
set_option maxHeartbeats 10000000 in
theorem resolve_any (s t : ByteArray) (w : World) (hs : s.size ≤ 3000) (ht : t.size ≤ 3000) (hM : HasMax w) :
    Calls Tryz.prog 74 #[.string s, .string t] w fun e w' => e = ansO (resAns s.data.toList t.data.toList) ∧ Keeps [] w w' := by
  have hd : decide ((3000 : Int) < (s.size : Int)) = false := by simp; omega
  have hd2 : decide ((3000 : Int) < (t.size : Int)) = false := by simp; omega
  have sp1 := hide (fun w hM => split_any s w hs hM)
  have sp2 := hide (fun w hM => split_any t w ht hM)
  have hl1 := split_len s.data.toList
  have hl2 := split_len t.data.toList
  rw [len_size] at hl1 hl2
  have hsh := res_short (splitL s.data.toList) (splitL t.data.toList) 3000 ⟨by omega, by omega, by omega, by omega, by omega⟩ ⟨by omega, by omega, by omega, by omega, by omega⟩ (Nat.le_refl _)
  have hre := hide (fun w => resolved_any (splitL s.data.toList) (splitL t.data.toList) w (by omega) (by omega))
  have hjn := hide (fun w hM => join_any (resL (splitL s.data.toList) (splitL t.data.toList)) w hsh hM)
  obtain ⟨A, hA⟩ : ∃ A, resAns s.data.toList t.data.toList = A := ⟨_, rfl⟩
  rw [hA]
  have HA : Hid (A = if (splitL s.data.toList).hs = true then joinsL (resL (splitL s.data.toList) (splitL t.data.toList)) else none) := hA.symm
  clear hA hl1 hl2 hsh
  generalize resL (splitL s.data.toList) (splitL t.data.toList) = r at *
  generalize splitL s.data.toList = b at *
  generalize splitL t.data.toList = u at *
  unfold urlV urlCells at sp1 sp2 hre hjn
  have hx : Hid (∀ w : World, IsUrl (w.alloc (.cells #[.string ⟨b.scheme.toArray⟩, .string ⟨b.authority.toArray⟩, .string ⟨b.path.toArray⟩, .string ⟨b.query.toArray⟩, .string ⟨b.fragment.toArray⟩, .bool b.hs, .bool b.ha, .bool b.hq, .bool b.hf] 99)) w.heap.size b) := fun w => heap_alloc_new _ _
  cases hb : b.hs
  · have HA2 : Hid (A = none) := HA.out.trans (if_neg (by simp [hb]))
    rw [hb] at sp1
    clear hb HA
    go_enter Tryz.func74, Tryz.ntmps74
    go_wp2_with fail
    refine (sp1.out _ hM).mono ?_
    rintro e w1 ⟨rfl, hk1⟩
    go_wp2_with fail
    go_ret2
    exact ⟨by rw [HA2.out]; rfl, hk1.alloc _⟩
  · have HA2 : Hid (A = joinsL r) := HA.out.trans (if_pos hb)
    rw [hb] at sp1 hre hx
    clear HA
    cases hjr : joinsL r with
    | none =>
      rw [hjr] at hjn
      simp only [ansO] at hjn
      have HJ := hide hjr
      clear hjr
      go_enter Tryz.func74, Tryz.ntmps74
      go_wp2_with fail
      refine (sp1.out _ hM).mono ?_
      rintro e w1 ⟨rfl, hk1⟩
      have hM1 := hM.keeps hk1 (by simp)
      have hx1 := hx.out w1
      have hka : Keeps [] w1 (w1.alloc (.cells #[.string ⟨b.scheme.toArray⟩, .string ⟨b.authority.toArray⟩, .string ⟨b.path.toArray⟩, .string ⟨b.query.toArray⟩, .string ⟨b.fragment.toArray⟩, .bool true, .bool b.ha, .bool b.hq, .bool b.hf] 99)) := (Keeps.refl [] w1).alloc _
      have hMa := hM1.keeps hka (by simp)
      have AF : ∀ w2, Keeps [] (w1.alloc (.cells #[.string ⟨b.scheme.toArray⟩, .string ⟨b.authority.toArray⟩, .string ⟨b.path.toArray⟩, .string ⟨b.query.toArray⟩, .string ⟨b.fragment.toArray⟩, .bool true, .bool b.ha, .bool b.hq, .bool b.hf] 99)).drew w2 → IsUrl w2 w1.heap.size b := fun w2 hk2 => hx1.keeps (keeps_drew hk2) (by simp)
      have HAF := hide AF
      clear AF
      go_wp2_with fail
      go_region_law (first
        | (refine step_call rfl 145 _ _ rfl enters145 #[.string t] (by first | (simp [Act.eval]; done) | (simp [Act.eval, Act.put]; done) | kernel_rfl) (sp2.out _ (by exact hMa)) ?_; rintro e w2 ⟨rfl, hk2⟩; refine ⟨_, rfl, ?_⟩; have hka2 := hka.trans (keeps_drew hk2); have hx2 := HAF.out _ hk2; have n0 : w2.cell? ⟨w1.heap.size, 0, none⟩ = some (.string ⟨b.scheme.toArray⟩) := hx2.cell 0; have n1 : w2.cell? ⟨w1.heap.size, 1, none⟩ = some (.string ⟨b.authority.toArray⟩) := hx2.cell 1; have n2 : w2.cell? ⟨w1.heap.size, 2, none⟩ = some (.string ⟨b.path.toArray⟩) := hx2.cell 2; have n3 : w2.cell? ⟨w1.heap.size, 3, none⟩ = some (.string ⟨b.query.toArray⟩) := hx2.cell 3; have n4 : w2.cell? ⟨w1.heap.size, 4, none⟩ = some (.string ⟨b.fragment.toArray⟩) := hx2.cell 4; have n5 : w2.cell? ⟨w1.heap.size, 5, none⟩ = some (.bool b.hs) := hx2.cell 5; have n6 : w2.cell? ⟨w1.heap.size, 6, none⟩ = some (.bool b.ha) := hx2.cell 6; have n7 : w2.cell? ⟨w1.heap.size, 7, none⟩ = some (.bool b.hq) := hx2.cell 7; have n8 : w2.cell? ⟨w1.heap.size, 8, none⟩ = some (.bool b.hf) := hx2.cell 8; rw [hb] at n5; have hM2 := hMa.keeps (keeps_drew hk2) (by simp))
        | (refine step_call rfl 148 _ _ rfl enters148 #[.agg #[.string ⟨b.scheme.toArray⟩, .string ⟨b.authority.toArray⟩, .string ⟨b.path.toArray⟩, .string ⟨b.query.toArray⟩, .string ⟨b.fragment.toArray⟩, .bool true, .bool b.ha, .bool b.hq, .bool b.hf], .agg #[.string ⟨u.scheme.toArray⟩, .string ⟨u.authority.toArray⟩, .string ⟨u.path.toArray⟩, .string ⟨u.query.toArray⟩, .string ⟨u.fragment.toArray⟩, .bool u.hs, .bool u.ha, .bool u.hq, .bool u.hf]] (by first | (simp [Act.eval]; done) | (simp [Act.eval, Act.put]; done) | kernel_rfl) (hre.out _) ?_; rintro e w3 ⟨rfl, hk3⟩; refine ⟨_, rfl, ?_⟩)
        | (refine step_call rfl 72 _ _ rfl enters72 #[.agg #[.string ⟨r.scheme.toArray⟩, .string ⟨r.authority.toArray⟩, .string ⟨r.path.toArray⟩, .string ⟨r.query.toArray⟩, .string ⟨r.fragment.toArray⟩, .bool r.hs, .bool r.ha, .bool r.hq, .bool r.hf]] (by first | (simp [Act.eval]; done) | (simp [Act.eval, Act.put]; done) | kernel_rfl) (hjn.out _ (hM2.keeps hk3 (by simp))) ?_; rintro e w4 ⟨rfl, hk4⟩; refine ⟨_, rfl, ?_⟩))
      all_goals go_wp2
      all_goals go_ret2
      all_goals exact ⟨by rw [HA2.out, HJ.out]; rfl, hk1.trans ((hka2.trans hk3).trans hk4)⟩
    | some x =>
      rw [hjr] at hjn
      simp only [ansO] at hjn
      have HJ := hide hjr
      clear hjr
      go_enter Tryz.func74, Tryz.ntmps74
      go_wp2_with fail
      refine (sp1.out _ hM).mono ?_
      rintro e w1 ⟨rfl, hk1⟩
      have hM1 := hM.keeps hk1 (by simp)
      have hx1 := hx.out w1
      have hka : Keeps [] w1 (w1.alloc (.cells #[.string ⟨b.scheme.toArray⟩, .string ⟨b.authority.toArray⟩, .string ⟨b.path.toArray⟩, .string ⟨b.query.toArray⟩, .string ⟨b.fragment.toArray⟩, .bool true, .bool b.ha, .bool b.hq, .bool b.hf] 99)) := (Keeps.refl [] w1).alloc _
      have hMa := hM1.keeps hka (by simp)
      have AF : ∀ w2, Keeps [] (w1.alloc (.cells #[.string ⟨b.scheme.toArray⟩, .string ⟨b.authority.toArray⟩, .string ⟨b.path.toArray⟩, .string ⟨b.query.toArray⟩, .string ⟨b.fragment.toArray⟩, .bool true, .bool b.ha, .bool b.hq, .bool b.hf] 99)).drew w2 → IsUrl w2 w1.heap.size b := fun w2 hk2 => hx1.keeps (keeps_drew hk2) (by simp)
      have HAF := hide AF
      clear AF
      go_wp2_with fail
      go_region_law (first
        | (refine step_call rfl 145 _ _ rfl enters145 #[.string t] (by first | (simp [Act.eval]; done) | (simp [Act.eval, Act.put]; done) | kernel_rfl) (sp2.out _ (by exact hMa)) ?_; rintro e w2 ⟨rfl, hk2⟩; refine ⟨_, rfl, ?_⟩; have hka2 := hka.trans (keeps_drew hk2); have hx2 := HAF.out _ hk2; have n0 : w2.cell? ⟨w1.heap.size, 0, none⟩ = some (.string ⟨b.scheme.toArray⟩) := hx2.cell 0; have n1 : w2.cell? ⟨w1.heap.size, 1, none⟩ = some (.string ⟨b.authority.toArray⟩) := hx2.cell 1; have n2 : w2.cell? ⟨w1.heap.size, 2, none⟩ = some (.string ⟨b.path.toArray⟩) := hx2.cell 2; have n3 : w2.cell? ⟨w1.heap.size, 3, none⟩ = some (.string ⟨b.query.toArray⟩) := hx2.cell 3; have n4 : w2.cell? ⟨w1.heap.size, 4, none⟩ = some (.string ⟨b.fragment.toArray⟩) := hx2.cell 4; have n5 : w2.cell? ⟨w1.heap.size, 5, none⟩ = some (.bool b.hs) := hx2.cell 5; have n6 : w2.cell? ⟨w1.heap.size, 6, none⟩ = some (.bool b.ha) := hx2.cell 6; have n7 : w2.cell? ⟨w1.heap.size, 7, none⟩ = some (.bool b.hq) := hx2.cell 7; have n8 : w2.cell? ⟨w1.heap.size, 8, none⟩ = some (.bool b.hf) := hx2.cell 8; rw [hb] at n5; have hM2 := hMa.keeps (keeps_drew hk2) (by simp))
        | (refine step_call rfl 148 _ _ rfl enters148 #[.agg #[.string ⟨b.scheme.toArray⟩, .string ⟨b.authority.toArray⟩, .string ⟨b.path.toArray⟩, .string ⟨b.query.toArray⟩, .string ⟨b.fragment.toArray⟩, .bool true, .bool b.ha, .bool b.hq, .bool b.hf], .agg #[.string ⟨u.scheme.toArray⟩, .string ⟨u.authority.toArray⟩, .string ⟨u.path.toArray⟩, .string ⟨u.query.toArray⟩, .string ⟨u.fragment.toArray⟩, .bool u.hs, .bool u.ha, .bool u.hq, .bool u.hf]] (by first | (simp [Act.eval]; done) | (simp [Act.eval, Act.put]; done) | kernel_rfl) (hre.out _) ?_; rintro e w3 ⟨rfl, hk3⟩; refine ⟨_, rfl, ?_⟩)
        | (refine step_call rfl 72 _ _ rfl enters72 #[.agg #[.string ⟨r.scheme.toArray⟩, .string ⟨r.authority.toArray⟩, .string ⟨r.path.toArray⟩, .string ⟨r.query.toArray⟩, .string ⟨r.fragment.toArray⟩, .bool r.hs, .bool r.ha, .bool r.hq, .bool r.hf]] (by first | (simp [Act.eval]; done) | (simp [Act.eval, Act.put]; done) | kernel_rfl) (hjn.out _ (hM2.keeps hk3 (by simp))) ?_; rintro e w4 ⟨rfl, hk4⟩; refine ⟨_, rfl, ?_⟩))
      all_goals go_wp2
      all_goals go_ret2
      all_goals exact ⟨by rw [HA2.out, HJ.out]; rfl, hk1.trans ((hka2.trans hk3).trans hk4)⟩
end Go.Proofs.YtlcljanibjdejaaGreat
