/- CleanGood holds: for every input the law returns true, and each argument reads behind the call as it read before; no condition. A part of its proof. -/
import Derived.Test.YtlcljanibjdejaaGreatCg15
import Derived.ProofKit
import Derived.OpenShut
import Derived.ShutString
import Derived.JoinedCond
import Derived.HandedShaped
import Derived.Carry
import Derived.SizedLaws
namespace Go.Proofs.YtlcljanibjdejaaGreat
open Go.RowKit Go.Maps
theorem must66 (o : Option Addr) (n c : Nat) (x : Int) (w : World) : Calls Tryz.prog 66 #[.slice o n c, .int .i64 x] w fun e w' => (x = 0 ∧ e = .returned (.slice o n c) ∨ x ≠ 0 ∧ e = .panicked (stopped x)) ∧ w' = w := by
  by_cases hx : x = 0
  · subst hx
    go_enter Tryz.func66, Tryz.ntmps66
    go_wp2_with fail
    go_ret
    exact ⟨.inl ⟨trivial, rfl⟩, rfl⟩
  · have hd : (x != 0) = true := by simpa using hx
    have hx2 := hide hx
    clear hx
    go_enter Tryz.func66, Tryz.ntmps66
    go_wp2_with fail
    refine (with_any x _).mono ?_
    rintro e w1 ⟨rfl, rfl⟩
    exact ⟨rfl, .inr ⟨hx2.out, rfl⟩, rfl⟩
theorem must67 (o : Option Addr) (n c : Nat) (x : Int) (w : World) : Calls Tryz.prog 67 #[.slice o n c, .int .i64 x] w fun e w' => (x = 0 ∧ e = .returned (.slice o n c) ∨ x ≠ 0 ∧ e = .panicked (stopped x)) ∧ w' = w := by
  by_cases hx : x = 0
  · subst hx
    go_enter Tryz.func67, Tryz.ntmps67
    go_wp2_with fail
    go_ret
    exact ⟨.inl ⟨trivial, rfl⟩, rfl⟩
  · have hd : (x != 0) = true := by simpa using hx
    have hx2 := hide hx
    clear hx
    go_enter Tryz.func67, Tryz.ntmps67
    go_wp2_with fail
    refine (with_any x _).mono ?_
    rintro e w1 ⟨rfl, rfl⟩
    exact ⟨rfl, .inr ⟨hx2.out, rfl⟩, rfl⟩
theorem must68 (s : ByteArray) (w : World) : Calls Tryz.prog 68 #[.string s, .int .i64 0] w fun e w' => e = .returned (.string s) ∧ w' = w := by
  go_enter Tryz.func68, Tryz.ntmps68
  go_wp2_with fail
  go_ret
  exact ⟨rfl, rfl⟩
def htmlL (base s : List UInt8) : List UInt8 := toksP (flatL (htmlT base s))
set_option maxRecDepth 4000 in
set_option maxHeartbeats 4000000 in
theorem html1_any (base s : List UInt8) (sb bb ob : Nat) (w : World) (hM : HasMax w) (hs : s.length ≤ maxLen) (hbl : base.length ≤ maxLen) (h1 : w.heap[sb]? = some (.cells #[.string ⟨s.toArray⟩] 9 (0, 0))) (h2 : w.heap[bb]? = some (.cells #[.string ⟨base.toArray⟩] 9 (0, 0))) (h3 : w.heap[ob]? = some (.cells #[.string ⟨#[]⟩] 9 (0, 0))) :
    Calls Tryz.prog 65 #[.pointer (some ⟨sb, 0, none⟩), .pointer (some ⟨bb, 0, none⟩), .pointer (some ⟨ob, 0, none⟩)] w fun e w' =>
      ((s.length ≤ 3000 ∧ base.length ≤ 3000) ∧ e = .returned (.tuple #[]) ∧ w'.heap[ob]? = some (.cells #[.string ⟨(htmlL base s).toArray⟩] 9 (0, 0)) ∨ ¬ (s.length ≤ 3000 ∧ base.length ≤ 3000) ∧ e = .panicked (stopped 2) ∧ w'.heap[ob]? = some (.cells #[.string ⟨#[]⟩] 9 (0, 0))) ∧ Keeps [ob] w w' := by
  have nn : ∀ g, g ∉ ([] : List Nat) := fun _ => List.not_mem_nil
  have c1 : w.cell? ⟨sb, 0, none⟩ = some (.string ⟨s.toArray⟩) := cell_blk h1 0
  have hrd := hide (read_any ⟨s.toArray⟩ w (by rw [str_size]; exact hs) hM)
  rw [str_size, str_list] at hrd
  have H2 := hide h2
  have H3 := hide h3
  have HM := hide hM
  clear h1 h2 h3 hM
  by_cases hs3 : 3000 < s.length
  · simp only [hs3, if_true] at hrd
    have hno : ¬ (s.length ≤ 3000 ∧ base.length ≤ 3000) := fun h => by omega
    have HNO := hide hno
    have hm := hide (fun w => (must67 none 0 0 2 w).mono (R' := fun e w' => e = .panicked (stopped 2) ∧ w' = w) (fun e w' h => ⟨h.1.elim (fun h => absurd h.1 (by decide)) (fun h => h.2), h.2⟩))
    clear hs3 hno hs hbl
    go_enter Tryz.func65, Tryz.ntmps65
    go_wp2_with fail
    refine hrd.out.mono ?_
    rintro e w1 ⟨hk1, rfl⟩
    go_wp2_with fail
    refine (hm.out _).mono ?_
    rintro e w2 ⟨rfl, h9⟩
    subst h9
    exact ⟨rfl, .inr ⟨HNO.out, rfl, (hk1.block _ (lt_of_block H3.out) (nn _)).trans H3.out⟩, hk1.to (by simp)⟩
  · simp only [hs3, if_false] at hrd
    have hf := html_facts base s (by omega)
    obtain ⟨f1, f2, f3, f4, f5, f6, f7, f8, f9, f10⟩ := hf
    have fB := bulkNs_fits (buildL (readL s)) (by omega)
    have fV := bulk_val (buildL (readL s)) (by omega)
    have fS := bulkNs_size (buildL (readL s))
    have ftx := bulkL_text (readL s)
    have hbf := bulk_fits (l := readL s) (by omega)
    have hbd := hide (fun (w1 : World) (hk1 : Keeps [] w w1) (v : Value) (hv : Toks w1 v (readL s)) => build_any w1 v (readL s) hv (fun t ht => (hbf t ht).1) (Nat.lt_of_lt_of_le HM.out.pos hk1.size) (fun t ht => (hbf t ht).2) (by omega))
    have htr := hide (fun (w2 : World) (hk2 : Keeps [] w w2) (P : Nat → Prop) (v : Value) (hv : Ns w2 P v (buildL (readL s))) => cleanTree_any base w2 P v _ hv (HM.out.keeps hk2 (nn _)) (by omega) fB.1 fV.1 (by omega) hbl)
    have hfl := hide (fun (w3 : World) (P : Nat → Prop) (v : Value) (hv : Ns w3 P v (htmlT base s)) => treeFlat_any w3 P v _ hv (by omega) f9 f8)
    have hpr := hide (fun (w4 : World) (v : Value) (hv : Toks w4 v (flatL (htmlT base s))) => print_all w4 v _ hv f7 f6)
    rw [f1] at hbd
    simp only [if_true] at hbd
    rw [f5] at hfl
    simp only [if_true] at hfl
    have hE : treeE base (buildL (readL s)) = if 3000 < base.length then 2 else 0 := by unfold treeE; rw [f3]; simp
    rw [hE] at htr
    unfold htmlL htmlT
    unfold htmlT at hfl hpr
    clear f1 f2 f3 f4 f5 f6 f7 f8 f9 f10 fB fV fS ftx hbf hE
    obtain ⟨FL, hFL⟩ : ∃ FL, flatL (cleanL base (buildL (readL s))) = FL := ⟨_, rfl⟩
    obtain ⟨CL, hCL⟩ : ∃ CL, cleanL base (buildL (readL s)) = CL := ⟨_, rfl⟩
    obtain ⟨BL, hBL⟩ : ∃ BL, buildL (readL s) = BL := ⟨_, rfl⟩
    rw [hFL] at hpr hfl ⊢
    rw [hCL] at hfl htr
    rw [hBL] at hbd htr
    clear hFL hCL hBL
    generalize readL s = RL at *
    obtain ⟨PL, hPL⟩ : ∃ PL, toksP FL = PL := ⟨_, rfl⟩
    rw [hPL] at hpr ⊢
    clear hPL
    have m66 := hide (fun o n c w => (must66 o n c 0 w).mono (R' := fun e w' => e = .returned (.slice o n c) ∧ w' = w) (fun e w' h => ⟨h.1.elim (fun h => h.2) (fun h => absurd rfl h.1), h.2⟩))
    have m67 := hide (fun o n c w => (must67 o n c 0 w).mono (R' := fun e w' => e = .returned (.slice o n c) ∧ w' = w) (fun e w' h => ⟨h.1.elim (fun h => h.2) (fun h => absurd rfl h.1), h.2⟩))
    have n66 := hide (fun o n c w => (must66 o n c 2 w).mono (R' := fun e w' => e = .panicked (stopped 2) ∧ w' = w) (fun e w' h => ⟨h.1.elim (fun h => absurd h.1 (by decide)) (fun h => h.2), h.2⟩))
    by_cases hb3 : 3000 < base.length
    · rw [if_pos hb3] at htr
      simp only [show ¬ ((2 : Int) = 0) from by decide, if_false] at htr
      have HNO := hide (show ¬ (s.length ≤ 3000 ∧ base.length ≤ 3000) from fun h => by omega)
      clear hs3 hb3 hs hbl
      go_enter Tryz.func65, Tryz.ntmps65
      go_wp2_with fail
      refine hrd.out.mono ?_
      rintro e w1 ⟨hk1, v1, rfl, ht1⟩
      obtain ⟨o1, n1, c1', hv1⟩ : ∃ o n c, v1 = .slice o n c := by
        obtain ⟨l, _, hl, _⟩ := ht1.toks
        obtain ⟨o, c, h, _⟩ := hl.form
        exact ⟨o, _, c, h⟩
      subst hv1
      have hb1 := hide (hbd.out w1 hk1 _ ht1.toks)
      go_wp2_with fail
      refine (m67.out _ _ _ _).mono ?_
      rintro e w2 ⟨rfl, h9⟩
      subst h9
      go_wp2_with fail
      refine hb1.out.mono ?_
      rintro e w2 ⟨v2, rfl, hN2, hk2⟩
      obtain ⟨o2, c2, hv2⟩ := hN2.form
      subst hv2
      have ht2 := hide (htr.out w2 (hk1.trans hk2) _ _ hN2)
      have e2 : w2.cell? ⟨bb, 0, none⟩ = some (.string ⟨base.toArray⟩) := cell_blk (((hk1.trans hk2).block _ (lt_of_block H2.out) (nn _)).trans H2.out) 0
      clear c1
      go_wp2_with fail
      refine (m66.out _ _ _ _).mono ?_
      rintro e w3 ⟨rfl, h9⟩
      subst h9
      go_wp2_with fail
      refine ht2.out.mono ?_
      rintro e w3 ⟨o3, n3, c3, rfl, hN3, hk3⟩
      go_wp2_with fail
      refine (n66.out _ _ _ _).mono ?_
      rintro e w4 ⟨rfl, h9⟩
      subst h9
      have hk := (hk1.trans hk2).trans hk3
      exact ⟨rfl, .inr ⟨HNO.out, rfl, (hk.block _ (lt_of_block H3.out) (nn _)).trans H3.out⟩, hk.to (by simp)⟩
    · rw [if_neg hb3] at htr
      simp only [if_true] at htr
      have HYE := hide (show s.length ≤ 3000 ∧ base.length ≤ 3000 from ⟨by omega, by omega⟩)
      clear hs3 hb3 hs hbl
      go_enter Tryz.func65, Tryz.ntmps65
      go_wp2_with fail
      refine hrd.out.mono ?_
      rintro e w1 ⟨hk1, v1, rfl, ht1⟩
      obtain ⟨o1, n1, c1', hv1⟩ : ∃ o n c, v1 = .slice o n c := by
        obtain ⟨l, _, hl, _⟩ := ht1.toks
        obtain ⟨o, c, h, _⟩ := hl.form
        exact ⟨o, _, c, h⟩
      subst hv1
      have hb1 := hide (hbd.out w1 hk1 _ ht1.toks)
      go_wp2_with fail
      refine (m67.out _ _ _ _).mono ?_
      rintro e w2 ⟨rfl, h9⟩
      subst h9
      go_wp2_with fail
      refine hb1.out.mono ?_
      rintro e w2 ⟨v2, rfl, hN2, hk2⟩
      obtain ⟨o2, c2, hv2⟩ := hN2.form
      subst hv2
      have ht2 := hide (htr.out w2 (hk1.trans hk2) _ _ hN2)
      have e2 : w2.cell? ⟨bb, 0, none⟩ = some (.string ⟨base.toArray⟩) := cell_blk (((hk1.trans hk2).block _ (lt_of_block H2.out) (nn _)).trans H2.out) 0
      clear c1
      go_wp2_with fail
      refine (m66.out _ _ _ _).mono ?_
      rintro e w3 ⟨rfl, h9⟩
      subst h9
      go_wp2_with fail
      refine ht2.out.mono ?_
      rintro e w3 ⟨o3, n3, c3, rfl, hN3, hk3⟩
      have hf3 := hide (hfl.out w3 _ _ hN3)
      clear e2
      go_wp2_with fail
      refine (m66.out _ _ _ _).mono ?_
      rintro e w4 ⟨rfl, h9⟩
      subst h9
      go_wp2_with fail
      refine hf3.out.mono ?_
      rintro e w4 ⟨v4, rfl, ⟨n4, c4, a4, rfl, h8⟩, ht4, hk4⟩
      subst h8
      have hp4 := hide (hpr.out w4 _ ht4)
      go_wp2_with fail
      refine (m67.out _ _ _ _).mono ?_
      rintro e w5 ⟨rfl, h9⟩
      subst h9
      go_wp2_with fail
      refine hp4.out.mono ?_
      rintro e w5 ⟨rfl, hk5⟩
      have hk := (((hk1.trans hk2).trans hk3).trans hk4).trans hk5
      have e5 := (hk.block _ (lt_of_block H3.out) (nn _)).trans H3.out
      have x5 : w5.cell? ⟨ob, 0, none⟩ = some (.string ⟨#[]⟩) := cell_blk e5 0
      have y5 : w5.frozen? ⟨ob, 0, none⟩ = false := free_blk e5 0
      go_wp2_with fail
      refine (must68 _ _).mono ?_
      rintro e w6 ⟨rfl, h9⟩
      subst h9
      go_wp2_with fail
      go_end0
      refine ⟨.inl ⟨HYE.out, rfl, ?_⟩, (hk.to (by simp)).setCell (.inl (by simp)) _⟩
      simp [World.setCell, Array.getElem?_modify, e5]
def GdN (n : List UInt8) (a : List Pair) : Prop := n = [] ∧ a = [] ∨ allowedN n = true ∧ ∀ x ∈ a, attrE n x = 0
def Gd : List Nd → Prop
  | [] => True
  | .mk n a _ k :: r => GdN n a ∧ Gd k ∧ Gd r
theorem Gd.at {n : Nd} : {ns : List Nd} → Gd ns → n ∈ ns → GdN n.name n.attrs ∧ Gd n.kids
  | .mk m a t k :: r, h, hm => by
    rw [Gd] at h
    rcases List.mem_cons.1 hm with rfl | hm
    · exact ⟨h.1, h.2.1⟩
    · exact Gd.at h.2.2 hm
theorem GdN.ways {n : List UInt8} {a : List Pair} (h : GdN n a) : (a = [] ∧ (n = [] ∨ n = [98] ∨ n = [105] ∨ n = [101, 109] ∨ n = [115, 116, 114, 111, 110, 103] ∨ n = [112] ∨ n = [98, 114] ∨ n = [104, 114] ∨ n = [117, 108] ∨ n = [111, 108] ∨ n = [108, 105] ∨ n = [98, 108, 111, 99, 107, 113, 117, 111, 116, 101] ∨ n = [99, 111, 100, 101])) ∨ (n = [97] ∧ ∀ x ∈ a, attrE [97] x = 0) ∨ (n = [105, 109, 103] ∧ ∀ x ∈ a, attrE [105, 109, 103] x = 0) := by
  rcases h with ⟨rfl, rfl⟩ | ⟨h1, h2⟩
  · exact .inl ⟨rfl, .inl rfl⟩
  · by_cases ha : n = [97]
    · subst ha; exact .inr (.inl ⟨rfl, h2⟩)
    · by_cases hi : n = [105, 109, 103]
      · subst hi; exact .inr (.inr ⟨rfl, h2⟩)
      · left
        refine ⟨?_, ?_⟩
        · cases a with
          | nil => rfl
          | cons x a =>
            have := h2 x (by simp)
            unfold attrE allowedA at this
            have b1 : (n == [97]) = false := by simpa using ha
            have b2 : (n == [105, 109, 103]) = false := by simpa using hi
            simp [b1, b2] at this
        · unfold allowedN at h1
          simp only [Bool.or_eq_true, beq_iff_eq] at h1
          rcases h1 with h | h | h | h | h | h | h | h | h | h | h | h | h | h
          all_goals first | exact absurd h ha | exact absurd h hi | (subst h; simp)
theorem attrE_a {x : Pair} (h : attrE [97] x = 0) : (x.1 = [104, 114, 101, 102] ∧ x.2.length ≤ 3000 ∧ safeL x.2 = true) ∨ x.1 = [116, 105, 116, 108, 101] := by
  unfold attrE allowedA at h
  rw [if_pos (show (([97] : List UInt8) == [97]) = true from rfl)] at h
  by_cases h1 : x.1 = [104, 114, 101, 102]
  · left
    rw [h1] at h
    simp [linkN] at h
    by_cases h2 : 3000 < x.2.length
    · simp [h2] at h
    · by_cases h3 : safeL x.2 = true
      · exact ⟨h1, by omega, h3⟩
      · simp [h2, h3] at h
  · right
    by_cases h2 : x.1 = [116, 105, 116, 108, 101]
    · exact h2
    · simp [h1, h2] at h
theorem attrE_img {x : Pair} (h : attrE [105, 109, 103] x = 0) : (x.1 = [115, 114, 99] ∧ x.2.length ≤ 3000 ∧ safeL x.2 = true) ∨ x.1 = [97, 108, 116] := by
  unfold attrE allowedA at h
  rw [if_neg (show ¬ (([105, 109, 103] : List UInt8) == [97]) = true from by decide), if_pos (show (([105, 109, 103] : List UInt8) == [105, 109, 103]) = true from rfl)] at h
  by_cases h1 : x.1 = [115, 114, 99]
  · left
    rw [h1] at h
    simp [linkN] at h
    by_cases h2 : 3000 < x.2.length
    · simp [h2] at h
    · by_cases h3 : safeL x.2 = true
      · exact ⟨h1, by omega, h3⟩
      · simp [h2, h3] at h
  · right
    by_cases h2 : x.1 = [97, 108, 116]
    · exact h2
    · simp [h1, h2] at h
set_option maxRecDepth 8000 in
set_option maxHeartbeats 8000000 in
theorem allowed_any (P : Nat → Prop) (w0 : World) (v : Value) (ns : List Nd) (h : Ns w0 P v ns) : ∀ (w : World), Keeps [] w0 w → HasMax w → Gd ns →
    Calls Tryz.prog 21 #[v] w fun e w' => e = .returned (.bool true) ∧ Keeps [] w w' := by
  induction h with
  | mk v l ns hns hl ha hk ih =>
    intro w hkw hM hG
    have hlw := hl.keeps hkw (fun _ _ => List.not_mem_nil)
    obtain ⟨o, c, rfl, h1, h2⟩ := hlw.lies.form
    unfold maxLen at h2
    have HL := hide hlw
    have HI := hide ih
    have HA := hide ha
    have HG := hide (show ∀ p ∈ l, GdN p.nd.name p.nd.attrs ∧ Gd p.nd.kids from fun p hp => Gd.at hG (by rw [← hns]; exact List.mem_map_of_mem hp))
    have HKD := hide hk
    have HKW := hide hkw
    have HM := hide hM
    clear hlw hl ih ha hk hG hkw hM hns
    go_enter Tryz.func21, Tryz.ntmps21
    go_wp2_with fail
    go_loopw [3] (fun i wr => ∃ (k : Nat), k ≤ l.length ∧ i = .int .i64 k ∧ Hid (Keeps [] w wr)) (fun i _ => l.length - (intOf i).toNat)
    case atStart => exact ⟨0, Nat.zero_le _, rfl, Keeps.refl _ _⟩
    case round =>
      obtain ⟨k, hk, rfl, hkr⟩ := hrel
      obtain ⟨wo, hwo⟩ : ∃ wo, wo = wr := ⟨_, rfl⟩
      subst hwo
      by_cases hlt : k < l.length
      · obtain ⟨g, x, hoo, hcl⟩ := (HL.out.keeps hkr.out (fun _ _ => List.not_mem_nil)).lies.addr (by omega)
        subst hoo
        obtain ⟨a0, a1, a2, a3⟩ := lies_pn hcl k hlt
        have hin0 := HI.out l[k] (List.getElem_mem hlt)
        have hak := ((HA.out l[k] (List.getElem_mem hlt)).keeps HKW.out (fun _ _ => List.not_mem_nil)).keeps hkr.out (fun _ _ => List.not_mem_nil)
        have hgd := HG.out l[k] (List.getElem_mem hlt)
        have hkf := (HKD.out l[k] (List.getElem_mem hlt)).form
        clear hcl
        generalize l[k] = p at *
        obtain ⟨⟨nm, at', tx, ks⟩, pav, pkv⟩ := p
        simp only [Nd.name, Nd.attrs, Nd.text, Nd.kids] at a0 a1 a2 a3 hin0 hak hgd hkf
        obtain ⟨qo, qc, hq⟩ := hak.form
        subst hq
        obtain ⟨ko, kc, hkv⟩ := hkf
        subst hkv
        have hin := hide (fun (W : World) (hkk : Keeps [] wo W) => hin0 W ((HKW.out.trans hkr.out).trans hkk) (HM.out.keeps (hkr.out.trans hkk) List.not_mem_nil) hgd.2)
        have HK := hide hak.lies
        clear hin0 hak
        rcases hgd.1.ways with ⟨hat, hnm⟩ | ⟨hnm, hat⟩ | ⟨hnm, hat⟩
        · subst hat
          clear hgd HK
          rcases hnm with hnm | hnm | hnm | hnm | hnm | hnm | hnm | hnm | hnm | hnm | hnm | hnm | hnm
          all_goals subst hnm
          all_goals go_wp2_with fail
          all_goals refine (hin.out _ ((Keeps.refl [] wo).alloc _)).mono ?_
          all_goals rintro e w2 ⟨rfl, hk2⟩
          all_goals go_wp2_with fail
          all_goals refine ⟨⟨k + 1, by omega, by go_num, (hkr.out.trans ((Keeps.refl [] wo).alloc _)).trans hk2⟩, ?_⟩
          all_goals (simp [intOf]; omega)
        · subst hnm
          clear hgd
          obtain ⟨Wb, hWb⟩ : ∃ Wb, wo.alloc (.cells #[.string ⟨([97] : List UInt8).toArray⟩, .slice qo at'.length qc, .string ⟨tx.toArray⟩, .slice ko ks.length kc] 45) = Wb := ⟨_, rfl⟩
          have hka : Keeps [] wo Wb := by rw [← hWb]; exact (Keeps.refl [] wo).alloc _
          have hbx : Wb.heap[wo.heap.size]? = some (.cells #[.string ⟨([97] : List UInt8).toArray⟩, .slice qo at'.length qc, .string ⟨tx.toArray⟩, .slice ko ks.length kc] 45 (0, 0)) := by rw [← hWb]; exact heap_alloc_new wo _
          have HBX := hide hbx
          have HKA := hide hka
          have hal : at'.length ≤ 9223372036854775807 := by obtain ⟨_, _, _, q1, q2⟩ := HK.out.form; unfold maxLen at q2; omega
          have HKb := hide (HK.out.keeps hka)
          have b0 : Wb.cell? ⟨wo.heap.size, 0, none⟩ = some (.string ⟨([97] : List UInt8).toArray⟩) := cell_blk hbx 0
          have b1 : Wb.cell? ⟨wo.heap.size, 1, none⟩ = some (.slice qo at'.length qc) := cell_blk hbx 1
          clear hbx hka HK
          go_wp2_with fail
          clear b0 b1 a0 a1 a2 a3
          go_loopw [5] (fun j wr => ∃ (m : Nat), m ≤ at'.length ∧ j = .int .i64 m ∧ Hid (Keeps [] Wb wr)) (fun j _ => at'.length - (intOf j).toNat)
          case atStart => exact ⟨0, Nat.zero_le _, rfl, Keeps.refl _ _⟩
          case round =>
            obtain ⟨m, hm, rfl, hkx⟩ := hrel
            have hb2 := (hkx.out.block _ (lt_of_block HBX.out) List.not_mem_nil).trans HBX.out
            have c1 : wr.cell? ⟨wo.heap.size, 1, none⟩ = some (.slice qo at'.length qc) := cell_blk hb2 1
            have c3 : wr.cell? ⟨wo.heap.size, 3, none⟩ = some (.slice ko ks.length kc) := cell_blk hb2 3
            by_cases hml : m < at'.length
            · obtain ⟨g2, x2, rfl, hc⟩ := (HKb.out.keeps hkx.out).addr (by omega)
              have q0 := hc _ _ (pair_at0 at' m hml)
              have q1 := hc _ _ (pair_at1 at' m hml)
              rw [← Nat.add_assoc] at q1
              have hga := attrE_a (hat _ (List.getElem_mem hml))
              clear hc
              generalize at'[m] = pr at *
              obtain ⟨pn, pv⟩ := pr
              simp only at q0 q1 hga
              have hkC : Keeps [] wr (wr.alloc (.cells #[.string ⟨pn.toArray⟩, .string ⟨pv.toArray⟩] 52)) := (Keeps.refl [] wr).alloc _
              have hbC := heap_alloc_new wr (.cells #[.string ⟨pn.toArray⟩, .string ⟨pv.toArray⟩] 52)
              rcases hga with ⟨rfl, hpl, hps⟩ | rfl
              · have hsf := hide (safe_any ⟨pv.toArray⟩ _ (by rw [str_size]; exact hpl) (HM.out.keeps (((hkr.out.trans HKA.out).trans hkx.out).trans hkC) List.not_mem_nil))
                rw [str_list, hps] at hsf
                have HBC := hide hbC
                have HKC := hide hkC
                clear hbC hkC
                go_wp2_with fail
                refine hsf.out.mono ?_
                rintro e w2 ⟨rfl, hk2⟩
                have hb3 := (hk2.block _ (lt_of_block HBC.out) List.not_mem_nil).trans HBC.out
                have r0 : w2.cell? ⟨wr.heap.size, 0, none⟩ = some (.string ⟨([104, 114, 101, 102] : List UInt8).toArray⟩) := cell_blk hb3 0
                clear hb3
                go_wp2_with fail
                refine ⟨⟨m + 1, by omega, by go_num, (hkx.out.trans HKC.out).trans hk2⟩, ?_⟩
                simp [intOf]
                omega
              · go_wp2_with fail
                refine ⟨⟨m + 1, by omega, by go_num, hkx.out.trans hkC⟩, ?_⟩
                simp [intOf]
                omega
            · have he : m = at'.length := by omega
              subst he
              go_wp2_with fail
              refine (hin.out _ (HKA.out.trans hkx.out)).mono ?_
              rintro e w2 ⟨rfl, hk2⟩
              go_wp2_with fail
              refine ⟨⟨k + 1, by omega, by go_num, (hkr.out.trans (HKA.out.trans hkx.out)).trans hk2⟩, ?_⟩
              simp [intOf]
              omega
        · subst hnm
          clear hgd
          obtain ⟨Wb, hWb⟩ : ∃ Wb, wo.alloc (.cells #[.string ⟨([105, 109, 103] : List UInt8).toArray⟩, .slice qo at'.length qc, .string ⟨tx.toArray⟩, .slice ko ks.length kc] 45) = Wb := ⟨_, rfl⟩
          have hka : Keeps [] wo Wb := by rw [← hWb]; exact (Keeps.refl [] wo).alloc _
          have hbx : Wb.heap[wo.heap.size]? = some (.cells #[.string ⟨([105, 109, 103] : List UInt8).toArray⟩, .slice qo at'.length qc, .string ⟨tx.toArray⟩, .slice ko ks.length kc] 45 (0, 0)) := by rw [← hWb]; exact heap_alloc_new wo _
          have HBX := hide hbx
          have HKA := hide hka
          have hal : at'.length ≤ 9223372036854775807 := by obtain ⟨_, _, _, q1, q2⟩ := HK.out.form; unfold maxLen at q2; omega
          have HKb := hide (HK.out.keeps hka)
          have b0 : Wb.cell? ⟨wo.heap.size, 0, none⟩ = some (.string ⟨([105, 109, 103] : List UInt8).toArray⟩) := cell_blk hbx 0
          have b1 : Wb.cell? ⟨wo.heap.size, 1, none⟩ = some (.slice qo at'.length qc) := cell_blk hbx 1
          clear hbx hka HK
          go_wp2_with fail
          clear b0 b1 a0 a1 a2 a3
          go_loopw [5] (fun j wr => ∃ (m : Nat), m ≤ at'.length ∧ j = .int .i64 m ∧ Hid (Keeps [] Wb wr)) (fun j _ => at'.length - (intOf j).toNat)
          case atStart => exact ⟨0, Nat.zero_le _, rfl, Keeps.refl _ _⟩
          case round =>
            obtain ⟨m, hm, rfl, hkx⟩ := hrel
            have hb2 := (hkx.out.block _ (lt_of_block HBX.out) List.not_mem_nil).trans HBX.out
            have c1 : wr.cell? ⟨wo.heap.size, 1, none⟩ = some (.slice qo at'.length qc) := cell_blk hb2 1
            have c3 : wr.cell? ⟨wo.heap.size, 3, none⟩ = some (.slice ko ks.length kc) := cell_blk hb2 3
            by_cases hml : m < at'.length
            · obtain ⟨g2, x2, rfl, hc⟩ := (HKb.out.keeps hkx.out).addr (by omega)
              have q0 := hc _ _ (pair_at0 at' m hml)
              have q1 := hc _ _ (pair_at1 at' m hml)
              rw [← Nat.add_assoc] at q1
              have hga := attrE_img (hat _ (List.getElem_mem hml))
              clear hc
              generalize at'[m] = pr at *
              obtain ⟨pn, pv⟩ := pr
              simp only at q0 q1 hga
              have hkC : Keeps [] wr (wr.alloc (.cells #[.string ⟨pn.toArray⟩, .string ⟨pv.toArray⟩] 52)) := (Keeps.refl [] wr).alloc _
              have hbC := heap_alloc_new wr (.cells #[.string ⟨pn.toArray⟩, .string ⟨pv.toArray⟩] 52)
              rcases hga with ⟨rfl, hpl, hps⟩ | rfl
              · have hsf := hide (safe_any ⟨pv.toArray⟩ _ (by rw [str_size]; exact hpl) (HM.out.keeps (((hkr.out.trans HKA.out).trans hkx.out).trans hkC) List.not_mem_nil))
                rw [str_list, hps] at hsf
                have HBC := hide hbC
                have HKC := hide hkC
                clear hbC hkC
                go_wp2_with fail
                refine hsf.out.mono ?_
                rintro e w2 ⟨rfl, hk2⟩
                have hb3 := (hk2.block _ (lt_of_block HBC.out) List.not_mem_nil).trans HBC.out
                have r0 : w2.cell? ⟨wr.heap.size, 0, none⟩ = some (.string ⟨([115, 114, 99] : List UInt8).toArray⟩) := cell_blk hb3 0
                clear hb3
                go_wp2_with fail
                refine ⟨⟨m + 1, by omega, by go_num, (hkx.out.trans HKC.out).trans hk2⟩, ?_⟩
                simp [intOf]
                omega
              · go_wp2_with fail
                refine ⟨⟨m + 1, by omega, by go_num, hkx.out.trans hkC⟩, ?_⟩
                simp [intOf]
                omega
            · have he : m = at'.length := by omega
              subst he
              go_wp2_with fail
              refine (hin.out _ (HKA.out.trans hkx.out)).mono ?_
              rintro e w2 ⟨rfl, hk2⟩
              go_wp2_with fail
              refine ⟨⟨k + 1, by omega, by go_num, (hkr.out.trans (HKA.out.trans hkx.out)).trans hk2⟩, ?_⟩
              simp [intOf]
              omega
      · have he : k = l.length := by omega
        subst he
        go_wp2_with fail
        go_ret
        exact ⟨rfl, hkr.out⟩
theorem enters65 : Enters 65 := enters_of Tryz.func65 (by kernel_rfl) (by kernel_rfl)
set_option maxHeartbeats 2000000 in
theorem html_any (base s : List UInt8) (w : World) (hM : HasMax w) (hs : s.length ≤ maxLen) (hbl : base.length ≤ maxLen) :
    Calls Tryz.prog 15 #[.string ⟨base.toArray⟩, .string ⟨s.toArray⟩] w fun e w' =>
      ((s.length ≤ 3000 ∧ base.length ≤ 3000) ∧ e = .returned (.tuple #[.string ⟨(htmlL base s).toArray⟩, .int .i64 0]) ∨ ¬ (s.length ≤ 3000 ∧ base.length ≤ 3000) ∧ e = .returned (.tuple #[.string ⟨#[]⟩, .int .i64 2])) ∧ Keeps [] w w' := by
  obtain ⟨W, hW⟩ : ∃ W, ((w.alloc (.cells #[.string ⟨base.toArray⟩] 9)).alloc (.cells #[.string ⟨s.toArray⟩] 9)).alloc (.cells #[.string ⟨#[]⟩] 9) = W := ⟨_, rfl⟩
  have hkW : Keeps [] w W := by rw [← hW]; exact (((Keeps.refl [] w).alloc _).alloc _).alloc _
  have s1 : ∀ o, (w.alloc o).heap.size = w.heap.size + 1 := fun o => by simp
  have s2 : ∀ o o', ((w.alloc o).alloc o').heap.size = w.heap.size + 1 + 1 := fun o o' => by simp
  have hb0 : W.heap[w.heap.size]? = some (.cells #[.string ⟨base.toArray⟩] 9 (0, 0)) := by
    rw [← hW, Below.heap_alloc _ _ _ (by rw [s2]; omega), Below.heap_alloc _ _ _ (by rw [s1]; omega)]
    exact heap_alloc_new w _
  have hb1 : W.heap[w.heap.size + 1]? = some (.cells #[.string ⟨s.toArray⟩] 9 (0, 0)) := by
    rw [← hW, Below.heap_alloc _ _ _ (by rw [s2]; omega), ← s1]
    exact heap_alloc_new _ _
  have hb2 : W.heap[w.heap.size + 1 + 1]? = some (.cells #[.string ⟨#[]⟩] 9 (0, 0)) := by
    rw [← hW, ← s2]
    exact heap_alloc_new _ _
  have hsz : W.heap.size = w.heap.size + 1 + 1 + 1 := by rw [← hW]; simp
  have nn : ∀ g, g ∉ ([] : List Nat) := fun _ => List.not_mem_nil
  have hc := hide (caught_any 65 #[.pointer (some ⟨w.heap.size + 1, 0, none⟩), .pointer (some ⟨w.heap.size, 0, none⟩), .pointer (some ⟨w.heap.size + 1 + 1, 0, none⟩)]
    (fun w2 => (s.length ≤ 3000 ∧ base.length ≤ 3000) ∧ w2.heap[w.heap.size + 1 + 1]? = some (.cells #[.string ⟨(htmlL base s).toArray⟩] 9 (0, 0)))
    (fun x w2 => ¬ (s.length ≤ 3000 ∧ base.length ≤ 3000) ∧ x = 2 ∧ w2.heap[w.heap.size + 1 + 1]? = some (.cells #[.string ⟨#[]⟩] 9 (0, 0))) [w.heap.size + 1 + 1] W enters65
    (fun i hi => by simp at hi; omega)
    (fun w2 w3 _ h hk => ⟨h.1, (hk.block _ (lt_of_block h.2) (by simp; omega)).trans h.2⟩)
    (fun x w2 w3 _ h hk => ⟨h.1, h.2.1, (hk.block _ (lt_of_block h.2.2) (by simp; omega)).trans h.2.2⟩)
    (fun w1 hk1 _ => (html1_any base s (w.heap.size + 1) w.heap.size (w.heap.size + 1 + 1) w1 (hM.keeps (hkW.trans hk1) (nn _)) hs hbl ((hk1.block _ (lt_of_block hb1) (nn _)).trans hb1) ((hk1.block _ (lt_of_block hb0) (nn _)).trans hb0) ((hk1.block _ (lt_of_block hb2) (nn _)).trans hb2)).mono
      (fun e w2 h => ⟨h.1.elim (fun h => .inl ⟨h.2.1, h.1, h.2.2⟩) (fun h => .inr ⟨2, h.2.1, h.1, rfl, h.2.2⟩), h.2⟩)))
  have hmf : ∀ (fn : Fn) (first cap : Array Value) (w : World), (Instr.makeFunc fn first cap).run Tryz.prog w = .ok (.func fn first cap) w := fun _ _ _ _ => rfl
  have Hsz := hide hsz
  clear hb0 hb1 hb2 s1 s2 hsz hM hs hbl
  have HW := hide hW
  clear hW
  go_enter Tryz.func15, Tryz.ntmps15
  go_upto_region 2 with fail
  rw [HW.out]
  go_wp2_with fail
  refine hc.out.mono ?_
  rintro e w1 ⟨⟨rfl, hok, hb⟩ | ⟨x, rfl, hno, rfl, hb⟩, hk1⟩
  · have c0 : w1.cell? ⟨w.heap.size + 1 + 1, 0, none⟩ = some (.string ⟨(htmlL base s).toArray⟩) := cell_blk hb 0
    have HOK := hide hok
    clear hok
    go_wp2_with fail
    go_ret2
    exact ⟨.inl ⟨HOK.out, rfl⟩, keeps_on hkW hk1 (fun g hg hlt => by simp at hg; omega)⟩
  · have c0 : w1.cell? ⟨w.heap.size + 1 + 1, 0, none⟩ = some (.string ⟨#[]⟩) := cell_blk hb 0
    have HNO := hide hno
    clear hno
    go_wp2_with fail
    go_ret2
    exact ⟨.inr ⟨HNO.out, rfl⟩, keeps_on hkW hk1 (fun g hg hlt => by simp at hg; omega)⟩
def begB : List UInt8 := [104, 116, 116, 112, 58, 47, 47, 97, 47, 98]
def begT : List UInt8 := ([60, 115, 101, 99, 116, 105, 111, 110, 62, 60, 112, 32, 111, 110, 99, 108, 105, 99, 107, 61, 120, 62, 97, 60, 115, 99, 114, 105, 112, 116, 62, 98, 60, 47, 115, 99, 114, 105, 112, 116, 62, 60, 97, 32].append [104, 114, 101, 102, 61, 99, 62, 100, 60, 47, 97, 62, 60, 97, 32, 104, 114, 101, 102, 61, 39, 106, 97, 118, 97, 115, 99, 114, 105, 112, 116, 58, 101, 39, 62, 102, 60, 47, 97, 62, 60, 105, 109, 103, 62, 103])
def begK : List Tok := [⟨2, [115, 101, 99, 116, 105, 111, 110], [], []⟩, ⟨2, [112], [([111, 110, 99, 108, 105, 99, 107], [120])], []⟩, ⟨1, [], [], [97]⟩, ⟨2, [115, 99, 114, 105, 112, 116], [], []⟩, ⟨1, [], [], [98]⟩, ⟨3, [115, 99, 114, 105, 112, 116], [], []⟩, ⟨2, [97], [([104, 114, 101, 102], [99])], []⟩, ⟨1, [], [], [100]⟩, ⟨3, [97], [], []⟩, ⟨2, [97], [([104, 114, 101, 102], [106, 97, 118, 97, 115, 99, 114, 105, 112, 116, 58, 101])], []⟩, ⟨1, [], [], [102]⟩, ⟨3, [97], [], []⟩, ⟨2, [105, 109, 103], [], []⟩, ⟨1, [], [], [103]⟩]
def begN : List Nd := [.mk [115, 101, 99, 116, 105, 111, 110] [] [] [.mk [112] [([111, 110, 99, 108, 105, 99, 107], [120])] [] [.mk [] [] [97] [], .mk [115, 99, 114, 105, 112, 116] [] [] [.mk [] [] [98] []], .mk [97] [([104, 114, 101, 102], [99])] [] [.mk [] [] [100] []], .mk [97] [([104, 114, 101, 102], [106, 97, 118, 97, 115, 99, 114, 105, 112, 116, 58, 101])] [] [.mk [] [] [102] []], .mk [105, 109, 103] [] [] [], .mk [] [] [103] []]]]
def begC : List Nd := [.mk [112] [] [] [.mk [] [] [97] [], .mk [97] [([104, 114, 101, 102], [104, 116, 116, 112, 58, 47, 47, 97, 47, 99])] [] [.mk [] [] [100] []], .mk [97] [] [] [.mk [] [] [102] []], .mk [] [] [103] []]]
def begO : List UInt8 := [60, 112, 62, 97, 60, 97, 32, 104, 114, 101, 102, 61, 34, 104, 116, 116, 112, 58, 47, 47, 97, 47, 99, 34, 62, 100, 60, 47, 97, 62, 60, 97, 62, 102, 60, 47, 97, 62, 103, 60, 47, 112, 62]
theorem beg_read : readL begT = begK := by kernel_rfl
theorem beg_build : buildL begK = begN := by kernel_rfl
theorem beg_k1 : keptA begB [112] [([111, 110, 99, 108, 105, 99, 107], [120])] = [] := by kernel_rfl
theorem beg_k2 : keptA begB [97] [([104, 114, 101, 102], [99])] = [([104, 114, 101, 102], [104, 116, 116, 112, 58, 47, 47, 97, 47, 99])] := by kernel_rfl
theorem beg_k3 : keptA begB [97] [([104, 114, 101, 102], [106, 97, 118, 97, 115, 99, 114, 105, 112, 116, 58, 101])] = [] := by kernel_rfl
theorem beg_k4 : keptA begB [105, 109, 103] [] = [] := by kernel_rfl
theorem beg_s1 : standE [112] [] = 0 := by kernel_rfl
theorem beg_s2 : standE [97] [([104, 114, 101, 102], [104, 116, 116, 112, 58, 47, 47, 97, 47, 99])] = 0 := by kernel_rfl
theorem beg_s3 : standE [97] [] = 0 := by kernel_rfl
theorem beg_s4 : standE [105, 109, 103] [] = 5 := by kernel_rfl
theorem beg_clean : cleanL begB begN = begC := by
  unfold cleanL begN begC
  simp [cleanIn, beg_k1, beg_k2, beg_k3, beg_k4, beg_s1, beg_s2, beg_s3, beg_s4, goneN, allowedN, Lst.put, Lst.done, Nd.name, Nd.text, textN]
theorem beg_print : toksP (flatL begC) = begO := by
  simp only [begC, flatL]
  kernel_rfl
theorem beg_html : htmlL begB begT = begO := by
  unfold htmlL htmlT
  rw [beg_read, beg_build, beg_clean, beg_print]
theorem page_val : ValNs pageL := by simp [pageL, ValNs]
theorem page_sz : szNs pageL ≤ 3000000 := by simp [pageL, szNs]
theorem page_st : AllSt pageL := by simp [pageL, AllSt, standE, attrsE, allowedN, hasSrc]
theorem page_told : AllTold [] pageL := by simp [pageL, AllTold]
theorem page_clean : cleanL [] pageL = pageL := cleanL_same [] pageL ((chkTree_ok _).1 page_tree).2 page_st page_told
theorem page_treeE : treeE [] pageL = 0 := by unfold treeE; rw [page_tree]; simp
theorem page_isE : isE pageL = 0 := (isE_stands pageL).2 page_st
def scrL : List Nd := [.mk [115, 99, 114, 105, 112, 116] [] [] []]
theorem scr_tree : chkTree scrL = 0 := by
  rw [chkTree_ok]
  refine ⟨by simp [scrL, sizeNs], ?_⟩
  simp [scrL, Rt, isNameL, chkA, emptyN, closedL, blockN, wallN, listN]
  decide
theorem scr_isE : isE scrL = 7 := by simp [scrL, isE, standE, allowedN]
theorem scr_fits : FitsNs scrL := by simp [scrL, FitsNs, Fits, maxLen]
theorem scr_val : ValNs scrL := by simp [scrL, ValNs]
set_option maxRecDepth 8000 in
set_option maxHeartbeats 8000000 in
theorem cleanBegun_any (w : World) (hM : HasMax w) : Calls Tryz.prog 16 #[] w fun e w' => e = .returned (.bool true) ∧ Keeps [] w w' := by
  have nn : ∀ g, g ∉ ([] : List Nat) := fun _ => List.not_mem_nil
  have r1 := hide ((html_any begB begT w hM (by unfold begT maxLen; decide) (by unfold begB maxLen; decide)).mono (R' := fun e w' => e = .returned (.tuple #[.string ⟨begO.toArray⟩, .int .i64 0]) ∧ Keeps [] w w') (fun e w' h => ⟨h.1.elim (fun h => by rw [h.2, beg_html]) (fun h => absurd ⟨by unfold begT; decide, by unfold begB; decide⟩ h.1), h.2⟩))
  have tr := hide (fun (w : World) (P : Nat → Prop) (v : Value) (hM : HasMax w) (hN : Ns w P v pageL) => cleanTree_any [] w P v pageL hN hM (by rw [page_size]; decide) page_fits page_val page_sz (by simp [maxLen]))
  rw [page_treeE, if_pos rfl, page_clean] at tr
  have is1 := hide (fun (w : World) (P : Nat → Prop) (v : Value) (hM : HasMax w) (hN : Ns w P v pageL) => cleanIs_any w P v pageL hN hM (by rw [page_size]; decide) page_fits page_val)
  rw [page_tree, page_isE] at is1
  have is2 := hide (fun (w : World) (P : Nat → Prop) (v : Value) (hM : HasMax w) (hN : Ns w P v scrL) => cleanIs_any w P v scrL hN hM (by simp [scrL, sizeNs]) scr_fits scr_val)
  rw [scr_tree, scr_isE] at is2
  simp only [decide_true, Bool.and_true, show decide ((7 : Int) = 0) = false from rfl, Bool.and_false] at is1 is2
  have HM := hide hM
  clear hM
  go_enter Tryz.func16, Tryz.ntmps16
  go_wp2_with fail
  refine r1.out.mono ?_
  rintro e w1 ⟨rfl, hk1⟩
  go_wp2_with fail
  refine (page_any _).mono ?_
  rintro e w2 ⟨v2, rfl, hN2, hk2⟩
  obtain ⟨o2, c2, hv2⟩ := hN2.form
  subst hv2
  have t2 := hide (tr.out w2 _ _ (HM.out.keeps (hk1.trans hk2) (nn _)) hN2)
  go_wp2_with fail
  refine t2.out.mono ?_
  rintro e w3 ⟨o3, n3, c3, rfl, hN3, hk3⟩
  go_wp2_with fail
  refine (page_any _).mono ?_
  rintro e w4 ⟨v4, rfl, hN4, hk4⟩
  obtain ⟨o4, c4, hv4⟩ := hN4.form
  subst hv4
  have hk14 := (((hk1.trans hk2).trans hk3).trans hk4)
  have i4 := hide (is1.out w4 _ _ (HM.out.keeps hk14 (nn _)) hN4)
  go_wp2_with fail
  refine i4.out.mono ?_
  rintro e w5 ⟨rfl, hk5⟩
  have n5 := ns_new w5 [⟨.mk [115, 99, 114, 105, 112, 116] [] [] [], .slice none 0 0, .slice none 0 0⟩] #[.string ⟨#[115, 99, 114, 105, 112, 116]⟩, .slice none 0 0, .string ⟨#[]⟩, .slice none 0 0] rfl (by decide) (by intro p hp; simp at hp; subst hp; exact ⟨rfl, rfl⟩) (by intro p hp; simp at hp; subst hp; exact nil_ns _)
  have hka : Keeps [] w5 (w5.alloc (.cells #[.string ⟨#[115, 99, 114, 105, 112, 116]⟩, .slice none 0 0, .string ⟨#[]⟩, .slice none 0 0] 45)) := (Keeps.refl [] w5).alloc _
  have i5 := hide (is2.out _ _ _ (HM.out.keeps ((hk14.trans hk5).trans hka) (nn _)) n5)
  go_wp2_with fail
  refine i5.out.mono ?_
  rintro e w6 ⟨rfl, hk6⟩
  go_wp2_with fail
  refine (page_any _).mono ?_
  rintro e w7 ⟨v7, rfl, hN7, hk7⟩
  obtain ⟨o7, c7, hv7⟩ := hN7.form
  subst hv7
  have hk37 : Keeps [] w3 w7 := (((hk4.trans hk5).trans hka).trans hk6).trans hk7
  have sn := hide (sameNodes_eq _ _ w3 _ pageL hN3 _ w7 hk37 hN7)
  go_wp2_with fail
  refine sn.out.mono ?_
  rintro e w8 ⟨rfl, n8, rfl⟩
  go_wp2_with fail
  go_ret
  exact ⟨rfl, (((hk1.trans hk2).trans hk3).trans hk37).drewN _⟩
end Go.Proofs.YtlcljanibjdejaaGreat
namespace Go.Proofs.YtlcljanibjdejaaGreat
open Go.RowKit
theorem sp0 : splitL [104, 116, 116, 112, 58, 47, 47, 97, 47, 98, 47, 99, 47, 100, 59, 112, 63, 113, 35, 102] = ⟨[104, 116, 116, 112], [97], [47, 98, 47, 99, 47, 100, 59, 112], [113], [102], true, true, true, true⟩ := by kernel_rfl
theorem dt0 : dotsL [47, 97, 47, 98, 47, 99, 47, 46, 47, 46, 46, 47, 46, 46, 47, 103] = [47, 97, 47, 103] := by kernel_rfl
theorem rs0 : resAns [104, 116, 116, 112, 58, 47, 47, 97, 47, 98, 47, 99, 47, 100, 59, 112, 63, 113] [46, 46, 47, 103, 63, 121, 35, 115] = some [104, 116, 116, 112, 58, 47, 47, 97, 47, 98, 47, 103, 63, 121, 35, 115] := by kernel_rfl
theorem sf0 : safeL [74, 97, 118, 97, 83, 99, 114, 105, 112, 116, 58, 120] = false := by kernel_rfl
theorem sf1 : safeL [32, 104, 116, 10, 116, 112, 115, 58, 47, 47, 120] = true := by kernel_rfl
theorem jn0 : joinsL ⟨[104, 116, 116, 112], [97], [47, 98, 47, 99, 47, 100, 59, 112], [113], [102], true, true, true, true⟩ = some [104, 116, 116, 112, 58, 47, 47, 97, 47, 98, 47, 99, 47, 100, 59, 112, 63, 113, 35, 102] := by kernel_rfl
theorem begun1 (w : World) (hM : HasMax w) : Calls Tryz.prog 71 #[.string ⟨#[104, 116, 116, 112, 58, 47, 47, 97, 47, 98, 47, 99, 47, 100, 59, 112, 63, 113, 35, 102]⟩] w fun e w' => e = .returned (.tuple #[.agg #[.string ⟨#[104, 116, 116, 112]⟩, .string ⟨#[97]⟩, .string ⟨#[47, 98, 47, 99, 47, 100, 59, 112]⟩, .string ⟨#[113]⟩, .string ⟨#[102]⟩, .bool true, .bool true, .bool true, .bool true], .int .i64 0]) ∧ Keeps [] w w' :=
  (split_short ⟨#[104, 116, 116, 112, 58, 47, 47, 97, 47, 98, 47, 99, 47, 100, 59, 112, 63, 113, 35, 102]⟩ w (by decide) hM).mono fun e w' ⟨he, hk⟩ => ⟨he.trans (by rw [show (⟨#[104, 116, 116, 112, 58, 47, 47, 97, 47, 98, 47, 99, 47, 100, 59, 112, 63, 113, 35, 102]⟩ : ByteArray).data.toList = [104, 116, 116, 112, 58, 47, 47, 97, 47, 98, 47, 99, 47, 100, 59, 112, 63, 113, 35, 102] from rfl, sp0]; rfl), hk⟩
theorem begun2 (w : World) (hM : HasMax w) : Calls Tryz.prog 72 #[.agg #[.string ⟨#[104, 116, 116, 112]⟩, .string ⟨#[97]⟩, .string ⟨#[47, 98, 47, 99, 47, 100, 59, 112]⟩, .string ⟨#[113]⟩, .string ⟨#[102]⟩, .bool true, .bool true, .bool true, .bool true]] w fun e w' => e = .returned (.tuple #[.string ⟨#[104, 116, 116, 112, 58, 47, 47, 97, 47, 98, 47, 99, 47, 100, 59, 112, 63, 113, 35, 102]⟩, .int .i64 0]) ∧ Keeps [] w w' :=
  (join_any ⟨[104, 116, 116, 112], [97], [47, 98, 47, 99, 47, 100, 59, 112], [113], [102], true, true, true, true⟩ w ⟨by decide, by decide, by decide, by decide, by decide⟩ hM).mono fun e w' ⟨he, hk⟩ => ⟨he.trans (by rw [jn0]; rfl), hk⟩
theorem begun3 (w : World) : Calls Tryz.prog 73 #[.string ⟨#[47, 97, 47, 98, 47, 99, 47, 46, 47, 46, 46, 47, 46, 46, 47, 103]⟩] w fun e w' => e = .returned (.tuple #[.string ⟨#[47, 97, 47, 103]⟩, .int .i64 0]) ∧ Keeps [] w w' :=
  (dots_any ⟨#[47, 97, 47, 98, 47, 99, 47, 46, 47, 46, 46, 47, 46, 46, 47, 103]⟩ w (by decide)).mono fun e w' ⟨he, hk⟩ => ⟨he.trans (by rw [show (⟨#[47, 97, 47, 98, 47, 99, 47, 46, 47, 46, 46, 47, 46, 46, 47, 103]⟩ : ByteArray).data.toList = [47, 97, 47, 98, 47, 99, 47, 46, 47, 46, 46, 47, 46, 46, 47, 103] from rfl, dt0]), hk⟩
theorem begun4 (w : World) (hM : HasMax w) : Calls Tryz.prog 74 #[.string ⟨#[104, 116, 116, 112, 58, 47, 47, 97, 47, 98, 47, 99, 47, 100, 59, 112, 63, 113]⟩, .string ⟨#[46, 46, 47, 103, 63, 121, 35, 115]⟩] w fun e w' => e = .returned (.tuple #[.string ⟨#[104, 116, 116, 112, 58, 47, 47, 97, 47, 98, 47, 103, 63, 121, 35, 115]⟩, .int .i64 0]) ∧ Keeps [] w w' :=
  (resolve_any ⟨#[104, 116, 116, 112, 58, 47, 47, 97, 47, 98, 47, 99, 47, 100, 59, 112, 63, 113]⟩ ⟨#[46, 46, 47, 103, 63, 121, 35, 115]⟩ w (by decide) (by decide) hM).mono fun e w' ⟨he, hk⟩ => ⟨he.trans (by rw [show (⟨#[104, 116, 116, 112, 58, 47, 47, 97, 47, 98, 47, 99, 47, 100, 59, 112, 63, 113]⟩ : ByteArray).data.toList = [104, 116, 116, 112, 58, 47, 47, 97, 47, 98, 47, 99, 47, 100, 59, 112, 63, 113] from rfl, show (⟨#[46, 46, 47, 103, 63, 121, 35, 115]⟩ : ByteArray).data.toList = [46, 46, 47, 103, 63, 121, 35, 115] from rfl, rs0]; rfl), hk⟩
theorem begun5 (w : World) (hM : HasMax w) : Calls Tryz.prog 75 #[.string ⟨#[74, 97, 118, 97, 83, 99, 114, 105, 112, 116, 58, 120]⟩] w fun e w' => e = .returned (.tuple #[.bool false, .int .i64 0]) ∧ Keeps [] w w' :=
  (safe_any ⟨#[74, 97, 118, 97, 83, 99, 114, 105, 112, 116, 58, 120]⟩ w (by decide) hM).mono fun e w' ⟨he, hk⟩ => ⟨he.trans (by rw [show (⟨#[74, 97, 118, 97, 83, 99, 114, 105, 112, 116, 58, 120]⟩ : ByteArray).data.toList = [74, 97, 118, 97, 83, 99, 114, 105, 112, 116, 58, 120] from rfl, sf0]), hk⟩
theorem begun6 (w : World) (hM : HasMax w) : Calls Tryz.prog 75 #[.string ⟨#[32, 104, 116, 10, 116, 112, 115, 58, 47, 47, 120]⟩] w fun e w' => e = .returned (.tuple #[.bool true, .int .i64 0]) ∧ Keeps [] w w' :=
  (safe_any ⟨#[32, 104, 116, 10, 116, 112, 115, 58, 47, 47, 120]⟩ w (by decide) hM).mono fun e w' ⟨he, hk⟩ => ⟨he.trans (by rw [show (⟨#[32, 104, 116, 10, 116, 112, 115, 58, 47, 47, 120]⟩ : ByteArray).data.toList = [32, 104, 116, 10, 116, 112, 115, 58, 47, 47, 120] from rfl, sf1]), hk⟩
set_option maxRecDepth 8000 in
set_option maxHeartbeats 8000000 in
theorem urlBegun_any (w : World) (hM : HasMax w) : Calls Tryz.prog 17 #[] w fun e w' => e = .returned (.bool true) ∧ Keeps [] w w' := by
  go_enter Tryz.func17, Tryz.ntmps17
  go_wp2_with fail
  refine (begun1 _ hM).mono ?_
  rintro e w1 ⟨rfl, hk1⟩
  have hM1 := hM.keeps hk1 (by simp)
  have hka : Keeps [] w1 (w1.alloc (.cells #[.string ⟨#[104, 116, 116, 112]⟩, .string ⟨#[97]⟩, .string ⟨#[47, 98, 47, 99, 47, 100, 59, 112]⟩, .string ⟨#[113]⟩, .string ⟨#[102]⟩, .bool true, .bool true, .bool true, .bool true] 99)) := (Keeps.refl [] w1).alloc _
  have hU : IsUrl (w1.alloc (.cells #[.string ⟨#[104, 116, 116, 112]⟩, .string ⟨#[97]⟩, .string ⟨#[47, 98, 47, 99, 47, 100, 59, 112]⟩, .string ⟨#[113]⟩, .string ⟨#[102]⟩, .bool true, .bool true, .bool true, .bool true] 99)) w1.heap.size ⟨[104, 116, 116, 112], [97], [47, 98, 47, 99, 47, 100, 59, 112], [113], [102], true, true, true, true⟩ := heap_alloc_new _ _
  have hMa := hM1.keeps hka (by simp)
  go_wp2_with fail
  refine (begun2 _ hMa).mono ?_
  rintro e w2 ⟨rfl, hk2⟩
  go_wp2_with fail
  refine (begun3 _).mono ?_
  rintro e w3 ⟨rfl, hk3⟩
  have hM3 := (hMa.keeps hk2 (by simp)).keeps hk3 (by simp)
  go_wp2_with fail
  refine (begun4 _ hM3).mono ?_
  rintro e w4 ⟨rfl, hk4⟩
  have hM4 := hM3.keeps hk4 (by simp)
  go_wp2_with fail
  refine (begun5 _ hM4).mono ?_
  rintro e w5 ⟨rfl, hk5⟩
  have hM5 := hM4.keeps hk5 (by simp)
  go_wp2_with fail
  refine (begun6 _ hM5).mono ?_
  rintro e w6 ⟨rfl, hk6⟩
  have hk26 := (((hk2.trans hk3).trans hk4).trans hk5).trans hk6
  have hU6 := hU.keeps hk26 (by simp)
  have c1 : w6.cell? ⟨w1.heap.size, 1, none⟩ = some (.string ⟨#[97]⟩) := hU6.cell 1
  have c2 : w6.cell? ⟨w1.heap.size, 2, none⟩ = some (.string ⟨#[47, 98, 47, 99, 47, 100, 59, 112]⟩) := hU6.cell 2
  have c4 : w6.cell? ⟨w1.heap.size, 4, none⟩ = some (.string ⟨#[102]⟩) := hU6.cell 4
  go_wp2_with fail
  go_ret
  exact ⟨rfl, (hk1.trans hka).trans hk26⟩
end Go.Proofs.YtlcljanibjdejaaGreat
namespace Go.Proofs.YtlcljanibjdejaaGreat
open Go.RowKit Go.Maps
theorem gd_right : ∀ (ns : List Nd) (ar : List (List UInt8)) (prev : Bool), Rt ar prev ns → AllSt ns → Gd ns
  | [], _, _, _, _ => by simp [Gd]
  | .mk n a t k :: r, ar, prev, h, hs => by
    rw [AllSt] at hs
    rw [Gd]
    by_cases hn : n = []
    · subst hn
      obtain ⟨_, ha, hk, _, hr⟩ := (Rt_text ar prev (.mk [] a t k) r rfl).1 h
      have ha : a = [] := ha
      have hk : k = [] := hk
      subst hk
      exact ⟨.inl ⟨rfl, ha⟩, by simp [Gd], gd_right r _ _ hr hs.2.2⟩
    · obtain ⟨_, _, _, _, _, _, hk, hr⟩ := (Rt_el ar prev (.mk n a t k) r hn).1 h
      refine ⟨.inr ?_, gd_right k _ _ hk hs.2.1, gd_right r _ _ hr hs.2.2⟩
      have h1 := hs.1
      unfold standE at h1
      have e : n.isEmpty = false := by simpa using hn
      rw [e] at h1
      cases h2 : allowedN n
      · simp [h2] at h1
      · refine ⟨rfl, ?_⟩
        by_cases h3 : attrsE n a = 0
        · have : ∀ (l : List Pair), attrsE n l = 0 → ∀ x ∈ l, attrE n x = 0 := fun l => by
            induction l with
            | nil => intro _ x hx; simp at hx
            | cons y l ih =>
              intro h x hx
              rw [attrsE] at h
              by_cases hy : attrE n y = 0
              · rw [if_pos hy] at h
                rcases List.mem_cons.1 hx with rfl | hx
                · exact hy
                · exact ih h x hx
              · rw [if_neg hy] at h
                exact absurd h hy
          exact this a h3
        · simp [h2, h3] at h1
theorem html_good (base s : List UInt8) (hs : s.length ≤ 3000) :
    readL (htmlL base s) = flatL (htmlT base s) ∧ chkL (flatL (htmlT base s)) = 0 ∧ buildL (flatL (htmlT base s)) = htmlT base s ∧ chkTree (htmlT base s) = 0 ∧ isE (htmlT base s) = 0 ∧ Gd (htmlT base s) := by
  obtain ⟨_, _, _, _, f5, f6, _, _, _, _⟩ := html_facts base s hs
  have hr := ((chkTree_ok _).1 f5).2
  have hst := (cleanL_stands base (buildL (readL s))).1
  exact ⟨read_printed _ f6, f6, build_flat _ hr, f5, (isE_stands _).2 hst, gd_right _ _ _ hr hst⟩
set_option maxRecDepth 4000 in
set_option maxHeartbeats 8000000 in
theorem cleanGood_law (base s : List UInt8) (w : World) (hM : HasMax w) (hb : base.length ≤ maxLen) (hs : s.length ≤ maxLen) :
    Calls Tryz.prog 3 #[.string ⟨base.toArray⟩, .string ⟨s.toArray⟩] w fun e w' => e = .returned (.bool true) ∧ Keeps [] w w' := by
  have nn : ∀ g, g ∉ ([] : List Nat) := fun _ => List.not_mem_nil
  have cb := hide (fun (w1 : World) (hk : Keeps [] w w1) => cleanBegun_any w1 (hM.keeps hk (nn _)))
  have ub := hide (fun (w1 : World) (hk : Keeps [] w w1) => urlBegun_any w1 (hM.keeps hk (nn _)))
  by_cases hy : s.length ≤ 3000 ∧ base.length ≤ 3000
  · have h1 := hide ((html_any base s w hM hs hb).mono (R' := fun e w' => e = .returned (.tuple #[.string ⟨(htmlL base s).toArray⟩, .int .i64 0]) ∧ Keeps [] w w') (fun e w' h => ⟨h.1.elim (fun h => h.2) (fun h => absurd hy h.1), h.2⟩))
    have hsO : (⟨(htmlL base s).toArray⟩ : ByteArray).size = (htmlL base s).length := str_size _
    by_cases hl : (htmlL base s).length ≤ 3000
    · obtain ⟨g1, g2, g3, g4, g5, g6⟩ := html_good base s hy.1
      have rb := readL_bulk (htmlL base s)
      rw [g1] at rb
      have bb := bulk_build (flatL (htmlT base s))
      rw [g3] at bb
      have hbf := bulk_fits (l := flatL (htmlT base s)) (by omega)
      have fB := bulkNs_fits (htmlT base s) (by omega)
      have fV := bulk_val (htmlT base s) (by omega)
      have fS := bulkNs_size (htmlT base s)
      have ftx := bulkL_text (flatL (htmlT base s))
      have hrd := hide (fun (w1 : World) (hk : Keeps [] w w1) => (read_any ⟨(htmlL base s).toArray⟩ w1 (by rw [str_size]; unfold maxLen; omega) (hM.keeps hk (nn _))))
      rw [str_size, str_list, g1] at hrd
      simp only [show ¬ 3000 < (htmlL base s).length from by omega, if_false] at hrd
      have hbd := hide (fun (w1 : World) (hk1 : Keeps [] w w1) (v : Value) (hv : Toks w1 v (flatL (htmlT base s))) => build_any w1 v _ hv (fun t ht => (hbf t ht).1) (Nat.lt_of_lt_of_le hM.pos hk1.size) (fun t ht => (hbf t ht).2) (by omega))
      rw [g2, g3] at hbd
      have hci := hide (fun (w5 : World) (hk5 : Keeps [] w w5) (P : Nat → Prop) (v : Value) (hv : Ns w5 P v (htmlT base s)) => cleanIs_any w5 P v _ hv (hM.keeps hk5 (nn _)) (by omega) fB.1 fV.1)
      rw [g4, g5] at hci
      have htr := hide (fun (w1 : World) => treeOf_any (htmlL base s) w1 hl)
      rw [g1, g3] at htr
      have hal := hide (fun (w1 w2 : World) (P : Nat → Prop) (v : Value) (hv : Ns w1 P v (htmlT base s)) (hk : Keeps [] w1 w2) (h2 : Keeps [] w w2) => allowed_any P w1 v _ hv w2 hk (hM.keeps h2 (nn _)) g6)
      simp only [if_true, decide_true, Bool.and_self] at hbd hci
      have d1 : decide ((3000 : Int) < ((htmlL base s).length : Int)) = false := decide_eq_false (by omega)
      clear hM g1 g2 g3 g4 g5 g6 rb bb hbf fB fV fS ftx hy hsO hl
      generalize flatL (htmlT base s) = FL at *
      generalize htmlT base s = HT at *
      generalize htmlL base s = O at *
      go_enter Tryz.func3, Tryz.ntmps3
      go_wp2_with fail
      refine h1.out.mono ?_
      rintro e w1 ⟨rfl, hk1⟩
      go_wp2_with fail
      refine (cb.out w1 hk1).mono ?_
      rintro e w2 ⟨rfl, hk2⟩
      have hk02 := hk1.trans hk2
      clear hk1 hk2
      go_wp2_with fail
      refine (ub.out w2 hk02).mono ?_
      rintro e w3 ⟨rfl, hk3⟩
      have HK3 := hide (hk02.trans hk3)
      clear hk02 hk3
      go_wp2_with fail
      refine (hrd.out w3 HK3.out).mono ?_
      rintro e w4 ⟨hk4, v4, rfl, ht4⟩
      have HT4 := hide ht4.toks
      obtain ⟨l4, _, hr4, _⟩ := ht4
      obtain ⟨o4, c4, rfl⟩ := row_form hr4
      have HK4 := hide (HK3.out.trans hk4)
      have hb4 := hide (hbd.out w4 HK4.out _ HT4.out)
      clear hk4 hr4 HT4 HK3 hrd hbd
      go_wp2_with fail
      refine hb4.out.mono ?_
      rintro e w5 ⟨v5, rfl, hn5, hk5⟩
      obtain ⟨o5, c5, rfl⟩ := hn5.form
      have HN5 := hide hn5
      have HK5 := hide (HK4.out.trans hk5)
      have hc5 := hide (hci.out w5 HK5.out _ _ HN5.out)
      clear hn5 hk5 hb4 hci HK4
      go_wp2_with fail
      refine hc5.out.mono ?_
      rintro e w6 ⟨rfl, hk6⟩
      have HK6 := hide (HK5.out.trans hk6)
      have ha6 := hide (hal.out w5 w6 _ _ HN5.out hk6 HK6.out)
      clear hk6 hc5 HK5
      go_wp2_with fail
      refine ha6.out.mono ?_
      rintro e w7 ⟨rfl, hk7⟩
      have HK7 := hide (HK6.out.trans hk7)
      have ht7 := hide (htr.out w7)
      clear hk7 ha6 HK6
      go_wp2_with fail
      refine ht7.out.mono ?_
      rintro e w8 ⟨v8, rfl, hn8, hk8⟩
      obtain ⟨o8, c8, rfl⟩ := hn8.form
      have HK8 := hide (HK7.out.trans hk8)
      have ha8 := hide (hal.out w8 w8 _ _ hn8 (Keeps.refl _ _) HK8.out)
      clear hn8 hk8 ht7 HK7
      go_wp2_with fail
      refine ha8.out.mono ?_
      rintro e w9 ⟨rfl, hk9⟩
      go_wp2_with fail
      go_ret
      exact ⟨rfl, HK8.out.trans hk9⟩
    · have d1 : decide ((3000 : Int) < ((htmlL base s).length : Int)) = true := decide_eq_true (by omega)
      clear hM hy
      generalize htmlL base s = O at *
      go_enter Tryz.func3, Tryz.ntmps3
      go_wp2_with fail
      refine h1.out.mono ?_
      rintro e w1 ⟨rfl, hk1⟩
      go_wp2_with fail
      refine (cb.out w1 hk1).mono ?_
      rintro e w2 ⟨rfl, hk2⟩
      have hk02 := hk1.trans hk2
      clear hk1 hk2
      go_wp2_with fail
      refine (ub.out w2 hk02).mono ?_
      rintro e w3 ⟨rfl, hk3⟩
      go_wp2_with fail
      go_ret
      exact ⟨rfl, hk02.trans hk3⟩
  · have h1 := hide ((html_any base s w hM hs hb).mono (R' := fun e w' => e = .returned (.tuple #[.string ⟨#[]⟩, .int .i64 2]) ∧ Keeps [] w w') (fun e w' h => ⟨h.1.elim (fun h => absurd h.1 hy) (fun h => h.2), h.2⟩))
    clear hM hy
    go_enter Tryz.func3, Tryz.ntmps3
    go_wp2_with fail
    refine h1.out.mono ?_
    rintro e w1 ⟨rfl, hk1⟩
    go_wp2_with fail
    refine (cb.out w1 hk1).mono ?_
    rintro e w2 ⟨rfl, hk2⟩
    have hk02 := hk1.trans hk2
    clear hk1 hk2
    go_wp2_with fail
    refine (ub.out w2 hk02).mono ?_
    rintro e w3 ⟨rfl, hk3⟩
    go_wp2_with fail
    go_ret
    exact ⟨rfl, hk02.trans hk3⟩
theorem cleanGood_any (a b : ByteArray) (w : World) (ha : a.size ≤ maxLen) (hb : b.size ≤ maxLen) (hM : HasMax w) :
    Calls Tryz.prog 3 #[.string a, .string b] w fun e w' => e = .returned (.bool true) ∧ Keeps [] w w' := by
  have h := cleanGood_law a.data.toList b.data.toList w hM (by rw [len_size]; exact ha) (by rw [len_size]; exact hb)
  simp only [str_backA] at h
  exact h
open Go.ChangeShapes Go.WideShapes Go.ChangeAt
open Go.ChangeMaps (open_string shut_string)
theorem knob_own : ownKnob Tryz.prog.godebug = none := by kernel_rfl
theorem laid_out : laidOutB Tryz.prog = true := by kernel_rfl
theorem prog_maps : mapsRowed Tryz.prog = true := by kernel_rfl
theorem prog_plain : (true == Tryz.prog.plainKeys) = true := by kernel_rfl
theorem prog_heard : Tryz.prog.stopsHeard = true := by kernel_rfl
theorem prog_enter : Tryz.prog.mayEnter = true := by kernel_rfl
theorem prog_lifted : (false == Tryz.prog.liftsFinal) = true := by kernel_rfl
theorem prog_make : (Tryz.prog.make == some .cut) = true := by kernel_rfl
theorem max_shaped (W : World) (h : W.ShapedOpen Tryz.prog) : HasMax W := Tryz.laysM143.s1_3 W h
end Go.Proofs.YtlcljanibjdejaaGreat
namespace Go.Proofs.YtlcljanibjdejaaGreat
open Go.ChangeShapes Go.WideShapes Go.ChangeAt Go.RowKit
open Go.ChangeMaps (open_string shut_string)
set_option maxRecDepth 100000 in
theorem cleanGood_lifted (os : Os) (started : os.Started) (H : Type) (enc : TypeId × Value → H) :
    ReturnsInHanded {} Tryz.checked os 3 .any (Rows.cleanGoodSpec.pre6 enc Tryz.prog Tryz.f3 Rows.cleanGoodRow.domain false) (Rows.cleanGoodSpec.post enc Tryz.prog Tryz.f3 false true false false) := by
  refine returnsInHanded_of_change_shaped (C := Tryz.checked) knob_own started (by kernel_rfl) Tryz.func3
    (ChangeSpec.witness6 (enc := enc) (C := Tryz.checked) false ⟨#[], #[.string ByteArray.empty, .string ByteArray.empty], []⟩ 8 (by kernel_rfl) (by kernel_rfl) (by kernel_rfl) (by kernel_rfl)) ?_
  intro W base args ds gs before hval0 hW hcnd hsz0 hsh _
  have hM : HasMax W := max_shaped W hsh
  have hval : ∀ (j : Nat) t v, Tryz.f3.params[j]? = some t → args[j]? = some v → Value.okWide Tryz.prog W .any base t v := hval0
  have hW' := hW
  obtain ⟨p, q, hA0, hV, rfl, hfz, hnd⟩ := hW
  have hA : DataW.TrodAll enc Tryz.prog W 0 (fun _ => true) true Tryz.f3.params.toList args.toList ds p := hA0
  rw [Tryz.params3] at hA hval
  obtain ⟨v0, v1, d0, d1, p0, p1, rfl, rfl, rfl, h0, h1⟩ := trodAll_two hA
  obtain ⟨rfl, rfl⟩ := trodVars_none hV
  obtain ⟨a0, rfl, rfl, rfl, w0⟩ := open_string Tryz.underlying9 (hval 0 9 v0 rfl rfl) h0
  obtain ⟨a1, rfl, rfl, rfl, w1⟩ := open_string Tryz.underlying9 (hval 1 9 v1 rfl rfl) h1
  clear hA0 hval0
  simp only [List.append_nil] at hW'
  refine (cleanGood_any a0 a1 W w0 w1 hM).mono fun e W' ⟨he, hg⟩ => ?_
  subst he
  refine ⟨_, rfl, _, _, _, [], [], [], hW', trodAll_cons_mk (shut_bool Tryz.underlying4 _) trodAll_mk0, (trodAll_cons_mk (shut_string Tryz.underlying9 w0) (trodAll_cons_mk (shut_string Tryz.underlying9 w1) trodAll_mk0)), rfl, hg.nil_below.frame _, fun h => by cases h⟩
set_option maxHeartbeats 8000000 in
theorem cleanGood_closed : joinedFacts Tryz.prog 3 Tryz.f3 Rows.cleanGoodSpec Rows.cleanGoodRow = true := by
  simp only [joinedFacts, Bool.and_eq_true]
  refine ⟨⟨⟨⟨⟨⟨⟨⟨⟨⟨⟨⟨⟨⟨⟨⟨⟨⟨⟨⟨⟨⟨⟨⟨⟨⟨⟨⟨⟨⟨⟨?_, laid_out⟩, prog_maps⟩, ?_⟩, ?_⟩, ?_⟩, ?_⟩, ?_⟩, ?_⟩, ?_⟩, ?_⟩, ?_⟩, ?_⟩, ?_⟩, ?_⟩, ?_⟩, ?_⟩, ?_⟩, ?_⟩, ?_⟩, ?_⟩, ?_⟩, prog_plain⟩, ?_⟩, prog_heard⟩, prog_enter⟩, prog_lifted⟩, prog_make⟩, ?_⟩, ?_⟩, ?_⟩, ?_⟩
  all_goals as_aux_lemma => kernel_rfl
theorem cleanGood_named : Tryz.prog.funcNamed Rows.cleanGoodRow.func = some 3 := by kernel_rfl
theorem cleanGood_holds : Rows.CleanGoodSaid :=
  OpenClaim.holds_of_wide 3 Tryz.f3 rfl rfl rfl rfl rfl rfl rfl ⟨rfl, rfl, rfl, rfl, rfl⟩ rfl rfl rfl rfl rfl cleanGood_named Tryz.func3 cleanGood_closed
    (of_decide_eq_true (by as_aux_lemma => kernel_rfl)) (by unfold Func.isWrapper; first | (rw [if_pos (by decide +kernel)]; kernel_rfl) | (rw [if_neg (by decide +kernel)]; exact ⟨rfl, rfl⟩))
    (fun os started H enc _ => cleanGood_lifted os started H enc)
#print axioms cleanGood_holds
end Go.Proofs.YtlcljanibjdejaaGreat
