/-
  Walk of layer 8's law MatrixRanks. No statement of the seed is proved here.
-/
import Derived.Test.YtmfbgogfefgglaaLaw8f
import Derived.Test.YtmfbgogfefgglaaTxts
import Derived.Deep.RegionHeld3
namespace Go.Proofs.Ytmfbgogfefgglaa
open Go.RowKit
set_option linter.unusedVariables false

section
variable {F : Type} [Fld F]
open Fld
theorem rank_exists (n K : Nat) (m0 : Nat → Nat → F) : ∃ r, IsRank K n m0 r := by
  have h : ∀ i, i ≤ n → ∃ (m : Nat → Nat → F) (r : Nat), Rst n K i m0 m r := by
    intro i
    induction i with
    | zero => intro _; exact ⟨m0, 0, Rst.zero _ _ _⟩
    | succ i ih =>
      intro hi
      obtain ⟨m, r, h⟩ := ih (by omega)
      by_cases hz : ∀ j, j < K → m i j = 0
      · exact ⟨m, r, h.skip hz⟩
      · obtain ⟨j, hj⟩ := Classical.not_forall.1 hz
        have hjK : j < K := Classical.byContradiction fun hn => hj (fun h => absurd h hn)
        exact ⟨_, r + 1, h.step (by omega) j hjK (fun e => hj (fun _ => e))⟩
  obtain ⟨m, r, h⟩ := h n (Nat.le_refl _)
  exact ⟨r, h.rank⟩
end
theorem RkP.exists_ (ls : List (List UInt8)) : ∃ r, RkP ls r := by
  by_cases h : RightP ls
  · obtain ⟨n, k, h1, h2, h3, h4, e⟩ := h.form
    obtain ⟨r, hr⟩ := rank_exists n k (ent ls)
    exact ⟨r, by rw [e]; exact RkP.of h1 h2 h3 h4 hr⟩
  · exact ⟨0, fun n k m h1 h2 h3 h4 e => absurd (by rw [e]; exact RightP.of h1 h2 h3 h4) h, fun _ => rfl⟩
theorem rank8_is (p : Nat) (A : Option Addr) (n c : Nat) (ls : List (List UInt8)) (r : Nat) (w : World) (hT : TabAt w p) (hr : RdL w A n c ls) (hk : RkP ls r) : Calls Try.prog 20 #[.pointer (some ⟨p, 0, none⟩), .slice A n c] w fun e w' => e = .returned (.int .i64 (r : Int)) ∧ Kept [] w w' := by
  refine (rank8_all p A n c ls w hT hr).mono ?_
  rintro e w1 ⟨r', rfl, hk1, hR⟩
  obtain rfl := hk.unique hR.out
  exact ⟨rfl, hk1⟩
/-- The ranks of a product, and of rows with one of them twice. -/
theorem ranks_of {n k l j ra rb rab rt : Nat} {a b : Nat → Nat → GB} (h1 : 1 ≤ n) (h2 : n ≤ 254) (h3 : 1 ≤ k) (h4 : k ≤ 255) (h5 : 1 ≤ l) (h6 : l ≤ 255) (hj : j < n) (ha : RkP (ofm n k a) ra) (hb : RkP (ofm k l b) rb) (hab : RkP (ofm n l (mm k a b)) rab)
    (ht : RkP (ofm n k a ++ [rm k fun x => (a j x).v]) rt) : rab ≤ ra ∧ rab ≤ rb ∧ rt = ra ∧ ra ≤ n ∧ ra ≤ k := by
  have qa := ha.1 n k a h1 (by omega) h3 h4 rfl
  have qb := hb.1 k l b h3 h4 h5 h6 rfl
  have qab := hab.1 n l _ h1 (by omega) h5 h6 rfl
  have et : ofm n k a ++ [rm k fun x => (a j x).v] = ofm (n + 1) k (fun i x => if i = n then a j x else a i x) := by
    unfold ofm
    rw [rm_snoc]
    simp only [if_true]
    congr 1
    exact rm_congr fun i hi => rm_congr fun x _ => by rw [if_neg (show i ≠ n by omega)]
  have qt := ht.1 (n + 1) k _ (by omega) (by omega) h3 h4 et
  have e1 : rt ≤ ra := qt.mono qa (C := fun i l => un (if i = n then j else i) l) (fun i hi x hx => by
    show (if i = n then a j x else a i x) = mm n un a (if i = n then j else i) x
    rw [mm_un_left a (by split <;> omega)]
    split <;> rfl)
  have e2 : ra ≤ rt := qa.mono qt (C := un) (fun i hi x hx => by
    show a i x = mm (n + 1) un (fun i x => if i = n then a j x else a i x) i x
    rw [mm_un_left _ (by omega), if_neg (by omega)])
  exact ⟨qab.map qa, qab.mono qb (C := a) (fun i hi x hx => rfl), by omega, qa.le_rows, qa.le_cols⟩

set_option maxRecDepth 100000 in
set_option maxHeartbeats 8000000 in
theorem ranksL8_walk (A : Option Addr) (n c : Nat) (la : List (List UInt8)) (A' : Option Addr) (n' c' : Nat) (lb : List (List UInt8)) (z : Int) (w : World) (ha : RdL w A n c la) (hb : RdL w A' n' c' lb) (hz : (Lit.int .u8 z).wf = true) :
    Calls Try.prog 9 #[.slice A n c, .slice A' n' c', .int .u8 z] w fun e w' => e = .returned (.bool true) ∧ Kept [] w w' := by
  obtain ⟨x, rfl⟩ := byte_of_int hz
  have HA := Lib.hid ha
  have HB := Lib.hid hb
  have hm1 := ha.cap
  have hm2 := ha.most
  have hm3 := hb.cap
  have hm4 := hb.most
  unfold maxLen at hm2 hm4
  obtain ⟨i1, hj0, hy0, hy1, hy2⟩ := info_parts tBinfo8
  clear ha hb hz
  go_enter Try.func9, Try.ntmps9
  go_wp2_with fail
  refine (wakes8_any _).mono ?_
  rintro e w1 ⟨rfl, hk1⟩
  have HK1 := Lib.hid hk1
  clear hk1
  go_wp2_with fail
  refine (long8_any _ _ _ la _ (HA.out.kept0 HK1.out)).mono ?_
  rintro e w1 ⟨q1, rfl, rfl, H1⟩
  cases q1 with
  | true =>
    go_wp2
    go_ret
    exact ⟨rfl, HK1.out⟩
  | false =>
  have hn8 := (H1.out rfl).1
  clear H1
  go_wp2_with fail
  refine (long8_any _ _ _ lb _ (HB.out.kept0 HK1.out)).mono ?_
  rintro e w1 ⟨q1, rfl, rfl, H1⟩
  cases q1 with
  | true =>
    go_wp2
    go_ret
    exact ⟨rfl, HK1.out⟩
  | false =>
  clear H1
  go_wp2_with fail
  refine (rightR8_any _ _ _ la _ (HA.out.kept0 HK1.out)).mono ?_
  rintro e w2 ⟨q1, rfl, hw2, H1⟩
  have HK2 : Hid (Kept [] w w2) := Lib.hid (by obtain ⟨m, rfl⟩ := hw2; exact HK1.out.drewN m)
  clear hw2 HK1
  cases q1 with
  | false =>
    go_wp2
    go_ret
    exact ⟨rfl, HK2.out⟩
  | true =>
  have P1 := Lib.hid (H1.out.1 rfl)
  clear H1
  go_wp2_with fail
  refine (rightR8_any _ _ _ lb _ (HB.out.kept0 HK2.out)).mono ?_
  rintro e w3 ⟨q1, rfl, hw3, H2⟩
  have HK3 : Hid (Kept [] w w3) := Lib.hid (by obtain ⟨m, rfl⟩ := hw3; exact HK2.out.drewN m)
  clear hw3 HK2
  cases q1 with
  | false =>
    go_wp2
    go_ret
    exact ⟨rfl, HK3.out⟩
  | true =>
  have P2 := Lib.hid (H2.out.1 rfl)
  clear H2
  obtain ⟨k, a, a1, a2, a3, a4, rfl, ba, oa, ba2, oa2, ca2, rfl, hba, ca, d1, d2⟩ := (HA.out.kept0 HK3.out).right P1.out
  obtain ⟨l, b, b1, b2, b3, b4, rfl, bb, ob, bb2, ob2, cb2, rfl, hbb, cb, d3, d4⟩ := (HB.out.kept0 HK3.out).right P2.out
  unfold maxLen at d2 d4
  clear P1 P2
  by_cases hkn : k = n'
  · subst hkn
    obtain ⟨j, hj⟩ : ∃ j, j = x.toNat % n := ⟨_, rfl⟩
    have hjn : j < n := by rw [hj]; exact Nat.mod_lt _ (by omega)
    have mj : (x.toNat : Int) % (n : Int) = (j : Int) := by rw [hj]; first | exact (Int.natCast_emod _ _).symm | exact (Int.ofNat_emod _ _).symm
    have tj : (x.toNat : Int).tmod (n : Int) = (j : Int) := by rw [Int.tmod_eq_emod_of_nonneg (by omega)]; exact mj
    have xb := x.toNat_lt
    have xw : IntKind.i64.wrap (x.toNat : Int) = (x.toNat : Int) := IntWalk.i64_in _ (by omega)
    have jw : IntKind.i64.wrap (j : Int) = (j : Int) := IntWalk.i64_in _ (by omega)
    have n0 : (n : Int) ≠ 0 := by omega
    have n00 : n ≠ 0 := by omega
    obtain ⟨ra, hra⟩ := RkP.exists_ (ofm n k a)
    obtain ⟨rb, hrb⟩ := RkP.exists_ (ofm k l b)
    obtain ⟨rab, hrab⟩ := RkP.exists_ (ofm n l (mm k a b))
    obtain ⟨rt, hrt⟩ := RkP.exists_ (ofm n k a ++ [rm k fun x => (a j x).v])
    obtain ⟨g1, g2, rfl, g4, g5⟩ := ranks_of a1 (by omega) a3 a4 b3 b4 hjn hra hrb hrab hrt
    have RA := Lib.hid hra
    have RB := Lib.hid hrb
    have RAB := Lib.hid hrab
    have RT := Lib.hid hrt
    clear hra hrb hrab hrt hj
    go_wp2_with fail
    refine (make7_any _).mono ?_
    rintro e w4 ⟨p, rfl, hT, hp, hk4⟩
    have HT4 := Lib.hid hT
    have HK4 := Lib.hid (HK3.out.andThen hk4)
    clear hT hp hk4 HK3 ca cb hba hbb
    go_wp2_with fail
    refine (mul8_any p _ n c _ c' k l a b _ HT4.out (HA.out.kept0 HK4.out) (HB.out.kept0 HK4.out) a1 a2 a3 a4 b3 b4).mono ?_
    rintro e w5 ⟨R1, G1, off1, rfl, hM1, _, _, hk5⟩
    have HM5 := Lib.hid (hM1.rdl (by unfold maxLen; omega) (by unfold maxLen; omega))
    have HK5 := Lib.hid (HK4.out.andThen hk5)
    have HT5 := Lib.hid (HT4.out.kept0 hk5)
    clear hM1 hk5 HK4 HT4
    go_wp2_with fail
    refine (rank8_is p _ _ _ _ _ _ HT5.out HM5.out RAB.out).mono ?_
    rintro e w6 ⟨rfl, hk6⟩
    have HK6 := Lib.hid (HK5.out.andThen hk6)
    have HT6 := Lib.hid (HT5.out.kept0 hk6)
    clear hk6 HK5 HT5 HM5
    obtain ⟨vs, hv, htx⟩ := (HA.out.kept0 HK6.out).vals
    have hvl : vs.length = n := hv.len
    obtain ⟨vj, hvj⟩ : ∃ v, vs[j]? = some v := ⟨_, List.getElem?_eq_getElem (by omega)⟩
    obtain ⟨ba', oa', eba, hba, hcv⟩ := hv.at_ (by omega)
    injection eba with eba; injection eba with e1 e2; subst e1 e2
    have cj : w6.cell? ⟨ba, oa + j, none⟩ = some vj := by
      rw [hcv j (by omega)]
      rw [List.getElem?_eq_getElem (by omega)] at hvj
      exact hvj
    have htj := htx.2 j vj _ hvj (ofm_get hjn)
    obtain ⟨Aj, nj, cj', rfl, hrj⟩ := htj
    have SK : Hid (∀ W, Kept [] w6 W → W.cell? ⟨ba, oa + j, none⟩ = some (.slice Aj nj cj')) := Lib.hid (fun W hW => (hW.cell (p := ⟨ba, oa + j, none⟩) hba (by simp)).trans cj)
    have k1 : Kept [] w6 (w6.alloc (.cells #[] 37)).drew := ((Kept.refl [] w6).alloc _).drew
    have k2 : Kept [] w6 ((w6.alloc (.cells #[] 37)).alloc (.cells #[.slice Aj nj cj'] 37)).drew := (((Kept.refl [] w6).alloc _).alloc _).drew
    have k3 : Kept [] w6 ((w6.alloc (.cells #[.slice Aj nj cj'] 37)).alloc (.cells #[] 37)).drew := (((Kept.refl [] w6).alloc _).alloc _).drew
    have k4 : Kept [] w6 (w6.alloc (.cells #[.slice Aj nj cj'] 37)).drew := ((Kept.refl [] w6).alloc _).drew
    have o1 : OwV 37 (w6.alloc (.cells #[] 37)).drew (.slice (some ⟨w6.heap.size, 0, none⟩) 0 0) [] := OwV.empty_at (heap_alloc_new w6 _)
    have o2 : OwV 37 ((w6.alloc (.cells #[] 37)).alloc (.cells #[.slice Aj nj cj'] 37)).drew (.slice (some ⟨w6.heap.size, 0, none⟩) 0 0) [] := OwV.empty_at (heap_alloc2_old w6 _ _)
    have o3 : OwV 37 ((w6.alloc (.cells #[.slice Aj nj cj'] 37)).alloc (.cells #[] 37)).drew (.slice (some ⟨w6.heap.size + 1, 0, none⟩) 0 0) [] := OwV.empty_at (heap_alloc2_new w6 _ _)
    have bl2 : ((w6.alloc (.cells #[] 37)).alloc (.cells #[.slice Aj nj cj'] 37)).drew.heap[w6.heap.size + 1]? = some (.cells #[.slice Aj nj cj'] 37) := heap_alloc2_new w6 _ _
    have bl3 : ((w6.alloc (.cells #[.slice Aj nj cj'] 37)).alloc (.cells #[] 37)).drew.heap[w6.heap.size]? = some (.cells #[.slice Aj nj cj'] 37) := heap_alloc2_old w6 _ _
    have K1 := Lib.hid k1
    have K2 := Lib.hid k2
    have K3 := Lib.hid k3
    have K4 := Lib.hid k4
    have O1 := Lib.hid o1
    have O2 := Lib.hid o2
    have O3 := Lib.hid o3
    have B2 := Lib.hid bl2
    have B3 := Lib.hid bl3
    have Hv := Lib.hid hv
    have Htx := Lib.hid (htx.append (TxtVs.one ⟨Aj, nj, cj', rfl, hrj⟩))
    have Htc := Lib.hid htx.cells
    have Hvl := Lib.hid hvl
    clear k1 k2 k3 k4 o1 o2 o3 bl2 bl3 hv htx hvl hvj hcv hrj
    go_wp2
    go_region_held3 (fun w' => w'.cell? ⟨ba, oa + j, none⟩ = some (.slice Aj nj cj'))
      (first
        | exact SK.out _ (Kept.refl [] w6)
        | exact SK.out _ (Kept.refl [] w6).drew
        | exact SK.out _ K1.out
        | exact SK.out _ K4.out
        | exact SK.out _ K2.out
        | exact SK.out _ K3.out
        | exact SK.out _ hK6
        | exact SK.out _ hK5
        | exact SK.out _ (hK5.alloc _))
      (first
        | (refine step_append_vals (by rfl) (.tmp 50) (.tmp 51) 22 (by rfl) 37 i1 _ 24 Try.underlying22 hj0 hy0 hy1 hy2 (by rfl) _ [] (by rfl) O1.out _ n c vs (by rfl) (Hv.out.kept0 K1.out) Htc.out (by simp [maxLen]; omega) (by simp; omega) ?_; intro v5 w5 ho5 hk5 hm5; obtain ⟨hK5, hb5⟩ := app_new K1.out (by simp [Value.ownBlock]) hk5 hm5; obtain ⟨A5, n5, c5, rfl, hr5, _⟩ := ho5.form)
        | (refine step_append_vals (by rfl) (.tmp 50) (.tmp 51) 22 (by rfl) 37 i1 _ 24 Try.underlying22 hj0 hy0 hy1 hy2 (by rfl) _ [] (by rfl) O2.out _ n c vs (by rfl) (Hv.out.kept0 K2.out) Htc.out (by simp [maxLen]; omega) (by simp; omega) ?_; intro v5 w5 ho5 hk5 hm5; obtain ⟨hK5, hb5⟩ := app_new K2.out (by simp [Value.ownBlock]) hk5 hm5; obtain ⟨A5, n5, c5, rfl, hr5, _⟩ := ho5.form; have hN5 := (hk5.block (w6.heap.size + 1) (by simp) (by simp [Value.ownBlock])).trans B2.out)
        | (refine step_append_vals (by rfl) (.tmp 50) (.tmp 51) 22 (by rfl) 37 i1 _ 24 Try.underlying22 hj0 hy0 hy1 hy2 (by rfl) _ [] (by rfl) O3.out _ n c vs (by rfl) (Hv.out.kept0 K3.out) Htc.out (by simp [maxLen]; omega) (by simp; omega) ?_; intro v5 w5 ho5 hk5 hm5; obtain ⟨hK5, hb5⟩ := app_new K3.out (by simp [Value.ownBlock]) hk5 hm5; obtain ⟨A5, n5, c5, rfl, hr5, _⟩ := ho5.form; have hN5 := (hk5.block w6.heap.size (by simp; omega) (by simp [Value.ownBlock])).trans B3.out)
        | (refine step_append_vals (by rfl) (.tmp 52) (.tmp 61) 22 (by rfl) 37 i1 _ 24 Try.underlying22 hj0 hy0 hy1 hy2 (by rfl) _ ([] ++ vs) (by rfl) ho5 _ 1 1 [.slice Aj nj cj'] (by rfl) (RdV.one_at hN5) (by simp [Value.oneCell']) (by rw [List.nil_append, Hvl.out]; simp only [maxLen]; omega) (by rw [List.nil_append, Hvl.out]; omega) ?_; intro v6 w7 ho6 hk6 hm6; obtain ⟨hK6, hb6⟩ := app_new hK5 hb5 hk6 hm6; obtain ⟨A6, n6, c6, rfl, hr6, _⟩ := ho6.form)
        | (refine step_append_vals (by rfl) (.tmp 52) (.tmp 61) 22 (by rfl) 37 i1 _ 24 Try.underlying22 hj0 hy0 hy1 hy2 (by rfl) _ ([] ++ vs) (by rfl) (ho5.alloc _) _ 1 1 [.slice Aj nj cj'] (by rfl) (RdV.one w5 _ _) (by simp [Value.oneCell']) (by rw [List.nil_append, Hvl.out]; simp only [maxLen]; omega) (by rw [List.nil_append, Hvl.out]; omega) ?_; intro v6 w7 ho6 hk6 hm6; obtain ⟨hK6, hb6⟩ := app_new (hK5.alloc _) hb5 hk6 hm6; obtain ⟨A6, n6, c6, rfl, hr6, _⟩ := ho6.form))
    all_goals have hL7 : RdL w7 A6 n6 c6 (ofm n k a ++ [rm k fun x => (a j x).v]) := (by
      refine RdL.of_vals hr6 ?_
      rw [List.nil_append]
      exact Htx.out.kept0 hK6)
    all_goals have HL7 := Lib.hid hL7
    all_goals have HK7 := Lib.hid (HK6.out.andThen hK6)
    all_goals have HT7 := Lib.hid (HT6.out.kept0 hK6)
    all_goals clear hL7 K1 K2 K3 K4 O1 O2 O3 B2 B3 Htc Hvl Hv Htx hk5 hm5 hK5 hb5 hr5 ho5 hk6 hm6 hK6 hb6 hr6 ho6 SK cj hba HK6 HT6
    all_goals try clear hN5
    all_goals have HA7 := Lib.hid (HA.out.kept0 HK7.out)
    all_goals have HB7 := Lib.hid (HB.out.kept0 HK7.out)
    all_goals obtain ⟨ba', oa', b0, of0, c0, eba, hbl, cz, _, z1, z2, _⟩ := HA7.out.mrow (by omega) (i := 0) (by omega)
    all_goals injection eba with eba
    all_goals injection eba with e1 e2
    all_goals subst e1 e2
    all_goals rw [Nat.add_zero] at cz
    all_goals unfold maxLen at z2
    all_goals have SA : Hid (∀ W, Kept [] w7 W → W.cell? ⟨ba, oa, none⟩ = some (.slice (some ⟨b0, of0, none⟩) k c0)) := Lib.hid (fun W hW => (hW.cell (p := ⟨ba, oa, none⟩) hbl (by simp)).trans cz)
    all_goals clear cz hbl
    all_goals have hKc : Kept [] w7 w7.drew := (Kept.refl [] w7).drew
    all_goals have n0q : 0 < n := by omega
    all_goals have n0r : ¬ n = 0 := by omega
    all_goals go_wp2_with fail
    all_goals go_region_held3 (fun w' => w'.cell? ⟨ba, oa, none⟩ = some (.slice (some ⟨b0, of0, none⟩) k c0))
      (first
        | exact SA.out _ hKc
        | exact SA.out _ (Kept.refl [] w7).drew
        | exact SA.out _ (Kept.refl [] w7))
      (first
        | (go_at_call 20; with_reducible change Calls _ _ #[_, .slice (some ⟨ba, oa, none⟩) n c] _ _; refine (rank8_is p _ _ _ _ _ _ (HT7.out.kept0 hKc) (HA7.out.kept0 hKc) RA.out).mono ?_; rintro e w8 ⟨rfl, hk8⟩; have hKc := hKc.andThen hk8)
        | (go_at_call 20; with_reducible change Calls _ _ #[_, .slice (some ⟨bb, ob, none⟩) k c'] _ _; refine (rank8_is p _ _ _ _ _ _ (HT7.out.kept0 hKc) (HB7.out.kept0 hKc) RB.out).mono ?_; rintro e w8 ⟨rfl, hk8⟩; have hKc := hKc.andThen hk8)
        | (go_at_call 20; with_reducible change Calls _ _ #[_, .slice A6 n6 c6] _ _; refine (rank8_is p _ _ _ _ _ _ (HT7.out.kept0 hKc) (HL7.out.kept0 hKc) RT.out).mono ?_; rintro e w8 ⟨rfl, hk8⟩; have hKc := hKc.andThen hk8))
    all_goals have HKe := Lib.hid (HK7.out.andThen hKc)
    all_goals go_wp2
    all_goals go_ret
    all_goals exact ⟨ret_bool (by first | rfl | exact decide_eq_true (by omega)), HKe.out⟩
  · have hne : (k : Int) ≠ (n' : Int) := by omega
    go_wp2
    go_ret
    exact ⟨rfl, HK3.out⟩
end Go.Proofs.Ytmfbgogfefgglaa
