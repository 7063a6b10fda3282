/-
  Walk of layer 9's law RsAny. No statement of the seed is proved here.
-/
import Derived.Test.YtpnpimhfakfolaaLaw9f
namespace Go.Proofs.Ytpnpimhfakfolaa
open Go.RowKit
set_option linter.unusedVariables false

theorem zeroMt : (Try.prog.info? 52).bind (·.zero) = some (.agg (List.replicate 256 (.bool false)).toArray) := by kernel_rfl
theorem builtMt : Try.prog.built 52 [] = some (List.replicate 256 (.bool false)).toArray := by kernel_rfl
theorem sizeMt : (Try.prog.info? 52).map (·.size) = some (List.replicate 256 (Value.bool false)).length := by kernel_rfl
theorem oneMt : ∀ v ∈ List.replicate 256 (Value.bool false), v.oneCell' = true := by
  intro v hv
  rw [List.mem_replicate] at hv
  rw [hv.2]
  rfl
theorem replMt : List.replicate 256 (Value.bool false) = rm 256 (fun _ => .bool false) := rm_ext List.length_replicate (fun i hi => by rw [List.getElem?_replicate, if_pos hi])
/-- How many of the first are met. -/
def cntB (μ : Nat → Bool) : Nat → Nat
  | 0 => 0
  | n + 1 => cntB μ n + if μ n = true then 1 else 0
theorem cntB_zero : ∀ n, cntB (fun _ => false) n = 0
  | 0 => rfl
  | n + 1 => by unfold cntB; rw [cntB_zero n]; rfl
theorem cntB_all {μ : Nat → Bool} : ∀ n, (∀ p, p < n → μ p = true) → cntB μ n = n
  | 0, _ => rfl
  | n + 1, h => by unfold cntB; rw [cntB_all n (fun p hp => h p (by omega)), h n (by omega)]; rfl
theorem cntB_le {μ : Nat → Bool} : ∀ n, cntB μ n ≤ n
  | 0 => Nat.le_refl _
  | n + 1 => by have := cntB_le (μ := μ) n; unfold cntB; split <;> omega
theorem cntB_same {μ μ' : Nat → Bool} : ∀ n, (∀ p, p < n → μ p = μ' p) → cntB μ n = cntB μ' n
  | 0, _ => rfl
  | n + 1, h => by unfold cntB; rw [cntB_same n (fun p hp => h p (by omega)), h n (by omega)]
theorem cntB_set {μ : Nat → Bool} {q : Nat} (h0 : μ q = false) : ∀ n, q < n → cntB (fun p => if p = q then true else μ p) n = cntB μ n + 1
  | 0, h => by omega
  | n + 1, h => by
    unfold cntB
    by_cases e : q = n
    · subst e
      rw [cntB_same q (μ := fun p => if p = q then true else μ p) (μ' := μ) (fun p hp => if_neg (show p ≠ q by omega)), h0]
      simp
    · have e2 : (if n = q then true else μ n) = μ n := if_neg (fun x => e x.symm)
      rw [cntB_set h0 n (by omega)]
      simp only [e2]
      omega
/-- The numbers that are picked so far. -/
def Pick9 (rows t : Nat) (vs : List Value) (sel : Nat → Nat) (μ : Nat → Bool) : Prop :=
  vs = rm t (fun x => .int .i64 (sel x : Int)) ∧ (∀ x, x < t → sel x < rows ∧ μ (sel x) = true) ∧ (∀ x, x < t → ∀ y, y < t → x ≠ y → sel x ≠ sel y) ∧ cntB μ rows = t
theorem Pick9.zero (rows : Nat) : Pick9 rows 0 [] (fun _ => 0) (fun _ => false) := ⟨rfl, fun x h => by omega, fun x h => by omega, cntB_zero _⟩
theorem Pick9.step {rows t q : Nat} {vs : List Value} {sel : Nat → Nat} {μ : Nat → Bool} (h : Pick9 rows t vs sel μ) (hq : q < rows) (h0 : μ q = false) :
    Pick9 rows (t + 1) (vs ++ [.int .i64 (q : Int)]) (fun x => if x = t then q else sel x) (fun p => if p = q then true else μ p) := by
  obtain ⟨rfl, h2, h3, h4⟩ := h
  refine ⟨?_, fun x hx => ?_, fun x hx y hy hne => ?_, by rw [cntB_set h0 _ hq, h4]⟩
  · rw [rm_snoc]
    simp only [if_true]
    congr 1
    exact rm_congr fun i hi => by rw [if_neg (show i ≠ t by omega)]
  · by_cases e : x = t
    · simp only [if_pos e]
      exact ⟨hq, by simp⟩
    · simp only [if_neg e]
      refine ⟨(h2 x (by omega)).1, ?_⟩
      rw [(h2 x (by omega)).2]
      split <;> rfl
  · by_cases e : x = t
    · by_cases e' : y = t
      · omega
      · simp only [if_pos e, if_neg e']
        intro he
        have := (h2 y (by omega)).2
        rw [← he, h0] at this
        cases this
    · by_cases e' : y = t
      · simp only [if_neg e, if_pos e']
        intro he
        have := (h2 x (by omega)).2
        rw [he, h0] at this
        cases this
      · simp only [if_neg e, if_neg e']
        exact h3 x (by omega) y (by omega) hne
theorem Pick9.more {rows t p : Nat} {vs : List Value} {sel : Nat → Nat} {μ : Nat → Bool} (h : Pick9 rows t vs sel μ) (ht : t < rows) (hp : ∀ x, x < p → x < rows → μ x = true) : p < rows := by
  obtain ⟨_, _, _, h4⟩ := h
  rcases Nat.lt_or_ge p rows with h5 | h5
  · exact h5
  · rw [cntB_all rows (fun x hx => hp x (by omega) hx)] at h4
    omega
theorem Pick9.length {rows t : Nat} {vs : List Value} {sel : Nat → Nat} {μ : Nat → Bool} (h : Pick9 rows t vs sel μ) : vs.length = t := by rw [h.1, rm_length]
theorem Pick9.le {rows t : Nat} {vs : List Value} {sel : Nat → Nat} {μ : Nat → Bool} (h : Pick9 rows t vs sel μ) : t ≤ rows := by rw [← h.2.2.2]; exact cntB_le rows
theorem Pick9.unl {rows t : Nat} {vs : List Value} {sel : Nat → Nat} {μ : Nat → Bool} (h : Pick9 rows t vs sel μ) : unlP rows t (fun x => (sel x : Int)) := by
  obtain ⟨_, h2, h3, _⟩ := h
  intro i hi
  refine ⟨⟨by show 0 ≤ (sel i : Int); omega, ?_⟩, fun j hj => ?_⟩
  · show (sel i : Int) < (rows : Int)
    have := (h2 i hi).1
    omega
  · show (sel j : Int) ≠ (sel i : Int)
    have := h3 j (by omega) i hi (by omega)
    omega

set_option maxRecDepth 100000 in
set_option maxHeartbeats 8000000 in
theorem any9_walk (K N : Int) (A : Option Addr) (n c : Nat) (ls : List (List UInt8)) (A' : Option Addr) (n' c' : Nat) (bs : List UInt8) (w : World) (hl : RdL w A n c ls) (hr : RdB w A' n' c' bs) :
    Calls Try.prog 5 #[.agg #[.int .i64 K, .int .i64 N], .slice A n c, .slice A' n' c'] w fun e w' => e = .returned (.bool true) ∧ Kept [] w w' := by
  have HT := Lib.hid hr
  have HL := Lib.hid hl
  have b1 := hl.cap
  have b2 := hl.most
  have b3 := hr.cap
  have b4 := hr.most
  unfold maxLen at b2 b4
  obtain ⟨i1, hj0, hy0, hy1, hy2⟩ := info_parts intInfo9
  obtain ⟨i2, ht0, hu0, hu1, hu2⟩ := info_parts tBinfo8
  have hb := Lib.hid builtMt
  have hsz := Lib.hid sizeMt
  have HB0 := Lib.hid (Blk.new w 23 [.int .i64 K, .int .i64 N])
  have HK0 := Lib.hid ((Kept.refl [] w).alloc (.cells #[.int .i64 K, .int .i64 N] 23))
  clear hl hr
  go_enter Try.func5, Try.ntmps5
  go_wp2_with fail
  refine (wakes9_any _).mono ?_
  rintro e w1 ⟨rfl, hk1⟩
  obtain ⟨d, hd⟩ : ∃ d, d = w.heap.size := ⟨_, rfl⟩
  have hB1 := HB0.out.kept0 hk1
  rw [← hd] at hB1 ⊢
  have HB1 := Lib.hid hB1
  have HK1 := Lib.hid (HK0.out.andThen hk1)
  clear hB1 hk1 HB0 HK0 hd
  have d0 : w1.cell? ⟨d, 0, none⟩ = some (.int .i64 K) := HB1.out.cell 0
  have d1 : w1.cell? ⟨d, 1, none⟩ = some (.int .i64 N) := HB1.out.cell 1
  go_wp2_with fail
  refine (code9_any K N _).mono ?_
  clear d0 d1
  rintro e w2 ⟨hk2, ⟨HR, rfl⟩ | rfl | ⟨k, m, q, p, Ac, cc, rfl, rfl, h1k, hkm, hk8, hm24, rfl, HC⟩⟩
  · have hB2 := HB1.out.kept0 hk2
    have HK2 := Lib.hid (HK1.out.andThen hk2)
    have HR' : Hid (K < 1 ∨ (1 ≤ K ∧ N < K) ∨ (1 ≤ K ∧ K ≤ N ∧ 255 < N)) := Lib.hid (by have := HR.out; unfold Rt9 at this; omega)
    have d0 : w2.cell? ⟨d, 0, none⟩ = some (.int .i64 K) := hB2.cell 0
    have d1 : w2.cell? ⟨d, 1, none⟩ = some (.int .i64 N) := hB2.cell 1
    clear hk2 hB2 HR HK1 HB1
    go_wp2_with fail
    refine (rightD9_no _ _ _ HR'.out).mono ?_
    rintro e w4 ⟨rfl, rfl⟩
    go_wp2
    go_ret
    exact ⟨rfl, HK2.out⟩
  · have HK2 := Lib.hid (HK1.out.andThen hk2)
    clear hk2
    go_wp2
    go_ret
    exact ⟨rfl, HK2.out⟩
  · have HB2 := Lib.hid (HB1.out.kept0 hk2)
    have HK2 := Lib.hid (HK1.out.andThen hk2)
    have HL2 := Lib.hid (HL.out.kept0 (HK1.out.andThen hk2))
    have HT2 := Lib.hid (HT.out.kept0 (HK1.out.andThen hk2))
    have d0 : w2.cell? ⟨d, 0, none⟩ = some (.int .i64 (k : Int)) := HB2.out.cell 0
    have d1 : w2.cell? ⟨d, 1, none⟩ = some (.int .i64 (m : Int)) := HB2.out.cell 1
    clear hk2 HK1 HB1 HL HT
    go_wp2_with fail
    refine (rightD9_yes _ _ _ (by omega)).mono ?_
    rintro e w4 ⟨rfl, rfl⟩
    go_wp2_with fail
    refine (longG_any 10 60 A n c ls _ HL2.out (by omega) (by omega)).mono ?_
    rintro e w3 ⟨u, rfl, rfl, HQ⟩
    cases u with
    | true =>
      go_wp2
      go_ret
      exact ⟨rfl, HK2.out⟩
    | false =>
      obtain ⟨hn10, hb60⟩ := HQ.out rfl
      by_cases hn100 : 100 < n'
      · clear hb60 HQ
        go_wp2
        go_ret
        exact ⟨rfl, HK2.out⟩
      · have HQ2 := Lib.hid hb60
        have HLn := Lib.hid HL2.out.len
        clear hb60 HQ
        cases ht : tkn k ls with
        | false =>
          have HE := Lib.hid (encode9_no q m k p Ac cc A n c ls w3 HC.out HL2.out ht)
          clear ht
          go_wp2_with fail
          refine HE.out.mono ?_
          rintro e w5 ⟨A5, n5, c5, rfl, hr5, hk5⟩
          go_wp2
          go_ret
          exact ⟨rfl, HK2.out.andThen hk5⟩
        | true =>
          unfold tkn at ht
          rw [Bool.and_eq_true, decide_eq_true_iff] at ht
          obtain ⟨htl, hone⟩ := ht
          obtain rfl : k = n := by rw [← htl]; exact HLn.out
          obtain ⟨Nn, hNn, he⟩ := one1_form htl hone
          have hN60 : Nn ≤ 60 := by
            rw [hNn, List.getD_eq_getElem?_getD, List.getElem?_eq_getElem (by omega)]
            exact HQ2.out _ (List.getElem_mem _)
          generalize ent ls = x at he
          subst he
          have HE := Lib.hid (encode9_any q m k p Ac cc A k c Nn x w3 HC.out HL2.out (by omega))
          clear htl hone hNn HQ2 HLn d0 d1
          go_wp2_with fail
          refine HE.out.mono ?_
          rintro e w5 ⟨A5, n5, c5, rfl, hr5, hk5⟩
          obtain rfl : m = n5 := by have := hr5.len; unfold pcs at this; rw [ofm_length] at this; exact this
          have q1 := hr5.cap
          have q2 := hr5.most
          unfold maxLen at q2
          obtain ⟨b5, o5, U, rfl, hb5, hU⟩ := RdL.cellsU (show RdL w5 A5 m c5 (ofm m Nn (mm k (rsr k) x)) from hr5) (by omega)
          have HU := Lib.hid hU
          have Hb5 := Lib.hid hb5
          have HC5 := Lib.hid (HC.out.kept0 hk5)
          have HB5 := Lib.hid (HB2.out.kept0 hk5)
          have HT5 := Lib.hid (HT2.out.kept0 hk5)
          have HL5 := Lib.hid (HL2.out.kept0 hk5)
          have HK5 := Lib.hid (HK2.out.andThen hk5)
          clear hr5 hk5 hb5 hU HE HC HB2 HT2 HL2 HK2
          go_wp2_with (first
            | (with_reducible change wpList _ _ _ (⟨_, Op.build _ _, _, _, _, _⟩ :: _) _ _; refine wpList_buildTo rfl 52 _ rfl _ rfl (List.replicate 256 (Value.bool false)).toArray (by simpa [Act.eval, Act.put] using hb.out) ?_)
            | (with_reducible change wpList _ _ _ (⟨_, Op.alloc _, _, _, _, _⟩ :: _) _ _; refine wpList_alloc_blk rfl 52 rfl _ zeroMt ?_))
          intro w6 hV6 hk6 hs6
          refine wpList_store_blk rfl 52 (.tmp 13) (.tmp 63) rfl w5.heap.size (List.replicate 256 (Value.bool false)) rfl rfl 52 (List.replicate 256 (Value.bool false)) hV6 hsz.out rfl oneMt ?_
          intro wm hVm hkm hsm
          obtain ⟨B, hB⟩ : ∃ B, B = w5.heap.size := ⟨_, rfl⟩
          rw [← hB] at hVm hkm ⊢
          have HKm : Hid (Kept [] w5 wm) := Lib.hid (hk6.trans hkm (by simp; omega))
          have HwB : Hid (w5.heap.size ≤ B) := Lib.hid (by omega)
          have HBm : Hid (B < wm.heap.size) := Lib.hid hVm.lt
          have HM0 : Hid (Blk wm B 52 (rm 256 fun p => .bool ((fun _ => false) p))) := Lib.hid (hVm.of_eq replMt)
          clear hV6 hk6 hs6 hVm hkm hsm hB
          go_wp2
          go_loopw [12, 66] (fun u v wr => ∃ (i t : Nat) (vs : List Value) (A5 : Option Addr) (c5 : Nat) (sel : Nat → Nat) (μ : Nat → Bool), i ≤ n' ∧ v = .int .i64 (i : Int) ∧ u = .slice A5 t c5 ∧ Hid (Pick9 m t vs sel μ) ∧ Hid (OwV 3 wr (.slice A5 t c5) vs) ∧ Hid (Blk wr B 52 (rm 256 fun p => .bool (μ p))) ∧ Hid (Kept [B] wm wr) ∧ Hid (∀ g, (Value.slice A5 t c5).ownBlock = some g → wm.heap.size ≤ g)) (fun _ v _ => n' - (intOf v).toNat)
          case atStart => exact ⟨0, 0, [], none, 0, fun _ => 0, fun _ => false, by omega, rfl, rfl, Lib.hid (Pick9.zero _), Lib.hid (OwV.nil _ _), HM0, Lib.hid (Kept.refl _ _), Lib.hid (fun g hg => by simp [Value.ownBlock] at hg)⟩
          case round =>
            clear HM0
            obtain ⟨i, t, vs, A6, c6, sel, μ, hi, rfl, rfl, HS, HO, HB, HK, Hb⟩ := hrel
            have v1 := HO.out.rd.cap
            have v2 := HO.out.rd.most
            unfold maxLen at v2
            have htm := HS.out.le
            by_cases hin : i < n'
            · have HKw : Hid (Kept [] w5 wr) := Lib.hid (HKm.out.trans HK.out (by have := HwB.out; simp; omega))
              obtain ⟨bp, op, y, rfl, cp, gp, hyb⟩ := (HT5.out.kept0 HKw.out).byte hin
              obtain ⟨s, hse⟩ : ∃ s, s = y.toNat % m := ⟨_, rfl⟩
              have hs : s < m := by rw [hse]; exact Nat.mod_lt _ (by omega)
              have mq : (y.toNat : Int) % (m : Int) = (s : Int) := by rw [hse]; first | exact (Int.natCast_emod _ _).symm | exact (Int.ofNat_emod _ _).symm
              have tq : (y.toNat : Int).tmod (m : Int) = (s : Int) := by rw [Int.tmod_eq_emod_of_nonneg (by omega)]; exact mq
              have hr0 : (m : Int) ≠ 0 := by omega
              have cB : wr.cell? ⟨B, s, none⟩ = some (.bool (μ s)) := by rw [HB.out.cell, rm_get (by omega)]
              have d1 : wr.cell? ⟨d, 1, none⟩ = some (.int .i64 (m : Int)) := (HB5.out.kept0 HKw.out).cell 1
              clear hse gp
              cases hμ : μ s with
              | true =>
                rw [hμ] at cB
                clear hμ
                go_wp2
                go_roundw
                case rel => exact ⟨i + 1, t, vs, A6, c6, sel, μ, by omega, by go_num, rfl, HS, HO, HB, HK, Hb⟩
                case measure => simp [intOf]; omega
              | false =>
                rw [hμ] at cB
                have hkW : Kept [B] wr (wr.setCell ⟨B, s, none⟩ (.bool true)) := (Kept.refl [B] wr).setCell (.inl (by simp)) _
                have f1 := HB.out.frz s
                have hOW := HO.out.kept hkW (fun g hg => by have := Hb.out g hg; have := HBm.out; simp; omega)
                have HOW := Lib.hid hOW
                have hB' := (HB.out.set s (.bool true)).of_eq (rm_set s (Value.bool true))
                have hB2 : Blk (wr.setCell ⟨B, s, none⟩ (.bool true)) B 52 (rm 256 fun p => .bool ((fun p => if p = s then true else μ p) p)) := hB'.of_eq (rm_congr fun x _ => by
                  by_cases e : x = s
                  · rw [if_pos e]; simp only [if_pos e]
                  · rw [if_neg e]; simp only [if_neg e])
                have HB2 : Hid (Blk ((wr.setCell ⟨B, s, none⟩ (.bool true)).alloc (.cells #[.int .i64 (s : Int)] 3)) B 52 (rm 256 fun p => .bool ((fun p => if p = s then true else μ p) p))) := Lib.hid (hB2.alloc _)
                have HA : Hid (Kept [B] wm ((wr.setCell ⟨B, s, none⟩ (.bool true)).alloc (.cells #[.int .i64 (s : Int)] 3))) := Lib.hid ((HK.out.trans hkW (by simp)).alloc _)
                have hN := RdV.one (wr.setCell ⟨B, s, none⟩ (.bool true)) 3 (.int .i64 (s : Int))
                rw [show (wr.setCell ⟨B, s, none⟩ (.bool true)).heap.size = wr.heap.size by simp] at hN
                have HN := Lib.hid hN
                have HS2 := Lib.hid (HS.out.step hs hμ)
                have HV : Hid (vs.length = t) := Lib.hid HS.out.length
                clear hkW hOW hB' hB2 hN HO HB HK HS hμ
                go_wp2_with (at_builtin; refine wpList_append_vals rfl (.tmp 81) (.tmp 83) 45 rfl 3 i1 _ 8 Try.underlying45 hj0 hy0 hy1 hy2 rfl (.slice A6 t c6) vs rfl (HOW.out.alloc _) _ 1 1 [.int .i64 (s : Int)] rfl HN.out (by simp [Value.oneCell']) (by rw [HV.out]; simp only [maxLen]; omega) (by rw [HV.out]; omega) ?_)
                intro v8 w8 ho8 hk8 hm8
                have hK8 : Kept [B] wm w8 := HA.out.trans hk8 (fun g hg => .inr (Hb.out g (by simpa using hg)))
                have hb8 : ∀ g, v8.ownBlock = some g → wm.heap.size ≤ g := fun g hg => by
                  rcases hm8 g hg with h | h
                  · exact Hb.out g h
                  · exact Nat.le_trans HA.out.size h
                have hB8 := HB2.out.kept hk8 (fun h => by have := Hb.out B (by simpa using h); have := HBm.out; omega)
                obtain ⟨A8, n8, c8, rfl, hr8, _⟩ := ho8.form
                obtain rfl : n8 = t + 1 := by rw [← hr8.len, List.length_append, HV.out]; rfl
                have HO8 := Lib.hid ho8
                have HK8 := Lib.hid hK8
                have HB8 := Lib.hid hB8
                have Hb8 := Lib.hid hb8
                clear ho8 hk8 hm8 hK8 hb8 hB8 hr8 HOW HB2 HA HN HV Hb f1
                go_wp2
                go_roundw
                case rel => exact ⟨i + 1, t + 1, _, A8, c8, _, _, by omega, by go_num, rfl, HS2, HO8, HB8, HK8, Hb8⟩
                case measure => simp [intOf]; omega
            · obtain rfl : n' = i := by omega
              go_wp2
              go_loopw [12, 17] (fun u v wr => ∃ (p2 t : Nat) (vs : List Value) (A5 : Option Addr) (c5 : Nat) (sel : Nat → Nat) (μ : Nat → Bool), p2 ≤ m ∧ v = .int .i64 (p2 : Int) ∧ u = .slice A5 t c5 ∧ Hid (Pick9 m t vs sel μ) ∧ Hid (OwV 3 wr (.slice A5 t c5) vs) ∧ Hid (Blk wr B 52 (rm 256 fun p => .bool (μ p))) ∧ Hid (Kept [B] wm wr) ∧ Hid (∀ g, (Value.slice A5 t c5).ownBlock = some g → wm.heap.size ≤ g) ∧ Hid (∀ x, x < p2 → x < m → μ x = true)) (fun _ v _ => m - (intOf v).toNat)
              case atStart => exact ⟨0, t, vs, A6, c6, sel, μ, by omega, rfl, rfl, HS, HO, HB, HK, Hb, Lib.hid (fun x h => by omega)⟩
              case round =>
                clear HS HO HB HK Hb v1 v2 htm
                obtain ⟨p2, t, vs, A6, c6, sel, μ, hp2, rfl, rfl, HS, HO, HB, HK, Hb, HZ⟩ := hrel
                have v1 := HO.out.rd.cap
                have v2 := HO.out.rd.most
                unfold maxLen at v2
                have htm := HS.out.le
                have HKw : Hid (Kept [] w5 wr) := Lib.hid (HKm.out.trans HK.out (by have := HwB.out; simp; omega))
                have d0 : wr.cell? ⟨d, 0, none⟩ = some (.int .i64 (k : Int)) := (HB5.out.kept0 HKw.out).cell 0
                by_cases htc : t < k
                · have hs : p2 < m := HS.out.more (by omega) HZ.out
                  have cB : wr.cell? ⟨B, p2, none⟩ = some (.bool (μ p2)) := by rw [HB.out.cell, rm_get (by omega)]
                  cases hμ : μ p2 with
                  | true =>
                    rw [hμ] at cB
                    have HZ2 : Hid (∀ x, x < p2 + 1 → x < m → μ x = true) := Lib.hid (fun x h1 h2 => by
                      by_cases e : x = p2
                      · rw [e]; exact hμ
                      · exact HZ.out x (by omega) h2)
                    clear hμ HZ
                    go_wp2
                    go_roundw
                    case rel => exact ⟨p2 + 1, t, vs, A6, c6, sel, μ, by omega, by go_num, rfl, HS, HO, HB, HK, Hb, HZ2⟩
                    case measure => simp [intOf]; omega
                  | false =>
                    rw [hμ] at cB
                    have HZ2 : Hid (∀ x, x < p2 + 1 → x < m → (fun p => if p = p2 then true else μ p) x = true) := Lib.hid (fun x h1 h2 => by
                      by_cases e : x = p2
                      · simp only [if_pos e]
                      · simp only [if_neg e]; exact HZ.out x (by omega) h2)
                    clear HZ
                    have hkW : Kept [B] wr (wr.setCell ⟨B, p2, none⟩ (.bool true)) := (Kept.refl [B] wr).setCell (.inl (by simp)) _
                    have f1 := HB.out.frz p2
                    have hOW := HO.out.kept hkW (fun g hg => by have := Hb.out g hg; have := HBm.out; simp; omega)
                    have HOW := Lib.hid hOW
                    have hB' := (HB.out.set p2 (.bool true)).of_eq (rm_set p2 (Value.bool true))
                    have hB2 : Blk (wr.setCell ⟨B, p2, none⟩ (.bool true)) B 52 (rm 256 fun p => .bool ((fun p => if p = p2 then true else μ p) p)) := hB'.of_eq (rm_congr fun x _ => by
                      by_cases e : x = p2
                      · rw [if_pos e]; simp only [if_pos e]
                      · rw [if_neg e]; simp only [if_neg e])
                    have HB2 : Hid (Blk ((wr.setCell ⟨B, p2, none⟩ (.bool true)).alloc (.cells #[.int .i64 (p2 : Int)] 3)) B 52 (rm 256 fun p => .bool ((fun p => if p = p2 then true else μ p) p))) := Lib.hid (hB2.alloc _)
                    have HA : Hid (Kept [B] wm ((wr.setCell ⟨B, p2, none⟩ (.bool true)).alloc (.cells #[.int .i64 (p2 : Int)] 3))) := Lib.hid ((HK.out.trans hkW (by simp)).alloc _)
                    have hN := RdV.one (wr.setCell ⟨B, p2, none⟩ (.bool true)) 3 (.int .i64 (p2 : Int))
                    rw [show (wr.setCell ⟨B, p2, none⟩ (.bool true)).heap.size = wr.heap.size by simp] at hN
                    have HN := Lib.hid hN
                    have HS2 := Lib.hid (HS.out.step hs hμ)
                    have HV : Hid (vs.length = t) := Lib.hid HS.out.length
                    clear hkW hOW hB' hB2 hN HO HB HK HS hμ
                    go_wp2_with (at_builtin; refine wpList_append_vals rfl (.tmp 99) (.tmp 101) 45 rfl 3 i1 _ 8 Try.underlying45 hj0 hy0 hy1 hy2 rfl (.slice A6 t c6) vs rfl (HOW.out.alloc _) _ 1 1 [.int .i64 (p2 : Int)] rfl HN.out (by simp [Value.oneCell']) (by rw [HV.out]; simp only [maxLen]; omega) (by rw [HV.out]; omega) ?_)
                    intro v8 w8 ho8 hk8 hm8
                    have hK8 : Kept [B] wm w8 := HA.out.trans hk8 (fun g hg => .inr (Hb.out g (by simpa using hg)))
                    have hb8 : ∀ g, v8.ownBlock = some g → wm.heap.size ≤ g := fun g hg => by
                      rcases hm8 g hg with h | h
                      · exact Hb.out g h
                      · exact Nat.le_trans HA.out.size h
                    have hB8 := HB2.out.kept hk8 (fun h => by have := Hb.out B (by simpa using h); have := HBm.out; omega)
                    obtain ⟨A8, n8, c8, rfl, hr8, _⟩ := ho8.form
                    obtain rfl : n8 = t + 1 := by rw [← hr8.len, List.length_append, HV.out]; rfl
                    have HO8 := Lib.hid ho8
                    have HK8 := Lib.hid hK8
                    have HB8 := Lib.hid hB8
                    have Hb8 := Lib.hid hb8
                    clear ho8 hk8 hm8 hK8 hb8 hB8 hr8 HOW HB2 HA HN HV Hb f1
                    go_wp2
                    go_roundw
                    case rel => exact ⟨p2 + 1, t + 1, _, A8, c8, _, _, by omega, by go_num, rfl, HS2, HO8, HB8, HK8, Hb8, HZ2⟩
                    case measure => simp [intOf]; omega
                · have htk : k ≤ t := by omega
                  have HUn := Lib.hid HS.out.unl
                  have HSel : Hid (∀ x, x < t → sel x < m) := Lib.hid (fun x hx => (HS.out.2.1 x hx).1)
                  obtain ⟨V, hV⟩ := back_exists (k := k) (n := m) (sel := sel) hkm (by omega) (fun x hx => (HS.out.2.1 x (by omega)).1) (fun x hx y hy hne => HS.out.2.2.1 x (by omega) y (by omega) hne)
                  have HV := Lib.hid hV
                  have HI : Hid (RdI wr A6 t c6 (fun x => (sel x : Int))) := Lib.hid (by
                    have h := HO.out.rd
                    rw [HS.out.1] at h
                    exact h)
                  have HBk := Lib.hid (back_pieces (N := Nn) (s := x) (x := fun i c => mm k (rsr k) x (sel i) c) hV (fun t _ c _ => rfl))
                  obtain ⟨wL, hwL⟩ : ∃ wL, wL = wr := ⟨_, rfl⟩
                  rw [← hwL] at HI HKw d0 ⊢
                  clear hV HS HO HB HK Hb HZ hwL
                  go_wp2
                  clear d0
                  go_loopw [18, 105] (fun u i wr => ∃ (j : Nat) (A9 : Option Addr) (n9 c9 : Nat), j ≤ t ∧ i = .int .i64 (j : Int) ∧ u = .slice A9 n9 c9 ∧ Hid (OwV 38 wr (.slice A9 n9 c9) (rm j fun i => U (sel i))) ∧ Hid (Kept [] wL wr) ∧ Hid (∀ g, (Value.slice A9 n9 c9).ownBlock = some g → wL.heap.size ≤ g)) (fun _ i _ => t - (intOf i).toNat)
                  case atStart => exact ⟨0, none, 0, 0, by omega, rfl, rfl, Lib.hid (OwV.nil _ _), Lib.hid (Kept.refl _ _), Lib.hid (fun g hg => by simp [Value.ownBlock] at hg)⟩
                  case round =>
                    obtain ⟨j, A9, n9, c9, hj, rfl, rfl, HO9, HK9, Hb9⟩ := hrel
                    by_cases hlj : j < t
                    · obtain ⟨b6, o6, rfl, hb6, e6⟩ := RdI.at_ (f := fun x => (sel x : Int)) (HI.out.kept0 HK9.out) hlj
                      obtain ⟨s, hs⟩ : ∃ s, s = sel j := ⟨_, rfl⟩
                      have hsm : s < m := by rw [hs]; exact HSel.out j hlj
                      obtain ⟨hUc, Aj, nj, cj, hUe, hUr⟩ := HU.out s hsm
                      rw [hUe] at hUc
                      have hUc' := ((HKw.out.andThen HK9.out).cell (p := ⟨b5, o5 + s, none⟩) Hb5.out (by simp)).trans hUc
                      have HUs : Hid (U (sel j) = .slice Aj nj cj) := Lib.hid (by rw [← hs]; exact hUe)
                      rw [← hs] at e6
                      have HA := Lib.hid ((Kept.refl [] wr).alloc (.cells #[.slice Aj nj cj] 38))
                      clear hs hUc hUe hUr hb6
                      go_wp2_with (at_builtin; refine wpList_append_vals rfl (.tmp 109) (.tmp 114) 24 rfl 38 i2 _ 24 Try.underlying24 ht0 hu0 hu1 hu2 rfl (.slice A9 n9 c9) (rm j fun i => U (sel i)) rfl (HO9.out.alloc _) _ 1 1 [.slice Aj nj cj] rfl (RdV.one wr 38 _) (by simp [Value.oneCell']) (by rw [rm_length]; simp only [maxLen]; omega) (by rw [rm_length]; omega) ?_)
                      intro vb wb hob hkb hmb
                      obtain ⟨hKb, hnb⟩ := app_new (HK9.out.andThen HA.out) Hb9.out hkb hmb
                      obtain ⟨Ab, nb, cb, rfl, _, _⟩ := hob.form
                      rw [← HUs.out, ← rm_snoc] at hob
                      have HOb := Lib.hid hob
                      have HKb := Lib.hid hKb
                      have Hnb := Lib.hid hnb
                      clear hob hKb hnb hkb hmb HO9 HK9 Hb9 HA e6 hUc'
                      go_wp2
                      go_roundw
                      case rel => exact ⟨j + 1, Ab, nb, cb, by omega, by go_num, rfl, HOb, HKb, Hnb⟩
                      case measure => simp [intOf]; omega
                    · obtain rfl : t = j := by omega
                      have h9len : t = n9 := by have := HO9.out.rd.len; rw [rm_length] at this; exact this
                      subst h9len
                      have HLh : Hid (RdL wr A9 t c9 (ofm t Nn fun i c => mm k (rsr k) x (sel i) c)) := Lib.hid (RdL.of_vals HO9.out.rd (txt_rows fun i hi => (HU.out (sel i) (HSel.out i hi)).2.kept0 (HKw.out.andThen HK9.out)))
                      have HKr := Lib.hid (HKw.out.andThen HK9.out)
                      have HIr := Lib.hid (HI.out.kept0 HK9.out)
                      have HD := Lib.hid (decode9_any q m k p Ac cc A6 t c6 _ sel V A9 c9 Nn _ wr (HC5.out.kept0 HKr.out) HIr.out HLh.out (by omega) HUn.out htk (fun x hx => ⟨rfl, HSel.out x hx⟩) HV.out)
                      rw [ofm_congr HBk.out] at HD
                      clear HO9 HK9 Hb9 HI HKw
                      go_wp2_with fail
                      refine HD.out.mono ?_
                      rintro e wd ⟨Ad, nd, cd, rfl, hrd, hkd⟩
                      have HS := Lib.hid (sameAll9_k _ _ _ _ _ _ _ wd hrd (HL5.out.kept0 (HKr.out.andThen hkd)))
                      have HKd := Lib.hid (HKr.out.andThen hkd)
                      have HId := Lib.hid (HIr.out.kept0 hkd)
                      have HLd := Lib.hid (HLh.out.kept0 hkd)
                      clear hrd hkd HD HIr HLh HKr
                      go_wp2_with fail
                      refine HS.out.mono ?_
                      rintro e we ⟨rfl, hke⟩
                      have HKe := Lib.hid (HKd.out.andThen hke)
                      have HIe := Lib.hid (HId.out.kept0 hke)
                      have HLe := Lib.hid (HLd.out.kept0 hke)
                      clear hke HS HKd HId HLd
                      go_wp2
                      go_loopw [134] (fun i wr => ∃ i' : Nat, i' ≤ m ∧ i = .int .i64 (i' : Int) ∧ Hid (Kept [] we wr)) (fun i _ => m - (intOf i).toNat)
                      case atStart => exact ⟨0, by omega, rfl, Lib.hid (Kept.refl _ _)⟩
                      case round =>
                        obtain ⟨i, hi, rfl, HK⟩ := hrel
                        by_cases hli : i < m
                        · have HG := Lib.hid (again9_any q m k p Ac cc A6 t c6 _ sel V A9 c9 Nn _ i _ wr (HC5.out.kept0 (HKe.out.andThen HK.out)) rfl hli (HIe.out.kept0 HK.out) (HLe.out.kept0 HK.out) (by omega) HUn.out htk (fun x hx => ⟨rfl, HSel.out x hx⟩) HV.out)
                          have e9 : rm Nn (fun c => (mm k (rsr k) (mm k V fun i c => mm k (rsr k) x (sel i) c) i c).v) = rm Nn (fun c => (mm k (rsr k) x i c).v) := rm_congr fun c hc => by rw [mm_congr (a' := rsr k) (b' := x) (fun _ _ => rfl) (fun j hj => HBk.out j hj c hc)]
                          rw [e9] at HG
                          obtain ⟨hUc, Aj, nj, cj, hUe, hUr⟩ := HU.out i hli
                          rw [hUe] at hUc
                          have HUc := Lib.hid hUc
                          have HUr := Lib.hid hUr
                          clear e9 hUc hUe hUr
                          go_wp2_with fail
                          refine HG.out.mono ?_
                          rintro e wf ⟨Af, nf, cf, rfl, hrf, hkf⟩
                          have HKf := Lib.hid (HK.out.andThen hkf)
                          have f5 : wf.cell? ⟨b5, o5 + i, none⟩ = some (.slice Aj nj cj) := ((HKe.out.andThen HKf.out).cell (p := ⟨b5, o5 + i, none⟩) Hb5.out (by simp)).trans HUc.out
                          have HS := Lib.hid (same9_k _ _ _ _ _ _ _ wf hrf (HUr.out.kept0 (HKe.out.andThen HKf.out)))
                          have p1 : (0 : Int) ≤ (i : Int) := by omega
                          have p2 : (i : Int) < (m : Int) := by omega
                          clear hrf hkf HG HK HUc HUr
                          go_wp2_with fail
                          refine HS.out.mono ?_
                          rintro e wg ⟨rfl, hkg⟩
                          have HKg := Lib.hid (HKf.out.andThen hkg)
                          clear hkg HKf HS f5
                          go_wp2
                          go_roundw
                          case rel => exact ⟨i + 1, by omega, by go_num, HKg⟩
                          case measure => simp [intOf]; omega
                        · obtain rfl : m = i := by omega
                          go_wp2
                          go_ret
                          exact ⟨rfl, (HK5.out.andThen HKe.out).andThen HK.out⟩
end Go.Proofs.Ytpnpimhfakfolaa
