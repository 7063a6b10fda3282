/-
  Walk of layer 8's law MatrixSquare. No statement of the seed is proved here.
-/
import Derived.Test.YtmfbgogfefgglaaLaw8a
import Derived.Test.YtmfbgogfefgglaaM8u
import Derived.Test.YtmfbgogfefgglaaTxts
namespace Go.Proofs.Ytmfbgogfefgglaa
open Go.RowKit
set_option linter.unusedVariables false

theorem zeroMet : (Try.prog.info? 42).bind (·.zero) = some (.agg (List.replicate 32 (.bool false)).toArray) := by kernel_rfl
theorem builtMet : Try.prog.built 42 [] = some (List.replicate 32 (.bool false)).toArray := by kernel_rfl
theorem sizeMet : (Try.prog.info? 42).map (·.size) = some (List.replicate 32 (Value.bool false)).length := by kernel_rfl
theorem oneMet : ∀ v ∈ List.replicate 32 (Value.bool false), v.oneCell' = true := by
  intro v hv
  rw [List.mem_replicate] at hv
  rw [hv.2]
  rfl
theorem replMet : List.replicate 32 (Value.bool false) = rm 32 (fun _ => .bool false) := rm_ext (by simp) (fun i hi => by rw [List.getElem?_replicate, if_pos hi])
/-- How many of the first are met. -/
def cntB (μ : Nat → Bool) : Nat → Nat
  | 0 => 0
  | n + 1 => cntB μ n + if μ n = true then 1 else 0
theorem cntB_zero : ∀ n, cntB (fun _ => false) n = 0
  | 0 => rfl
  | n + 1 => by unfold cntB; rw [cntB_zero n]; rfl
theorem cntB_all {μ : Nat → Bool} : ∀ n, (∀ p, p < n → μ p = true) → cntB μ n = n
  | 0, _ => rfl
  | n + 1, h => by unfold cntB; rw [cntB_all n (fun p hp => h p (by omega)), h n (by omega)]; rfl
theorem cntB_same {μ μ' : Nat → Bool} : ∀ n, (∀ p, p < n → μ p = μ' p) → cntB μ n = cntB μ' n
  | 0, _ => rfl
  | n + 1, h => by unfold cntB; rw [cntB_same n (fun p hp => h p (by omega)), h n (by omega)]
theorem cntB_set {μ : Nat → Bool} {q : Nat} (h0 : μ q = false) : ∀ n, q < n → cntB (fun p => if p = q then true else μ p) n = cntB μ n + 1
  | 0, h => by omega
  | n + 1, h => by
    unfold cntB
    by_cases e : q = n
    · subst e
      rw [cntB_same q (μ := fun p => if p = q then true else μ p) (μ' := μ) (fun p hp => if_neg (show p ≠ q by omega)), h0]
      simp
    · have e2 : (if n = q then true else μ n) = μ n := if_neg (fun x => e x.symm)
      rw [cntB_set h0 n (by omega)]
      simp only [e2]
      omega
/-- The rows that are picked so far. -/
def Pick (G rows cols : Nat) (off : Nat → Nat) (t : Nat) (vs : List Value) (sel : Nat → Nat) (μ : Nat → Bool) : Prop :=
  vs = rm t (fun x => .slice (some ⟨G, off (sel x), none⟩) cols cols) ∧ (∀ x, x < t → sel x < rows ∧ μ (sel x) = true) ∧ (∀ x, x < t → ∀ y, y < t → x ≠ y → sel x ≠ sel y) ∧ cntB μ rows = t
theorem Pick.zero (G rows cols : Nat) (off : Nat → Nat) : Pick G rows cols off 0 [] (fun _ => 0) (fun _ => false) := ⟨rfl, fun x h => by omega, fun x h => by omega, cntB_zero _⟩
theorem Pick.step {G rows cols t q : Nat} {off : Nat → Nat} {vs : List Value} {sel : Nat → Nat} {μ : Nat → Bool} (h : Pick G rows cols off t vs sel μ) (hq : q < rows) (h0 : μ q = false) :
    Pick G rows cols off (t + 1) (vs ++ [.slice (some ⟨G, off q, none⟩) cols cols]) (fun x => if x = t then q else sel x) (fun p => if p = q then true else μ p) := by
  obtain ⟨rfl, h2, h3, h4⟩ := h
  refine ⟨?_, fun x hx => ?_, fun x hx y hy hne => ?_, by rw [cntB_set h0 _ hq, h4]⟩
  · rw [rm_snoc]
    simp only [if_true]
    congr 1
    exact rm_congr fun i hi => by rw [if_neg (show i ≠ t by omega)]
  · by_cases e : x = t
    · simp only [if_pos e]
      exact ⟨hq, by simp⟩
    · simp only [if_neg e]
      refine ⟨(h2 x (by omega)).1, ?_⟩
      rw [(h2 x (by omega)).2]
      split <;> rfl
  · by_cases e : x = t
    · by_cases e' : y = t
      · omega
      · simp only [if_pos e, if_neg e']
        intro he
        have := (h2 y (by omega)).2
        rw [← he, h0] at this
        cases this
    · by_cases e' : y = t
      · simp only [if_neg e, if_pos e']
        intro he
        have := (h2 x (by omega)).2
        rw [he, h0] at this
        cases this
      · simp only [if_neg e, if_neg e']
        exact h3 x (by omega) y (by omega) hne
theorem Pick.more {G rows cols t p : Nat} {off : Nat → Nat} {vs : List Value} {sel : Nat → Nat} {μ : Nat → Bool} (h : Pick G rows cols off t vs sel μ) (ht : t < rows) (hp : ∀ x, x < p → x < rows → μ x = true) : p < rows := by
  obtain ⟨_, _, _, h4⟩ := h
  rcases Nat.lt_or_ge p rows with h5 | h5
  · exact h5
  · rw [cntB_all rows (fun x hx => hp x (by omega) hx)] at h4
    omega
theorem Pick.length {G rows cols t : Nat} {off : Nat → Nat} {vs : List Value} {sel : Nat → Nat} {μ : Nat → Bool} (h : Pick G rows cols off t vs sel μ) : vs.length = t := by rw [h.1, rm_length]
theorem Pick.rdl {G rows cols t c R : Nat} {off : Nat → Nat} {vs : List Value} {sel : Nat → Nat} {μ : Nat → Bool} {w : World} {A : Option Addr} {m : Nat → Nat → GB} (h : Pick G rows cols off t vs sel μ) (hM : OwM w R G rows cols off m) (hr : RdV w A t c vs) (hk : cols ≤ maxLen) : RdL w A t c (ofm t cols (fun x j => m (sel x) j)) := by
  refine RdL.of_vals hr ⟨by rw [h.length, ofm_length], fun j v l h1 h2 => ?_⟩
  obtain ⟨rfl, h3, _, _⟩ := h
  have hj : j < t := by have := (List.getElem?_eq_some_iff.1 h1).1; rw [rm_length] at this; exact this
  rw [rm_get hj] at h1
  rw [ofm_get hj] at h2
  obtain rfl := Option.some.inj h1
  obtain rfl := Option.some.inj h2
  exact ⟨_, _, _, rfl, hM.rdb (h3 j hj).1 hk⟩
theorem Pick.indep {G rows cols : Nat} {off : Nat → Nat} {vs : List Value} {sel : Nat → Nat} {μ : Nat → Bool} (h : Pick G rows cols off cols vs sel μ) (hs : rows + cols ≤ 256) : Indep cols cols (fun x j => cau cols (sel x) j) := by
  obtain ⟨_, h2, h3, _⟩ := h
  have ho : ∀ a b : Nat, a < 256 → b < 256 → (⟨UInt8.ofNat a⟩ : GB) = ⟨UInt8.ofNat b⟩ → a = b := by
    intro a b ha hb e
    have e1 : UInt8.ofNat a = UInt8.ofNat b := congrArg GB.v e
    have e2 := congrArg UInt8.toNat e1
    simp only [UInt8.toNat_ofNat'] at e2
    omega
  refine cauchy (fun x => (⟨UInt8.ofNat (sel x + cols)⟩ : GB)) (fun j => (⟨UInt8.ofNat j⟩ : GB)) (fun x hx y hy hne e => ?_) (fun x hx y hy hne e => ?_) (fun x hx j hj e => ?_)
  · have a1 := (h2 x hx).1
    have a2 := (h2 y hy).1
    have := ho _ _ (by omega) (by omega) e
    exact h3 x hx y hy hne (by omega)
  · exact hne (ho _ _ (by omega) (by omega) e)
  · have a1 := (h2 x hx).1
    have := ho _ _ (by omega) (by omega) e
    omega

set_option maxRecDepth 100000 in
set_option maxHeartbeats 8000000 in
theorem squareL8_walk (z0 z1 : Int) (A : Option Addr) (n c : Nat) (bs : List UInt8) (w : World) (h0 : (Lit.int .u8 z0).wf = true) (h1 : (Lit.int .u8 z1).wf = true) (hr : RdB w A n c bs) :
    Calls Try.prog 6 #[.int .u8 z0, .int .u8 z1, .slice A n c] w fun e w' => e = .returned (.bool true) ∧ Kept [] w w' := by
  obtain ⟨x0, rfl⟩ := byte_of_int h0
  obtain ⟨x1, rfl⟩ := byte_of_int h1
  have HR := Lib.hid hr
  have hm := hr.cap
  have hm2 := hr.most
  unfold maxLen at hm2
  have hb0 := x0.toNat_lt
  have hb1 := x1.toNat_lt
  obtain ⟨i1, hj0, hy0, hy1, hy2⟩ := info_parts tBinfo8
  obtain ⟨r6, hr6⟩ : ∃ r6, r6 = x1.toNat % 6 := ⟨_, rfl⟩
  obtain ⟨r20, hr20⟩ : ∃ r20, r20 = x0.toNat % 20 := ⟨_, rfl⟩
  have b6 : r6 < 6 := by omega
  have b20 : r20 < 20 := by omega
  have m6 : (x1.toNat : Int) % 6 = (r6 : Int) := by omega
  have m20 : (x0.toNat : Int) % 20 = (r20 : Int) := by omega
  have t6 : (x1.toNat : Int).tmod 6 = (r6 : Int) := by rw [Int.tmod_eq_emod_of_nonneg (by omega)]; exact m6
  have t20 : (x0.toNat : Int).tmod 20 = (r20 : Int) := by rw [Int.tmod_eq_emod_of_nonneg (by omega)]; exact m20
  obtain ⟨cols, hcols⟩ : ∃ cols, cols = 1 + r6 := ⟨_, rfl⟩
  obtain ⟨rows, hrows⟩ : ∃ rows, rows = cols + r20 := ⟨_, rfl⟩
  have s1 : (1 : Int) + (r6 : Int) = (cols : Int) := by omega
  have s2 : (cols : Int) + (r20 : Int) = (rows : Int) := by omega
  have c1 : 1 ≤ cols := by omega
  have c2 : cols ≤ 6 := by omega
  have c3 : cols ≤ rows := by omega
  have c4 : rows ≤ 25 := by omega
  have hb := Lib.hid builtMet
  have hsz := Lib.hid sizeMet
  clear hr h0 h1 hr6 hr20 hcols hrows b6 b20
  go_enter Try.func6, Try.ntmps6
  go_wp2_with fail
  refine (wakes8_any _).mono ?_
  rintro e w1 ⟨rfl, hk1⟩
  have HK1 := Lib.hid hk1
  clear hk1
  go_wp2_with fail
  refine (make7_any _).mono ?_
  rintro e w2 ⟨p, rfl, hT, hp, hk2⟩
  have HT2 := Lib.hid hT
  have HK2 := Lib.hid (HK1.out.andThen hk2)
  clear hT hp hk2 HK1
  go_wp2_with fail
  refine (cauchy8_any p rows cols _ _ _ HT2.out rfl rfl (by omega) (by omega) (by omega) (by omega) (by omega)).mono ?_
  rintro e w3 ⟨R, G, off, rfl, hM, _, _, hk3⟩
  have HM3 := Lib.hid hM
  have HT3 := Lib.hid (HT2.out.kept0 hk3)
  have HK3 := Lib.hid (HK2.out.andThen hk3)
  clear hM hk3 HK2 HT2 m6 m20 t6 t20 s1 s2 hb0 hb1
  go_wp2_with (first
    | (with_reducible change wpList _ _ _ (⟨_, Op.build _ _, _, _, _, _⟩ :: _) _ _; refine wpList_buildTo rfl 42 _ rfl _ rfl (List.replicate 32 (Value.bool false)).toArray (by simpa [Act.eval, Act.put] using hb.out) ?_)
    | (with_reducible change wpList _ _ _ (⟨_, Op.alloc _, _, _, _, _⟩ :: _) _ _; refine wpList_alloc_blk rfl 42 rfl _ zeroMet ?_))
  intro w4 hV4 hk4 hs4
  refine wpList_store_blk rfl 42 (.tmp 13) (.tmp 40) rfl w3.heap.size (List.replicate 32 (Value.bool false)) rfl rfl 42 (List.replicate 32 (Value.bool false)) hV4 hsz.out rfl oneMet ?_
  intro wm hVm hkm hsm
  obtain ⟨B, hB⟩ : ∃ B, B = w3.heap.size := ⟨_, rfl⟩
  rw [← hB] at hVm hkm ⊢
  have nR : R ≠ B := by have := HM3.out.ltR; omega
  have nG : G ≠ B := by have := HM3.out.ltG; omega
  have nP : p ≠ B := by have := HT3.out.lt; omega
  have hk3m : Kept [B] w3 wm := (hk4.mono (by simp)).trans hkm (by simp)
  have HMm := Lib.hid (HM3.out.kept hk3m (by simpa using nR) (by simpa using nG))
  have HTm := Lib.hid (HT3.out.kept hk3m (by simpa using nP))
  have HKm : Hid (Kept [] w wm) := Lib.hid (HK3.out.trans hk3m (by have := HK3.out.size; simp; omega))
  have HwB : Hid (w.heap.size ≤ B) := Lib.hid (by have := HK3.out.size; omega)
  have HBm : Hid (B < wm.heap.size) := Lib.hid hVm.lt
  have HB0 : Hid (Blk wm B 42 (rm 32 fun p => .bool ((fun _ => false) p))) := Lib.hid (hVm.of_eq replMet)
  clear hV4 hk4 hs4 hVm hkm hsm hk3m HK3 HM3 HT3 hB
  go_wp2
  go_loopw [12, 14] (fun u v wr => ∃ (i t : Nat) (vs : List Value) (A5 : Option Addr) (c5 : Nat) (sel : Nat → Nat) (μ : Nat → Bool), i ≤ n ∧ t ≤ cols ∧ v = .int .i64 (i : Int) ∧ u = .slice A5 t c5 ∧ Hid (Pick G rows cols off t vs sel μ) ∧ Hid (OwV 37 wr (.slice A5 t c5) vs) ∧ Hid (Blk wr B 42 (rm 32 fun p => .bool (μ p))) ∧ Hid (Kept [B] wm wr) ∧ Hid (∀ g, (Value.slice A5 t c5).ownBlock = some g → wm.heap.size ≤ g)) (fun _ v _ => n - (intOf v).toNat)
  case atStart => exact ⟨0, 0, [], none, 0, fun _ => 0, fun _ => false, by omega, by omega, rfl, rfl, Lib.hid (Pick.zero _ _ _ _), Lib.hid (OwV.nil _ _), HB0, Lib.hid (Kept.refl _ _), Lib.hid (fun g hg => by simp [Value.ownBlock] at hg)⟩
  case round =>
    clear HB0
    obtain ⟨i, t, vs, A5, c5, sel, μ, hi, ht, rfl, rfl, HS, HO, HB, HK, Hb⟩ := hrel
    have q1 := HO.out.rd.cap
    have q2 := HO.out.rd.most
    unfold maxLen at q2
    by_cases hgo : i < n ∧ t < cols
    · obtain ⟨hin, htc⟩ := hgo
      have HMr := Lib.hid (HMm.out.kept HK.out (by simpa using nR) (by simpa using nG))
      have hKw : Kept [] w wr := HKm.out.trans HK.out (by have := HwB.out; simp; omega)
      obtain ⟨bp, op, y, rfl, cp, gp, hyb⟩ := (HR.out.kept0 hKw).byte hin
      obtain ⟨q, hqe⟩ : ∃ q, q = y.toNat % rows := ⟨_, rfl⟩
      have hq : q < rows := by rw [hqe]; exact Nat.mod_lt _ (by omega)
      have mq : (y.toNat : Int) % (rows : Int) = (q : Int) := by rw [hqe]; first | exact (Int.natCast_emod _ _).symm | exact (Int.ofNat_emod _ _).symm
      have tq : (y.toNat : Int).tmod (rows : Int) = (q : Int) := by rw [Int.tmod_eq_emod_of_nonneg (by omega)]; exact mq
      have hr0 : (rows : Int) ≠ 0 := by omega
      have cB : wr.cell? ⟨B, q, none⟩ = some (.bool (μ q)) := by rw [HB.out.cell, rm_get (by omega)]
      clear hqe gp hKw
      cases hμ : μ q with
      | true =>
        rw [hμ] at cB
        clear hμ HMr
        go_wp2
        go_roundw
        case rel => exact ⟨i + 1, t, vs, A5, c5, sel, μ, by omega, by omega, by go_num, rfl, HS, HO, HB, HK, Hb⟩
        case measure => simp [intOf]; omega
      | false =>
        rw [hμ] at cB
        have hkW : Kept [B] wr (wr.setCell ⟨B, q, none⟩ (.bool true)) := (Kept.refl [B] wr).setCell (.inl (by simp)) _
        have cR : (wr.setCell ⟨B, q, none⟩ (.bool true)).cell? ⟨R, q, none⟩ = some (.slice (some ⟨G, off q, none⟩) cols cols) := (HMr.out.kept hkW (by simpa using nR) (by simpa using nG)).row hq
        have f1 := HB.out.frz q
        have hOW := HO.out.kept hkW (fun g hg => by have := Hb.out g hg; have := HBm.out; simp; omega)
        have HOW := Lib.hid hOW
        have hB' := (HB.out.set q (.bool true)).of_eq (rm_set q (Value.bool true))
        have hB2 : Blk (wr.setCell ⟨B, q, none⟩ (.bool true)) B 42 (rm 32 fun p => .bool ((fun p => if p = q then true else μ p) p)) := hB'.of_eq (rm_congr fun x _ => by
          by_cases e : x = q
          · rw [if_pos e]; simp only [if_pos e]
          · rw [if_neg e]; simp only [if_neg e])
        have HB2 : Hid (Blk ((wr.setCell ⟨B, q, none⟩ (.bool true)).alloc (.cells #[.slice (some ⟨G, off q, none⟩) cols cols] 37)) B 42 (rm 32 fun p => .bool ((fun p => if p = q then true else μ p) p))) := Lib.hid (hB2.alloc _)
        have HA : Hid (Kept [B] wm ((wr.setCell ⟨B, q, none⟩ (.bool true)).alloc (.cells #[.slice (some ⟨G, off q, none⟩) cols cols] 37))) := Lib.hid ((HK.out.trans hkW (by simp)).alloc _)
        have hN := RdV.one (wr.setCell ⟨B, q, none⟩ (.bool true)) 37 (.slice (some ⟨G, off q, none⟩) cols cols)
        rw [show (wr.setCell ⟨B, q, none⟩ (.bool true)).heap.size = wr.heap.size by simp] at hN
        have HN := Lib.hid hN
        have HS2 := Lib.hid (HS.out.step hq hμ)
        have HV : Hid (vs.length = t) := Lib.hid HS.out.length
        clear hkW hOW hB' hB2 hN HO HB HK HS hμ
        go_wp2_with (at_builtin; refine wpList_append_vals rfl (.tmp 66) (.tmp 71) 22 rfl 37 i1 _ 24 Try.underlying22 hj0 hy0 hy1 hy2 rfl (.slice A5 t c5) vs rfl (HOW.out.alloc _) _ 1 1 [.slice (some ⟨G, off q, none⟩) cols cols] rfl HN.out (by simp [Value.oneCell']) (by rw [HV.out]; simp only [maxLen]; omega) (by rw [HV.out]; omega) ?_)
        intro v8 w8 ho8 hk8 hm8
        have hK8 : Kept [B] wm w8 := HA.out.trans hk8 (fun g hg => .inr (Hb.out g (by simpa using hg)))
        have hb8 : ∀ g, v8.ownBlock = some g → wm.heap.size ≤ g := fun g hg => by
          rcases hm8 g hg with h | h
          · exact Hb.out g h
          · exact Nat.le_trans HA.out.size h
        have hB8 := HB2.out.kept hk8 (fun h => by have := Hb.out B (by simpa using h); have := HBm.out; omega)
        obtain ⟨A8, n8, c8, rfl, hr8, _⟩ := ho8.form
        obtain rfl : n8 = t + 1 := by rw [← hr8.len, List.length_append, HV.out]; rfl
        have HO8 := Lib.hid ho8
        have HK8 := Lib.hid hK8
        have HB8 := Lib.hid hB8
        have Hb8 := Lib.hid hb8
        clear ho8 hk8 hm8 hK8 hb8 hB8 hr8 HOW HB2 HA HN HV Hb HMr cR f1
        go_wp2
        go_roundw
        case rel => exact ⟨i + 1, t + 1, _, A8, c8, _, _, by omega, by omega, by go_num, rfl, HS2, HO8, HB8, HK8, Hb8⟩
        case measure => simp [intOf]; omega
    · have hgo' : n ≤ i ∨ (i < n ∧ cols = t) := by omega
      clear hgo
      rcases hgo' with hgo | ⟨hgo1, rfl⟩
      all_goals
        go_wp2
        go_loopw [12, 16] (fun u v wr => ∃ (p2 t : Nat) (vs : List Value) (A5 : Option Addr) (c5 : Nat) (sel : Nat → Nat) (μ : Nat → Bool), p2 ≤ rows ∧ t ≤ cols ∧ v = .int .i64 (p2 : Int) ∧ u = .slice A5 t c5 ∧ Hid (Pick G rows cols off t vs sel μ) ∧ Hid (OwV 37 wr (.slice A5 t c5) vs) ∧ Hid (Blk wr B 42 (rm 32 fun p => .bool (μ p))) ∧ Hid (Kept [B] wm wr) ∧ Hid (∀ g, (Value.slice A5 t c5).ownBlock = some g → wm.heap.size ≤ g) ∧ Hid (∀ x, x < p2 → x < rows → μ x = true)) (fun _ v _ => rows - (intOf v).toNat)
        case atStart => exact ⟨0, _, vs, A5, c5, sel, μ, by omega, by omega, rfl, rfl, HS, HO, HB, HK, Hb, Lib.hid (fun x h => by omega)⟩
        case round =>
          clear HS HO HB HK Hb q1 q2
          obtain ⟨p2, t, vs, A5, c5, sel, μ, hp2, ht, rfl, rfl, HS, HO, HB, HK, Hb, HZ⟩ := hrel
          have q1 := HO.out.rd.cap
          have q2 := HO.out.rd.most
          unfold maxLen at q2
          by_cases htc : t < cols
          · have HMr := Lib.hid (HMm.out.kept HK.out (by simpa using nR) (by simpa using nG))
            have hq : p2 < rows := HS.out.more (by omega) HZ.out
            have cB : wr.cell? ⟨B, p2, none⟩ = some (.bool (μ p2)) := by rw [HB.out.cell, rm_get (by omega)]
            cases hμ : μ p2 with
            | true =>
              rw [hμ] at cB
              have HZ2 : Hid (∀ x, x < p2 + 1 → x < rows → μ x = true) := Lib.hid (fun x h1 h2 => by
                by_cases e : x = p2
                · rw [e]; exact hμ
                · exact HZ.out x (by omega) h2)
              clear hμ HMr HZ
              go_wp2
              go_roundw
              case rel => exact ⟨p2 + 1, t, vs, A5, c5, sel, μ, by omega, by omega, by go_num, rfl, HS, HO, HB, HK, Hb, HZ2⟩
              case measure => simp [intOf]; omega
            | false =>
              rw [hμ] at cB
              have HZ2 : Hid (∀ x, x < p2 + 1 → x < rows → (fun p => if p = p2 then true else μ p) x = true) := Lib.hid (fun x h1 h2 => by
                by_cases e : x = p2
                · simp only [if_pos e]
                · simp only [if_neg e]; exact HZ.out x (by omega) h2)
              clear HZ
              have hkW : Kept [B] wr (wr.setCell ⟨B, p2, none⟩ (.bool true)) := (Kept.refl [B] wr).setCell (.inl (by simp)) _
              have cR : (wr.setCell ⟨B, p2, none⟩ (.bool true)).cell? ⟨R, p2, none⟩ = some (.slice (some ⟨G, off p2, none⟩) cols cols) := (HMr.out.kept hkW (by simpa using nR) (by simpa using nG)).row hq
              have f1 := HB.out.frz p2
              have hOW := HO.out.kept hkW (fun g hg => by have := Hb.out g hg; have := HBm.out; simp; omega)
              have HOW := Lib.hid hOW
              have hB' := (HB.out.set p2 (.bool true)).of_eq (rm_set p2 (Value.bool true))
              have hB2 : Blk (wr.setCell ⟨B, p2, none⟩ (.bool true)) B 42 (rm 32 fun p => .bool ((fun p => if p = p2 then true else μ p) p)) := hB'.of_eq (rm_congr fun x _ => by
                by_cases e : x = p2
                · rw [if_pos e]; simp only [if_pos e]
                · rw [if_neg e]; simp only [if_neg e])
              have HB2 : Hid (Blk ((wr.setCell ⟨B, p2, none⟩ (.bool true)).alloc (.cells #[.slice (some ⟨G, off p2, none⟩) cols cols] 37)) B 42 (rm 32 fun p => .bool ((fun p => if p = p2 then true else μ p) p))) := Lib.hid (hB2.alloc _)
              have HA : Hid (Kept [B] wm ((wr.setCell ⟨B, p2, none⟩ (.bool true)).alloc (.cells #[.slice (some ⟨G, off p2, none⟩) cols cols] 37))) := Lib.hid ((HK.out.trans hkW (by simp)).alloc _)
              have hN := RdV.one (wr.setCell ⟨B, p2, none⟩ (.bool true)) 37 (.slice (some ⟨G, off p2, none⟩) cols cols)
              rw [show (wr.setCell ⟨B, p2, none⟩ (.bool true)).heap.size = wr.heap.size by simp] at hN
              have HN := Lib.hid hN
              have HS2 := Lib.hid (HS.out.step hq hμ)
              have HV : Hid (vs.length = t) := Lib.hid HS.out.length
              clear hkW hOW hB' hB2 hN HO HB HK HS hμ
              go_wp2_with (at_builtin; refine wpList_append_vals rfl (.tmp 85) (.tmp 90) 22 rfl 37 i1 _ 24 Try.underlying22 hj0 hy0 hy1 hy2 rfl (.slice A5 t c5) vs rfl (HOW.out.alloc _) _ 1 1 [.slice (some ⟨G, off p2, none⟩) cols cols] rfl HN.out (by simp [Value.oneCell']) (by rw [HV.out]; simp only [maxLen]; omega) (by rw [HV.out]; omega) ?_)
              intro v8 w8 ho8 hk8 hm8
              have hK8 : Kept [B] wm w8 := HA.out.trans hk8 (fun g hg => .inr (Hb.out g (by simpa using hg)))
              have hb8 : ∀ g, v8.ownBlock = some g → wm.heap.size ≤ g := fun g hg => by
                rcases hm8 g hg with h | h
                · exact Hb.out g h
                · exact Nat.le_trans HA.out.size h
              have hB8 := HB2.out.kept hk8 (fun h => by have := Hb.out B (by simpa using h); have := HBm.out; omega)
              obtain ⟨A8, n8, c8, rfl, hr8, _⟩ := ho8.form
              obtain rfl : n8 = t + 1 := by rw [← hr8.len, List.length_append, HV.out]; rfl
              have HO8 := Lib.hid ho8
              have HK8 := Lib.hid hK8
              have HB8 := Lib.hid hB8
              have Hb8 := Lib.hid hb8
              clear ho8 hk8 hm8 hK8 hb8 hB8 hr8 HOW HB2 HA HN HV Hb HMr cR f1
              go_wp2
              go_roundw
              case rel => exact ⟨p2 + 1, t + 1, _, A8, c8, _, _, by omega, by omega, by go_num, rfl, HS2, HO8, HB8, HK8, Hb8, HZ2⟩
              case measure => simp [intOf]; omega
          · obtain rfl : t = cols := by omega
            have HMr := HMm.out.kept HK.out (by simpa using nR) (by simpa using nG)
            have HTr := Lib.hid (HTm.out.kept HK.out (by simpa using nP))
            have HL := Lib.hid (HS.out.rdl HMr HO.out.rd (by unfold maxLen; omega))
            have HI := Lib.hid (HS.out.indep (by omega))
            have HKr : Hid (Kept [] w wr) := Lib.hid (HKm.out.trans HK.out (by have := HwB.out; simp; omega))
            clear HMr HS HO HB HK Hb HZ
            go_wp2_with fail
            refine (inverse8_any p A5 t c5 _ _ HTr.out HL.out (by omega) (by omega)).mono ?_
            rintro e w9 ⟨hk9, ⟨rfl, H⟩ | ⟨R', G', off', x, rfl, _, _, _, _⟩⟩
            · obtain ⟨r, hr1, hR⟩ := H.out
              have := hR.unique HI.out.rank
              omega
            · have HK9 := Lib.hid (HKr.out.andThen hk9)
              clear hk9
              go_wp2
              go_ret
              exact ⟨rfl, HK9.out⟩
end Go.Proofs.Ytmfbgogfefgglaa
