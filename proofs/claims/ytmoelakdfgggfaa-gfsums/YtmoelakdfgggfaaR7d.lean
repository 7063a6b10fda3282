/-
  Contract of the document's own sum of texts. No statement of the seed is proved here.
-/
import Derived.Test.YtmoelakdfgggfaaR7c
import Derived.Test.YtmoelakdfgggfaaR7b
import Derived.Test.YtmoelakdfgggfaaGf5
namespace Go.Proofs.Ytmoelakdfgggfaa
open Go.RowKit
set_option linter.unusedVariables false

theorem mulR7_w (a b r : UInt8) (y z : Int) (w : World) (hr : r = gmul 0x1d a b) (hy : y = (a.toNat : Int)) (hz : z = (b.toNat : Int)) : Calls Try.prog 14 #[.int .u8 y, .int .u8 z] w fun e w' => e = .returned (.int .u8 (r.toNat : Int)) ∧ w' = w := by
  subst hr
  exact mulR7_any a b y z w hy hz

/-- A text of the call's own, and an error's number. -/
def SumNew (bs : List UInt8) (er : Int) (w : World) (e : Ending) (w' : World) : Prop := ∃ A n c, e = .returned (.tuple #[.slice A n c, .int .i64 er]) ∧ RdB w' A n c bs ∧ Kept [] w w' ∧ ∀ g, (Value.slice A n c).ownBlock = some g → w.heap.size ≤ g
set_option maxRecDepth 100000 in
set_option maxHeartbeats 4000000 in
theorem sumR7_new (A : Option Addr) (n c : Nat) (cs : List UInt8) (A' : Option Addr) (n' c' : Nat) (ls : List (List UInt8)) (w : World) (hr : RdB w A n c cs) (hl : RdL w A' n' c' ls) (hbig : ∀ l ∈ ls, l.length ≤ 1000000) :
    Calls Try.prog 21 #[.slice A n c, .slice A' n' c'] w (SumNew (gSumV cs ls) (gSumE cs ls) w) := by
  have HR := Lib.hid hr
  have HL := Lib.hid hl
  have hlc := hr.len
  have hll := hl.len
  have b1 := hr.cap
  have b2 := hr.most
  have b3 := hl.cap
  have b4 := hl.most
  unfold maxLen at b2 b4
  obtain ⟨i0, hi0, hz0, hz1, hz2⟩ := info_parts u8info
  by_cases hne : n = n'
  · subst hne
    have HN : Hid (∀ (k : Nat) (l : List UInt8), ls[k]? = some l → l.length ≠ (ls.getD 0 []).length → gSumV cs ls = [] ∧ gSumE cs ls = 14) := Lib.hid (fun k l h1 h2 => by
      have h3 := one1_no h1 h2
      unfold gSumV gSumE
      rw [if_neg (fun h => by rw [h3] at h; exact absurd h.2 (by decide)), if_neg (fun h => by rw [h3] at h; exact absurd h.2 (by decide))]
      exact ⟨rfl, rfl⟩)
    have HY : Hid ((∀ j l, j < n → ls[j]? = some l → l.length = (ls.getD 0 []).length) → (gSumV cs ls = gsum (ls.getD 0 []).length cs ls ∧ gSumE cs ls = 0) ∧ (gsum (ls.getD 0 []).length cs ls).length = (ls.getD 0 []).length ∧ ∀ k, k < (ls.getD 0 []).length → (gsum (ls.getD 0 []).length cs ls).take k ++ [gcol cs ls k n] = (gsum (ls.getD 0 []).length cs ls).take (k + 1)) := Lib.hid (fun h => by
      have h1 : one1 ls = true := one1_yes (fun k l hk hkl => h k l (by omega) hkl)
      have h2 := one1_spec h1
      refine ⟨?_, gsumN_length h2 _ (Nat.le_refl _), fun k hk => ?_⟩
      · unfold gSumV gSumE
        rw [if_pos ⟨by omega, h1⟩, if_pos ⟨by omega, h1⟩]
        exact ⟨rfl, rfl⟩
      · have := gsum_take (cs := cs) h2 k hk
        rw [hll] at this
        exact this)
    have HC : Hid ((∀ k, gcol cs ls k 0 = 0) ∧ ∀ k j, gcol cs ls k (j + 1) = gcol cs ls k j ^^^ gmul 0x1d (cs.getD j 0) ((ls.getD j []).getD k 0)) := Lib.hid ⟨fun k => rfl, fun k j => rfl⟩
    have H0 : Hid (∀ l, ls[0]? = some l → l.length = (ls.getD 0 []).length) := Lib.hid (fun l h => by rw [List.getD_eq_getElem?_getD, h]; rfl)
    have HZ : Hid (n = 0 → (ls.getD 0 []).length = 0) := Lib.hid (fun h => by rw [List.eq_nil_of_length_eq_zero (l := ls) (by omega)]; rfl)
    have HNb : Hid ((ls.getD 0 []).length ≤ 1000000) := Lib.hid (by
      rw [List.getD_eq_getElem?_getD]
      cases h : ls[0]? with
      | none => simp
      | some l => exact hbig l (List.mem_of_getElem? h))
    generalize gsum (ls.getD 0 []).length cs ls = G at *
    generalize (ls.getD 0 []).length = N at *
    generalize gcol cs ls = col at *
    obtain ⟨sv, hsv⟩ : ∃ sv, sv = gSumV cs ls := ⟨_, rfl⟩
    obtain ⟨se, hse⟩ : ∃ se, se = gSumE cs ls := ⟨_, rfl⟩
    rw [← hsv, ← hse] at HY
    simp only [← hsv, ← hse] at HN
    rw [← hsv, ← hse]
    clear hr hl hbig hlc hll hsv hse
    go_enter Try.func21, Try.ntmps21
    go_wp2
    go_loopw [7] (fun i wr => ∃ k : Nat, k ≤ n ∧ i = .int .i64 (k : Int) ∧ Kept [] w wr ∧ Hid (∀ j l, j < k → ls[j]? = some l → l.length = N)) (fun i _ => n - (intOf i).toNat)
    case atStart => exact ⟨0, by omega, rfl, Kept.refl _ _, Lib.hid (fun j l h => by omega)⟩
    case round =>
      obtain ⟨k, hk, rfl, hK, H⟩ := hrel
      by_cases hlt : k < n
      · have HL2 := HL.out.kept0 hK
        obtain ⟨b, off, Ak, nk, ck, l, rfl, hb, d1, g1, r1⟩ := HL2.at_ hlt
        obtain ⟨b', off', A0, n0, c0, l0, e0, _, d2, g2, r2⟩ := HL2.at_ (k := 0) (by omega)
        injection e0 with e0
        injection e0 with e1 e2
        subst e1 e2
        rw [Nat.add_zero] at d2
        have hn0 : n0 = N := by rw [← r2.len]; exact H0.out l0 g2
        have hnk := r1.len
        have f1 := r1.cap
        have f2 := r1.most
        unfold maxLen at f2
        have f3 := r2.cap
        have f4 := r2.most
        unfold maxLen at f4
        by_cases he : nk = N
        · have hE : ((nk : Int) != (n0 : Int)) = false := by rw [he, hn0]; simp
          have H' : Hid (∀ j l, j < k + 1 → ls[j]? = some l → l.length = N) := Lib.hid (fun j l' hj hl' => by
            by_cases h : j < k
            · exact H.out j l' h hl'
            · obtain rfl : j = k := by omega
              rw [g1] at hl'; injection hl' with hl'; subst hl'; rw [hnk]; exact he)
          have HK := Lib.hid hK
          clear H r1 r2 g1 g2 hnk he hn0 HL2 hK
          go_wp2
          go_quiet (fail)
          go_wp2
          go_roundw
          case rel => exact ⟨k + 1, by omega, by go_num, HK.out.drewN _, H'⟩
          case measure => simp [intOf]; omega
        · have hE : ((nk : Int) != (n0 : Int)) = true := by rw [hn0]; simp; omega
          have HF := Lib.hid (HN.out k l g1 (by rw [hnk]; exact he))
          have HK := Lib.hid hK
          clear H r1 r2 g1 g2 hnk he hn0 HL2 hK
          go_wp2
          go_quiet (fail)
          go_wp2
          go_ret2
          exact ⟨none, 0, 0, by rw [HF.out.2]; rfl, by rw [HF.out.1]; exact RdB.nil _, HK.out.drewN _, fun g hg => by simp [Value.ownBlock] at hg⟩
      · obtain rfl : n = k := by omega
        have HF := Lib.hid (HY.out H.out)
        have HO := H
        clear H HN HY
        obtain ⟨wz, hwz⟩ : ∃ wz, wz = wr := ⟨_, rfl⟩
        subst hwz
        go_wp2
        go_loopw [6, 8] (fun v i wr => ∃ (k : Nat) (A5 : Option Addr) (n5 c5 : Nat), k ≤ N ∧ i = .int .i64 (k : Int) ∧ v = .slice A5 n5 c5 ∧ OwB 5 wr (.slice A5 n5 c5) (G.take k) ∧ Kept [] w wr ∧ Hid (∀ g, (Value.slice A5 n5 c5).ownBlock = some g → w.heap.size ≤ g)) (fun _ i _ => N - (intOf i).toNat)
        case atStart => exact ⟨0, none, 0, 0, by omega, rfl, rfl, by rw [List.take_zero]; exact OwB.nil _ _, hK, Lib.hid (fun g hg => by simp [Value.ownBlock] at hg)⟩
        case round =>
          clear hK
          obtain ⟨k, A5, n5, c5, hk5, rfl, rfl, ho5, hK5, Hb5⟩ := hrel
          by_cases h0 : n = 0
          · have hN0 := HZ.out h0
            subst h0
            obtain rfl : k = 0 := by omega
            have hnil : G.take 0 = G := List.take_of_length_le (by have := HF.out.2.1; omega)
            rw [hnil] at ho5
            have HRd := Lib.hid ho5.rd
            clear ho5 hnil
            go_wp2
            go_ret2
            exact ⟨A5, n5, c5, by rw [HF.out.1.2]; rfl, by rw [HF.out.1.1]; exact HRd.out, hK5, Hb5.out⟩
          · obtain ⟨b, off, A0, n0, c0, l0, rfl, hb, d2, g2, r2⟩ := (HL.out.kept0 hK5).at_ (k := 0) (by omega)
            rw [Nat.add_zero] at d2
            obtain rfl : n0 = N := by rw [← r2.len]; exact H0.out l0 g2
            have f3 := r2.cap
            have f4 := r2.most
            unfold maxLen at f4
            have hgt : (decide ((n : Int) > 0)) = true := decide_eq_true (by omega)
            have hnb := HNb.out
            by_cases hlt2 : k < n0
            · have HO5 := Lib.hid ho5
              have HK5 := Lib.hid hK5
              clear ho5 hK5 r2 g2
              obtain ⟨wy, hwy⟩ : ∃ wy, wy = wr := ⟨_, rfl⟩
              subst hwy
              go_wp2
              go_loopw [9, 10] (fun v i wr => ∃ (j : Nat), j ≤ n ∧ i = .int .i64 (j : Int) ∧ v = .int .u8 ((col k j).toNat : Int) ∧ Kept [] wy wr) (fun _ i _ => n - (intOf i).toNat)
              case atStart => exact ⟨0, by omega, rfl, by rw [HC.out.1]; rfl, Kept.refl _ _⟩
              case round =>
                obtain ⟨j, hj, rfl, rfl, hKy⟩ := hrel
                have hKw := HK5.out.andThen hKy
                by_cases hltj : j < n
                · obtain ⟨b', off', Aj, nj, cj, lj, e0, _, d3, g3, r3⟩ := (HL.out.kept0 hKw).at_ hltj
                  injection e0 with e0
                  injection e0 with e1 e2
                  subst e1 e2
                  obtain rfl : nj = n0 := by rw [← r3.len]; exact HO.out j lj hltj g3
                  obtain ⟨bt, ot, y, rfl, c4, g4, hy⟩ := r3.byte hlt2
                  obtain ⟨bc, oc, x, rfl, c5, g5, hx⟩ := (HR.out.kept0 hKw).byte hltj
                  have hcol := HC.out.2 k j
                  rw [List.getD_eq_getElem?_getD, g5, List.getD_eq_getElem?_getD (l := ls), g3, Option.getD_some, Option.getD_some, List.getD_eq_getElem?_getD, g4, Option.getD_some] at hcol
                  obtain ⟨r, hr⟩ : ∃ r, r = gmul 0x1d x y := ⟨_, rfl⟩
                  rw [← hr] at hcol
                  have Hr := Lib.hid hr
                  have hcl := (col k j).toNat_lt
                  have rx : bits .xor .u8 ((col k j).toNat : Int) (r.toNat : Int) = ((col k (j + 1)).toNat : Int) := by rw [bits_xorB, hcol]
                  have HKy := Lib.hid hKy
                  have q3 := r3.cap
                  have q4 := r3.most
                  unfold maxLen at q4
                  obtain ⟨s2, hs2⟩ : ∃ s2, s2 = col k (j + 1) := ⟨_, rfl⟩
                  rw [← hs2] at rx
                  have Hs2 : Hid (Value.int IntKind.u8 (s2.toNat : Int) = Value.int IntKind.u8 ((col k (j + 1)).toNat : Int)) := Lib.hid (by rw [hs2])
                  clear hs2
                  clear hcol hr hKy hKw g3 g4 g5 r3 d2
                  go_wp2
                  go_quiet (first | (go_at_call 14; refine Calls.quiet_of_same (mulR7_w x y r _ _ _ Hr.out rfl rfl)))
                  go_wp2
                  go_roundw
                  case rel => exact ⟨j + 1, by omega, by go_num, Hs2.out, HKy.out.drewN _⟩
                  case measure => simp [intOf]; omega
                · obtain rfl : n = j := by omega
                  have ho6 := HO5.out.kept0 hKy
                  have HS := Lib.hid (HF.out.2.2 k hlt2)
                  have HTl : Hid ((G.take k).length = k) := Lib.hid (by rw [List.length_take, HF.out.2.1]; omega)
                  generalize col k n = s1 at *
                  have HO6 := Lib.hid ho6
                  have HK6 := Lib.hid hKw
                  clear ho6 hKw hKy d2
                  go_wp2_with (at_builtin; refine wpList_append_bytes rfl (.tmp 65) (.tmp 67) 35 rfl 5 i0 _ 1 Try.underlying35 hi0 hz0 hz1 hz2 rfl (.slice A5 n5 c5) (G.take k) rfl (HO6.out.alloc _) _ 1 1 [s1] rfl (RdB.one _ 5 _ s1 rfl) (by rw [HTl.out]; simp only [maxLen]; omega) (by rw [HTl.out]; omega) ?_)
                  intro v8 w8 ho8 hk8 hm8
                  obtain ⟨hK8, hb8⟩ := app_new (HK6.out.alloc _) Hb5.out hk8 hm8
                  rw [HS.out] at ho8
                  obtain ⟨A8, n8, c8, rfl, _, _⟩ := ho8.form
                  have Hb8 := Lib.hid hb8
                  clear hb8 hk8 hm8 HS HTl HO6 HK6 HO5 HK5 Hb5
                  go_wp2
                  go_roundw
                  case rel => exact ⟨k + 1, A8, n8, c8, by omega, by go_num, rfl, ho8, hK8, Hb8⟩
                  case measure => simp [intOf]; omega
            · obtain rfl : n0 = k := by omega
              rw [List.take_of_length_le (by have := HF.out.2.1; omega)] at ho5
              have HRd := Lib.hid ho5.rd
              clear ho5 r2 g2
              go_wp2
              go_ret2
              exact ⟨A5, n5, c5, by rw [HF.out.1.2]; rfl, by rw [HF.out.1.1]; exact HRd.out, hK5, Hb5.out⟩
  · have HV : Hid (gSumV cs ls = [] ∧ gSumE cs ls = 14) := Lib.hid (by
      unfold gSumV gSumE
      rw [if_neg (fun h => hne (by omega)), if_neg (fun h => hne (by omega))]
      exact ⟨rfl, rfl⟩)
    rw [HV.out.1, HV.out.2]
    have hq : ((n : Int) != (n' : Int)) = true := by simp; omega
    clear hr hl hbig hlc hll HV
    go_enter Try.func21, Try.ntmps21
    go_wp2
    go_ret2
    exact ⟨none, 0, 0, rfl, RdB.nil _, Kept.refl _ _, fun g hg => by simp [Value.ownBlock] at hg⟩
theorem sumR7_any (A : Option Addr) (n c : Nat) (cs : List UInt8) (A' : Option Addr) (n' c' : Nat) (ls : List (List UInt8)) (w : World) (hr : RdB w A n c cs) (hl : RdL w A' n' c' ls) (hbig : ∀ l ∈ ls, l.length ≤ 1000000) :
    Calls Try.prog 21 #[.slice A n c, .slice A' n' c'] w (SumRet (gSumV cs ls) (gSumE cs ls) w) :=
  (sumR7_new A n c cs A' n' c' ls w hr hl hbig).mono fun e w' ⟨A1, n1, c1, h1, h2, h3, _⟩ => ⟨A1, n1, c1, h1, h2, h3⟩
end Go.Proofs.Ytmoelakdfgggfaa
