/-
  Walk of layer 9's law RsLess. No statement of the seed is proved here.
-/
import Derived.Test.YtpnpimhfakfolaaLaw9d
namespace Go.Proofs.Ytpnpimhfakfolaa
open Go.RowKit
set_option linter.unusedVariables false

theorem rm_cons {α : Type} (n : Nat) (f : Nat → α) : rm (n + 1) f = f 0 :: rm n (fun i => f (i + 1)) := by
  unfold rm
  rw [List.range_succ_eq_map, List.map_cons, List.map_map]
  rfl
/-- The rows of a matrix that is read, as cells told by a function. -/
theorem RdL.cellsU {w : World} {A : Option Addr} {n c k : Nat} {m : Nat → Nat → GB} (h : RdL w A n c (ofm n k m)) (hn : 0 < n) : ∃ b off, ∃ U : Nat → Value, A = some ⟨b, off, none⟩ ∧ b < w.heap.size ∧ ∀ j, j < n → w.cell? ⟨b, off + j, none⟩ = some (U j) ∧ TxtV w (U j) (rm k fun c => (m j c).v) := by
  obtain ⟨vs, hv, ht⟩ := h.vals
  obtain ⟨b, off, e, hb, hc⟩ := hv.at_ hn
  have hl := hv.len
  refine ⟨b, off, fun j => vs.getD j undef, e, hb, fun j hj => ?_⟩
  have hjv : j < vs.length := by omega
  have hg : vs.getD j undef = vs[j] := by rw [List.getD_eq_getElem?_getD, List.getElem?_eq_getElem hjv]; rfl
  have hx := hc j hjv
  show _ = some (vs.getD j undef) ∧ TxtV w (vs.getD j undef) _
  rw [hg]
  exact ⟨hx, ht.2 j _ _ (List.getElem?_eq_getElem hjv) (ofm_get hj)⟩
theorem OwV.lit (e : TypeId) (w : World) (v : Value) : OwV e (w.alloc (.cells #[v] e)) (.slice (some ⟨w.heap.size, 0, none⟩) 1 1) [v] :=
  (Blk.new w e [v]).ownV rfl (by simp [maxLen])
theorem txts_rm {w : World} {n k : Nat} {V : Nat → Value} {m : Nat → Nat → GB} (h : ∀ i, i < n → TxtV w (V i) (rm k fun j => (m i j).v)) : TxtVs w (rm n V) (ofm n k m) := txt_rows h
theorem TxtV.kept0 {w w' : World} {v : Value} {l : List UInt8} (h : TxtV w v l) (hk : Kept [] w w') : TxtV w' v l := by
  obtain ⟨A, n, c, e, hr⟩ := h
  exact ⟨A, n, c, e, hr.kept0 hk⟩
theorem one_rm {α : Type} (n : Nat) (f : Nat → α) : ∀ u ∈ rm n f, ∃ i, i < n ∧ u = f i := by
  intro u hu
  unfold rm at hu
  simp only [List.mem_map, List.mem_range] at hu
  obtain ⟨i, hi, e⟩ := hu
  exact ⟨i, hi, e.symm⟩
theorem tInt_one (n : Nat) (f : Nat → Int) : ∀ u ∈ rm n (fun i => Value.int .i64 (f i)), u.oneCell' = true := by
  intro u hu
  obtain ⟨i, _, rfl⟩ := one_rm _ _ u hu
  rfl
theorem TxtV.one {w : World} {v : Value} {l : List UInt8} (h : TxtV w v l) : v.oneCell' = true := by
  obtain ⟨A, n, c, rfl, _⟩ := h
  rfl

/-- The numbers that the law hands in: 0, and k on. -/
def lsL (k t : Nat) : Nat := if t = 0 then 0 else k + (t - 1)
theorem lsL_unl {k n : Nat} (h1 : 1 ≤ k) (h : 2 * k ≤ n) : unlP n k (fun t => (lsL k t : Int)) := by
  intro i hi
  refine ⟨⟨by show 0 ≤ (lsL k i : Int); omega, ?_⟩, fun j hj => ?_⟩
  · show (lsL k i : Int) < (n : Int)
    unfold lsL
    split <;> omega
  · show (lsL k j : Int) ≠ (lsL k i : Int)
    unfold lsL
    split <;> split <;> omega
theorem lsL_sel {k n : Nat} (h : 2 * k ≤ n) (h1 : 1 ≤ k) : ∀ t, t < k → (fun t => (lsL k t : Int)) t = ((lsL k t : Nat) : Int) ∧ lsL k t < n := fun t ht => ⟨rfl, by unfold lsL; split <;> omega⟩
/-- Slices that are told by any pieces at all have just these pieces. -/
theorem told {k : Nat} {sel : Nat → Nat} {V y : Nat → Nat → GB} (hV : BackP k sel V) : ∀ t, t < k → ∀ c, mm k (rsr k) (mm k V y) (sel t) c = y t c := by
  intro t ht c
  have hr := inv_right hV
  have e : mm k (rsr k) (mm k V y) (sel t) c = mm k (fun t j => rsr k (sel t) j) (mm k V y) t c := rfl
  rw [e, ← mm_assoc, mm_congr (a' := un) (b' := y) (fun j hj => hr t ht j hj) (fun _ _ => rfl), mm_un_left y ht]

theorem list_ints (kk : Nat) (a : Int) : Value.int .i64 0 :: rm kk (fun i => Value.int .i64 (a + (i : Int))) = rm (kk + 1) (fun t => Value.int .i64 (if t = 0 then 0 else a + ((t - 1 : Nat) : Int))) := by
  rw [rm_cons]
  rfl
theorem list_rows (kk k : Nat) (v : Value) (U : Nat → Value) : v :: rm kk (fun i => U (k + i)) = rm (kk + 1) (fun t => if t = 0 then v else U (k + (t - 1))) := by
  rw [rm_cons]
  rfl
theorem lsL_cast (k t : Nat) : (if t = 0 then (0 : Int) else (k : Int) + ((t - 1 : Nat) : Int)) = ((lsL k t : Nat) : Int) := by
  unfold lsL
  split
  · rfl
  · rfl

set_option maxRecDepth 100000 in
set_option maxHeartbeats 4000000 in
theorem less9_walk (K N : Int) (A : Option Addr) (n c : Nat) (ls : List (List UInt8)) (A' : Option Addr) (n' c' : Nat) (bs : List UInt8) (w : World) (hl : RdL w A n c ls) (hr : RdB w A' n' c' bs) :
    Calls Try.prog 6 #[.agg #[.int .i64 K, .int .i64 N], .slice A n c, .slice A' n' c'] w fun e w' => e = .returned (.bool true) ∧ Kept [] w w' := by
  have HT := Lib.hid hr
  have HL := Lib.hid hl
  have b1 := hl.cap
  have b2 := hl.most
  have b3 := hr.cap
  have b4 := hr.most
  unfold maxLen at b2 b4
  obtain ⟨i1, hj0, hy0, hy1, hy2⟩ := info_parts intInfo9
  obtain ⟨i2, ht0, hu0, hu1, hu2⟩ := info_parts tBinfo8
  have HB0 := Lib.hid (Blk.new w 23 [.int .i64 K, .int .i64 N])
  have HK0 := Lib.hid ((Kept.refl [] w).alloc (.cells #[.int .i64 K, .int .i64 N] 23))
  clear hl hr
  go_enter Try.func6, Try.ntmps6
  go_wp2_with fail
  refine (wakes9_any _).mono ?_
  rintro e w1 ⟨rfl, hk1⟩
  obtain ⟨d, hd⟩ : ∃ d, d = w.heap.size := ⟨_, rfl⟩
  have hB1 := HB0.out.kept0 hk1
  rw [← hd] at hB1 ⊢
  have HB1 := Lib.hid hB1
  have HK1 := Lib.hid (HK0.out.andThen hk1)
  clear hB1 hk1 HB0 HK0 hd
  have d0 : w1.cell? ⟨d, 0, none⟩ = some (.int .i64 K) := HB1.out.cell 0
  have d1 : w1.cell? ⟨d, 1, none⟩ = some (.int .i64 N) := HB1.out.cell 1
  go_wp2_with fail
  refine (code9_any K N _).mono ?_
  clear d0 d1
  rintro e w2 ⟨hk2, ⟨HR, rfl⟩ | rfl | ⟨k, m, q, p, Ac, cc, rfl, rfl, h1k, hkm, hk8, hm24, rfl, HC⟩⟩
  · have hB2 := HB1.out.kept0 hk2
    have HK2 := Lib.hid (HK1.out.andThen hk2)
    have HR' : Hid (K < 1 ∨ (1 ≤ K ∧ N < K) ∨ (1 ≤ K ∧ K ≤ N ∧ 255 < N)) := Lib.hid (by have := HR.out; unfold Rt9 at this; omega)
    have d0 : w2.cell? ⟨d, 0, none⟩ = some (.int .i64 K) := hB2.cell 0
    have d1 : w2.cell? ⟨d, 1, none⟩ = some (.int .i64 N) := hB2.cell 1
    clear hk2 hB2 HR HK1 HB1
    go_wp2_with fail
    refine (rightD9_no _ _ _ HR'.out).mono ?_
    rintro e w4 ⟨rfl, rfl⟩
    go_wp2
    go_ret
    exact ⟨rfl, HK2.out⟩
  · have HK2 := Lib.hid (HK1.out.andThen hk2)
    clear hk2
    go_wp2
    go_ret
    exact ⟨rfl, HK2.out⟩
  · have HB2 := Lib.hid (HB1.out.kept0 hk2)
    have HK2 := Lib.hid (HK1.out.andThen hk2)
    have HL2 := Lib.hid (HL.out.kept0 (HK1.out.andThen hk2))
    have HT2 := Lib.hid (HT.out.kept0 (HK1.out.andThen hk2))
    have d0 : w2.cell? ⟨d, 0, none⟩ = some (.int .i64 (k : Int)) := HB2.out.cell 0
    have d1 : w2.cell? ⟨d, 1, none⟩ = some (.int .i64 (m : Int)) := HB2.out.cell 1
    clear hk2 HK1 HB1 HL HT
    go_wp2_with fail
    refine (rightD9_yes _ _ _ (by omega)).mono ?_
    rintro e w4 ⟨rfl, rfl⟩
    go_wp2_with fail
    refine (longG_any 10 60 A n c ls _ HL2.out (by omega) (by omega)).mono ?_
    rintro e w3 ⟨u, rfl, rfl, HQ⟩
    cases u with
    | true =>
      go_wp2
      go_ret
      exact ⟨rfl, HK2.out⟩
    | false =>
      obtain ⟨hn10, hb60⟩ := HQ.out rfl
      by_cases hmk : m < 2 * k
      · clear hb60 HQ
        go_wp2
        go_ret
        exact ⟨rfl, HK2.out⟩
      · by_cases hn0 : n < 1
        · clear hb60 HQ
          go_wp2
          go_ret
          exact ⟨rfl, HK2.out⟩
        · obtain ⟨b0, o0, A0, n0, c0, l0, rfl, hb0, e0, g0, r0⟩ := HL2.out.at_ (k := 0) (by omega)
          rw [Nat.add_zero] at e0
          have z1 := r0.cap
          have z2 := r0.most
          unfold maxLen at z2
          have z0 : 0 < n := by omega
          by_cases hne : n' = n0
          · subst hne
            have HQ2 := Lib.hid hb60
            have Hl0 : Hid (l0.length = n') := Lib.hid r0.len
            have Hg0 := Lib.hid g0
            clear hb60 HQ r0 g0 hb0
            have HLn := Lib.hid HL2.out.len
            cases ht : tkn k ls with
            | false =>
              have HE := Lib.hid (encode9_no q m k p Ac cc (some ⟨b0, o0, none⟩) n c ls w3 HC.out HL2.out ht)
              clear ht
              go_wp2_with fail
              refine HE.out.mono ?_
              rintro e w5 ⟨A5, n5, c5, rfl, hr5, hk5⟩
              go_wp2
              go_ret
              exact ⟨rfl, HK2.out.andThen hk5⟩
            | true =>
              unfold tkn at ht
              rw [Bool.and_eq_true, decide_eq_true_iff] at ht
              obtain ⟨htl, hone⟩ := ht
              obtain rfl : k = n := by rw [← htl]; exact HLn.out
              obtain ⟨Nn, hNn, he⟩ := one1_form htl hone
              obtain rfl : Nn = n' := by rw [hNn, List.getD_eq_getElem?_getD, Hg0.out]; exact Hl0.out
              have hN60 : Nn ≤ 60 := by rw [← Hl0.out]; exact HQ2.out l0 (List.mem_of_getElem? Hg0.out)
              generalize ent ls = x at he
              subst he
              have HE := Lib.hid (encode9_any q m k p Ac cc (some ⟨b0, o0, none⟩) k c Nn x w3 HC.out HL2.out (by omega))
              clear htl hone hNn HQ2 Hl0 Hg0 HLn HL2
              go_wp2_with fail
              refine HE.out.mono ?_
              rintro e w5 ⟨A5, n5, c5, rfl, hr5, hk5⟩
              obtain rfl : m = n5 := by have := hr5.len; unfold pcs at this; rw [ofm_length] at this; exact this
              have q1 := hr5.cap
              have q2 := hr5.most
              unfold maxLen at q2
              obtain ⟨b5, o5, U, rfl, hb5, hU⟩ := RdL.cellsU (show RdL w5 A5 m c5 (ofm m Nn (mm k (rsr k) x)) from hr5) (by omega)
              have HU := Lib.hid hU
              have Hb5 := Lib.hid hb5
              have HC5 := Lib.hid (HC.out.kept0 hk5)
              have HB5 := Lib.hid (HB2.out.kept0 hk5)
              have HT5 := Lib.hid (HT2.out.kept0 hk5)
              have HK5 := Lib.hid (HK2.out.andThen hk5)
              obtain ⟨kk, hkk⟩ : ∃ kk, kk + 1 = k := ⟨k - 1, by omega⟩
              have hkm1 : (k : Int) - 1 = (kk : Int) := by omega
              have Hkk := Lib.hid hkk
              have hkb : kk < k := by omega
              have hk8' : kk < 8 := by omega
              clear hr5 hk5 hb5 hU HE HC HB2 HT2 HK2 hkk d0 d1 e0
              have d0 : w5.cell? ⟨d, 0, none⟩ = some (.int .i64 (k : Int)) := HB5.out.cell 0
              go_wp2
              clear d0
              go_loopw [12, 13, 76] (fun u v i wr => ∃ (t : Nat) (A8 : Option Addr) (n8 c8 : Nat) (A9 : Option Addr) (n9 c9 : Nat), t ≤ kk ∧ i = .int .i64 (t : Int) ∧ u = .slice A8 n8 c8 ∧ v = .slice A9 n9 c9 ∧ Hid (OwV 3 wr (.slice A8 n8 c8) (rm t fun i => .int .i64 ((k : Int) + (i : Int)))) ∧ Hid (OwV 38 wr (.slice A9 n9 c9) (rm t fun i => U (k + i))) ∧ Hid (Kept [] w5 wr) ∧ Hid (∀ g, (Value.slice A8 n8 c8).ownBlock = some g → w5.heap.size ≤ g) ∧ Hid (∀ g, (Value.slice A9 n9 c9).ownBlock = some g → w5.heap.size ≤ g) ∧ Hid (∀ g, (Value.slice A8 n8 c8).ownBlock = some g → (Value.slice A9 n9 c9).ownBlock ≠ some g)) (fun _ _ i _ => kk - (intOf i).toNat)
              case atStart => exact ⟨0, none, 0, 0, none, 0, 0, by omega, rfl, rfl, rfl, Lib.hid (OwV.nil _ _), Lib.hid (OwV.nil _ _), Lib.hid (Kept.refl _ _), Lib.hid (fun g hg => by simp [Value.ownBlock] at hg), Lib.hid (fun g hg => by simp [Value.ownBlock] at hg), Lib.hid (fun g hg => by simp [Value.ownBlock] at hg)⟩
              case round =>
                obtain ⟨t, A8, n8, c8, A9, n9, c9, ht, rfl, rfl, rfl, HO8, HO9, HK, Hn8, Hn9, Hdis⟩ := hrel
                by_cases hlt : t < kk
                · obtain ⟨s, hs⟩ : ∃ s, s = k + t := ⟨_, rfl⟩
                  have hadd : (k : Int) + (t : Int) = (s : Int) := by omega
                  have hsm : s < m := by omega
                  obtain ⟨hUc, Aj, nj, cj, hUe, hUr⟩ := HU.out s hsm
                  rw [hUe] at hUc
                  have HUs : Hid (U (k + t) = .slice Aj nj cj) := Lib.hid (by rw [← hs]; exact hUe)
                  have Hss : Hid ((k : Int) + (t : Int) = (s : Int)) := Lib.hid hadd
                  have HUc := Lib.hid hUc
                  have d0 : wr.cell? ⟨d, 0, none⟩ = some (.int .i64 (k : Int)) := (HB5.out.kept0 HK.out).cell 0
                  have h9lt : Hid (∀ g, (Value.slice A9 n9 c9).ownBlock = some g → g < wr.heap.size) := Lib.hid (by obtain ⟨_, _, _, _, _, hh⟩ := HO9.out.form; exact hh)
                  have h8lt : Hid (∀ g, (Value.slice A8 n8 c8).ownBlock = some g → g < wr.heap.size) := Lib.hid (by obtain ⟨_, _, _, _, _, hh⟩ := HO8.out.form; exact hh)
                  have HA := Lib.hid ((Kept.refl [] wr).alloc (.cells #[.int .i64 (s : Int)] 3))
                  clear hs hUc hUe hUr
                  go_wp2_with (at_builtin; refine wpList_append_vals rfl (.tmp 79) (.tmp 84) 45 rfl 3 i1 _ 8 Try.underlying45 hj0 hy0 hy1 hy2 rfl (.slice A8 n8 c8) (rm t fun i => .int .i64 ((k : Int) + (i : Int))) rfl (HO8.out.alloc _) _ 1 1 [.int .i64 (s : Int)] rfl (RdV.one wr 3 _) (by simp [Value.oneCell']) (by rw [rm_length]; simp only [maxLen]; omega) (by rw [rm_length]; omega) ?_)
                  intro va wa hoa hka hma
                  obtain ⟨hKa, hna⟩ := app_new (HK.out.andThen HA.out) Hn8.out hka hma
                  obtain ⟨Aa, na, ca, rfl, _, hla⟩ := hoa.form
                  have hO9a : OwV 38 wa (.slice A9 n9 c9) (rm t fun i => U (k + i)) := (HO9.out.alloc _).kept hka (fun g hg hin => by
                    have h1 : (Value.slice A8 n8 c8).ownBlock = some g := by simpa using hin
                    exact Hdis.out g h1 hg)
                  rw [← Hss.out, ← rm_snoc] at hoa
                  have HOa := Lib.hid hoa
                  have HO9a := Lib.hid hO9a
                  have HKa := Lib.hid hKa
                  have Hna := Lib.hid hna
                  have Hdisa : Hid (∀ g, (Value.slice Aa na ca).ownBlock = some g → (Value.slice A9 n9 c9).ownBlock ≠ some g) := Lib.hid (fun g hg h9 => by
                    rcases hma g hg with h1 | h1
                    · exact Hdis.out g h1 h9
                    · have := h9lt.out g h9
                      have := HA.out.size
                      omega)
                  have h9la : Hid (∀ g, (Value.slice A9 n9 c9).ownBlock = some g → g < wa.heap.size) := Lib.hid (by obtain ⟨_, _, _, _, _, hh⟩ := hO9a.form; exact hh)
                  have hAla : Hid (∀ g, (Value.slice Aa na ca).ownBlock = some g → g < wa.heap.size) := Lib.hid hla
                  have HAb := Lib.hid ((Kept.refl [] wa).alloc (.cells #[.slice Aj nj cj] 38))
                  have hUc : wa.cell? ⟨b5, o5 + s, none⟩ = some (.slice Aj nj cj) := (hKa.cell (p := ⟨b5, o5 + s, none⟩) Hb5.out (by simp)).trans HUc.out
                  clear hoa hO9a hKa hna hka hma hla d0 HO8 HO9 HK Hn8 h9lt h8lt HA
                  have d0 : wa.cell? ⟨d, 0, none⟩ = some (.int .i64 (k : Int)) := (HB5.out.kept0 HKa.out).cell 0
                  go_wp2_with (at_builtin; refine wpList_append_vals rfl (.tmp 86) (.tmp 94) 24 rfl 38 i2 _ 24 Try.underlying24 ht0 hu0 hu1 hu2 rfl (.slice A9 n9 c9) (rm t fun i => U (k + i)) rfl (HO9a.out.alloc _) _ 1 1 [.slice Aj nj cj] rfl (RdV.one wa 38 _) (by simp [Value.oneCell']) (by rw [rm_length]; simp only [maxLen]; omega) (by rw [rm_length]; omega) ?_)
                  intro vb wb hob hkb hmb
                  obtain ⟨hKb, hnb⟩ := app_new (HKa.out.andThen HAb.out) Hn9.out hkb hmb
                  obtain ⟨Ab, nb, cb, rfl, _, hlb⟩ := hob.form
                  have hOab := (HOa.out.alloc (.cells #[.slice Aj nj cj] 38)).kept hkb (fun g hg hin => by
                    have h1 : (Value.slice A9 n9 c9).ownBlock = some g := by simpa using hin
                    exact Hdisa.out g hg h1)
                  rw [← HUs.out, ← rm_snoc] at hob
                  have HOb := Lib.hid hob
                  have HOab := Lib.hid hOab
                  have HKb := Lib.hid hKb
                  have Hnb := Lib.hid hnb
                  have Hdisb : Hid (∀ g, (Value.slice Aa na ca).ownBlock = some g → (Value.slice Ab nb cb).ownBlock ≠ some g) := Lib.hid (fun g hg h9 => by
                    rcases hmb g h9 with h1 | h1
                    · exact Hdisa.out g hg h1
                    · have := hAla.out g hg
                      have := HAb.out.size
                      omega)
                  clear hob hOab hKb hnb hkb hmb hlb d0 hUc HOa HO9a HKa h9la hAla HAb Hdis Hn9 Hdisa
                  go_wp2
                  go_roundw
                  case rel => exact ⟨t + 1, Aa, na, ca, Ab, nb, cb, by omega, by go_num, rfl, rfl, HOab, HOb, HKb, Hna, Hnb, Hdisb⟩
                  case measure => simp [intOf]; omega
                · obtain rfl : kk = t := by omega
                  obtain ⟨V, hV⟩ := back_exists (k := k) (n := m) (sel := lsL k) hkm (by omega) (fun t ht => (lsL_sel (n := m) (by omega) h1k t ht).2) (fun t ht u hu hne => by unfold lsL; split <;> split <;> omega)
                  obtain ⟨y, hy⟩ : ∃ y : Nat → Nat → GB, y = fun t c => if t = 0 then (⟨bs.getD c 0⟩ : GB) else mm k (rsr k) x (k + (t - 1)) c := ⟨_, rfl⟩
                  have hy00 : rm Nn (fun c => (y 0 c).v) = bs := by
                    rw [hy]
                    refine (rm_ext HT5.out.len (fun c hc => ?_)).symm
                    have hcl : c < bs.length := by rw [HT5.out.len]; exact hc
                    rw [List.getElem?_eq_getElem hcl]
                    show _ = some (bs.getD c 0)
                    rw [List.getD_eq_getElem?_getD, List.getElem?_eq_getElem hcl]; rfl
                  have htold := told (y := y) hV
                  obtain ⟨l, hl⟩ : ∃ l, l = mm k V y := ⟨_, rfl⟩
                  rw [← hl] at htold
                  have HL0 : Hid (rm Nn (fun c => (l 0 c).v) = bs) := Lib.hid (by
                    rw [← hy00]
                    refine rm_congr fun c _ => ?_
                    have h := htold 0 (by omega) c
                    have e : mm k (rsr k) l (lsL k 0) c = l 0 c := by
                      show mm k (rsr k) l 0 c = l 0 c
                      rw [mm_congr (a' := un) (b' := l) (fun j hj => rsr_lt (by omega) j) (fun _ _ => rfl), mm_un_left l (by omega)]
                    rw [← h, e])
                  have HLi : Hid (∀ i, i < kk → rm Nn (fun c => (mm k (rsr k) l (k + i) c).v) = rm Nn (fun c => (mm k (rsr k) x (k + i) c).v)) := Lib.hid (fun i hi => rm_congr fun c _ => by
                    have h := htold (i + 1) (by have := Hkk.out; omega) c
                    have e : lsL k (i + 1) = k + i := by unfold lsL; rw [if_neg (by omega)]; omega
                    rw [e] at h
                    rw [h, hy]
                    show (if i + 1 = 0 then (⟨bs.getD c 0⟩ : GB) else mm k (rsr k) x (k + (i + 1 - 1)) c).v = _
                    rw [if_neg (by omega), Nat.add_sub_cancel])
                  have HV := Lib.hid hV
                  have Hye : Hid (∀ t, t < k → ∀ c, t ≠ 0 → y t c = mm k (rsr k) x (k + (t - 1)) c) := Lib.hid (fun t _ c h0 => by rw [hy]; exact if_neg h0)
                  have Hy0 := Lib.hid hy00
                  have Hl := Lib.hid hl
                  have HA1 := Lib.hid ((Kept.refl [] wr).alloc (.cells #[.int .i64 0] 3))
                  have h8len : n8 = kk := by have := HO8.out.rd.len; rw [rm_length] at this; exact this.symm
                  have h9len : n9 = kk := by have := HO9.out.rd.len; rw [rm_length] at this; exact this.symm
                  subst h8len
                  obtain rfl : n8 = n9 := h9len.symm
                  have v8 := HO8.out.rd.cap
                  have v8m := HO8.out.rd.most
                  unfold maxLen at v8m
                  have HS8 : Hid (RdV (wr.alloc (.cells #[.int .i64 0] 3)) A8 n8 c8 (rm n8 fun i => .int .i64 ((k : Int) + (i : Int)))) := Lib.hid (HO8.out.rd.kept0 HA1.out)
                  have HLit := Lib.hid (OwV.lit 3 wr (.int .i64 0))
                  clear hV hy hy00 htold hl h9len
                  go_wp2_with (at_builtin; refine wpList_append_vals rfl (.tmp 99) (.tmp 100) 45 rfl 3 i1 _ 8 Try.underlying45 hj0 hy0 hy1 hy2 rfl (.slice (some ⟨wr.heap.size, 0, none⟩) 1 1) [.int .i64 0] rfl HLit.out A8 n8 c8 (rm n8 fun i => .int .i64 ((k : Int) + (i : Int))) rfl HS8.out (tInt_one _ _) (by simp only [maxLen, List.length_singleton]; omega) (by simp only [List.length_singleton]; omega) ?_)
                  intro va wa hoa hka hma
                  have hka' : Kept [] wr wa := HA1.out.trans hka (by simp [Value.ownBlock])
                  obtain ⟨Aa, na, ca, rfl, hra, _⟩ := hoa.form
                  rw [list_ints, Hkk.out] at hra
                  obtain rfl : k = na := by have := hra.len; rw [rm_length] at this; exact this
                  have HIa : Hid (RdI wa Aa k ca (fun t => ((lsL k t : Nat) : Int))) := Lib.hid (by
                    unfold RdI
                    simp only [← lsL_cast]
                    exact hra)
                  have va1 := hra.cap
                  have HKa := Lib.hid (HK.out.andThen hka')
                  have HS8a := Lib.hid (HO8.out.rd.kept0 hka')
                  have HS9a := Lib.hid (HO9.out.rd.kept0 hka')
                  clear hoa hka hma hka' hra HLit HS8 HA1 HO8 HO9 HK Hn8 Hn9 Hdis
                  have HA2 := Lib.hid ((Kept.refl [] wa).alloc (.cells #[.slice A' Nn c'] 38))
                  have HS9 : Hid (RdV (wa.alloc (.cells #[.slice A' Nn c'] 38)) A9 n8 c9 (rm n8 fun i => U (k + i))) := Lib.hid (HS9a.out.kept0 HA2.out)
                  have HLit := Lib.hid (OwV.lit 38 wa (.slice A' Nn c'))
                  have HU1 : Hid (∀ u ∈ rm n8 (fun i => U (k + i)), u.oneCell' = true) := Lib.hid (fun u hu => by
                    obtain ⟨i, hi, rfl⟩ := one_rm _ _ u hu
                    exact (HU.out (k + i) (by omega)).2.one)
                  go_wp2_with (at_builtin; refine wpList_append_vals rfl (.tmp 103) (.tmp 104) 24 rfl 38 i2 _ 24 Try.underlying24 ht0 hu0 hu1 hu2 rfl (.slice (some ⟨wa.heap.size, 0, none⟩) 1 1) [.slice A' Nn c'] rfl HLit.out A9 n8 c9 (rm n8 fun i => U (k + i)) rfl HS9.out HU1.out (by simp only [maxLen, List.length_singleton]; omega) (by simp only [List.length_singleton]; omega) ?_)
                  intro vb wb hob hkb hmb
                  have hkb' : Kept [] wa wb := HA2.out.trans hkb (by simp [Value.ownBlock])
                  obtain ⟨Ab, nb, cb, rfl, hrb, _⟩ := hob.form
                  rw [list_rows, Hkk.out] at hrb
                  obtain rfl : k = nb := by have := hrb.len; rw [rm_length] at this; exact this
                  have HKb := Lib.hid (HKa.out.andThen hkb')
                  have HLb : Hid (RdL wb Ab k cb (ofm k Nn y)) := Lib.hid (RdL.of_vals hrb (txt_rows fun t ht => by
                    by_cases h0 : t = 0
                    · rw [if_pos h0, h0, Hy0.out]
                      exact ⟨_, _, _, rfl, HT5.out.kept0 HKb.out⟩
                    · rw [if_neg h0]
                      have h := (HU.out (k + (t - 1)) (by omega)).2.kept0 HKb.out
                      rw [rm_congr (f := fun c => (y t c).v) (g := fun c => (mm k (rsr k) x (k + (t - 1)) c).v) (fun c _ => by rw [Hye.out t ht c h0])]
                      exact h))
                  have HS8b := Lib.hid (HS8a.out.kept0 hkb')
                  have HS9b := Lib.hid (HS9a.out.kept0 hkb')
                  have HD := Lib.hid (decode9_any q m k p Ac cc Aa k ca _ (lsL k) V Ab cb Nn y wb (HC5.out.kept0 HKb.out) (HIa.out.kept0 hkb') HLb.out (by omega) (lsL_unl h1k (by omega)) (Nat.le_refl _) (lsL_sel (by omega) h1k) HV.out)
                  rw [← Hl.out] at HD
                  clear hob hkb hmb hkb' hrb HLit HS9 HA2 HU1 HS8a HS9a HKa HIa HV Hye Hy0 Hl
                  go_wp2_with fail
                  refine HD.out.mono ?_
                  rintro e wd ⟨Ad, nd, cd, rfl, hrd, hkd⟩
                  obtain rfl : k = nd := by have := hrd.len; rw [ofm_length] at this; exact this
                  have w1 := hrd.cap
                  have w2 := hrd.most
                  unfold maxLen at w2
                  obtain ⟨bd, od, Az, nz, cz, lz, rfl, hbd, dz, gz, rz⟩ := hrd.at_ (k := 0) (by omega)
                  rw [ofm_get (by omega), HL0.out] at gz
                  obtain rfl := Option.some.inj gz
                  rw [Nat.add_zero] at dz
                  have z1 := rz.cap
                  have z2 := rz.most
                  unfold maxLen at z2
                  have HKd := Lib.hid (HKb.out.andThen hkd)
                  have d0 : wd.cell? ⟨d, 0, none⟩ = some (.int .i64 (k : Int)) := (HB5.out.kept0 HKd.out).cell 0
                  have k0 : 0 < k := by omega
                  have HS := Lib.hid (same9_k _ _ _ _ _ _ bs wd rz (HT5.out.kept0 HKd.out))
                  have HLd := Lib.hid hrd
                  have HS8d := Lib.hid (HS8b.out.kept0 hkd)
                  have HS9d := Lib.hid (HS9b.out.kept0 hkd)
                  clear hrd hkd rz gz hbd HD HLb HL0 HKb HS8b HS9b
                  go_wp2_with fail
                  refine HS.out.mono ?_
                  rintro e we ⟨rfl, hke⟩
                  have HKe := Lib.hid (HKd.out.andThen hke)
                  have HE := Lib.hid (encode9_any q m k p Ac cc (some ⟨bd, od, none⟩) k cd Nn l we (HC5.out.kept0 HKe.out) (HLd.out.kept0 hke) (by omega))
                  have HS8e := Lib.hid (HS8d.out.kept0 hke)
                  have HS9e := Lib.hid (HS9d.out.kept0 hke)
                  clear hke d0 dz HLd HS HS8d HS9d HKd
                  go_wp2_with fail
                  refine HE.out.mono ?_
                  rintro e wf ⟨Af, nf, cf, rfl, hrf, hkf⟩
                  obtain rfl : m = nf := by have := hrf.len; unfold pcs at this; rw [ofm_length] at this; exact this
                  have y1 := hrf.cap
                  have y2 := hrf.most
                  unfold maxLen at y2
                  have HQf := Lib.hid hrf
                  have HKf := Lib.hid (HKe.out.andThen hkf)
                  have HS8f := Lib.hid (HS8e.out.kept0 hkf)
                  have HS9f := Lib.hid (HS9e.out.kept0 hkf)
                  have v9 := HS9e.out.cap
                  have v9m := HS9e.out.most
                  unfold maxLen at v9m
                  clear hrf hkf HE HS8e HS9e HKe
                  go_wp2
                  go_loopw [134] (fun i wr => ∃ i' : Nat, i' ≤ n8 ∧ i = .int .i64 (i' : Int) ∧ Hid (Kept [] wf wr)) (fun i _ => n8 - (intOf i).toNat)
                  case atStart => exact ⟨0, by omega, rfl, Lib.hid (Kept.refl _ _)⟩
                  case round =>
                    obtain ⟨i, hi, rfl, HK⟩ := hrel
                    by_cases hli : i < n8
                    · obtain ⟨s, hs⟩ : ∃ s, s = k + i := ⟨_, rfl⟩
                      have hadd : (k : Int) + (i : Int) = (s : Int) := by omega
                      have hsm : s < m := by omega
                      obtain ⟨ba, oa, rfl, hba, ea⟩ := RdI.at_ (f := fun i => (k : Int) + (i : Int)) HS8f.out hli
                      rw [hadd] at ea
                      have ea' := (HK.out.cell (p := ⟨ba, oa + i, none⟩) hba (by simp)).trans ea
                      obtain ⟨bq, oq, Aq, nq, cq, lq, rfl, hbq, eq, gq, rq⟩ := HQf.out.at_ (k := s) hsm
                      unfold pcs at gq
                      rw [ofm_get hsm] at gq
                      obtain rfl := Option.some.inj gq
                      obtain ⟨bh, oh, rfl, hbh, eh⟩ := HS9f.out.at_ (by omega)
                      have eh' := eh i (by rw [rm_length]; exact hli)
                      have hUi : (rm n8 fun i => U (k + i))[i]'(by rw [rm_length]; exact hli) = U s := by
                        rw [hs]
                        exact Option.some.inj ((List.getElem?_eq_getElem (by rw [rm_length]; exact hli)).symm.trans (rm_get (f := fun i => U (k + i)) hli))
                      rw [hUi] at eh'
                      obtain ⟨_, Aj, nj, cj, hUe, hUr⟩ := HU.out s hsm
                      rw [hUe] at eh'
                      have hrow : rm Nn (fun c => (mm k (rsr k) l s c).v) = rm Nn (fun c => (mm k (rsr k) x s c).v) := by rw [hs]; exact HLi.out i hli
                      rw [hrow] at rq
                      have Hrq := Lib.hid rq
                      have Hrh := Lib.hid (hUr.kept0 HKf.out)
                      have SK : Hid (∀ W, Kept [] wr W → W.cell? ⟨bq, oq + s, none⟩ = some (.slice Aq nq cq) ∧ W.cell? ⟨bh, oh + i, none⟩ = some (.slice Aj nj cj)) := Lib.hid (fun W hW => ⟨((HK.out.andThen hW).cell (p := ⟨bq, oq + s, none⟩) hbq (by simp)).trans eq, ((HK.out.andThen hW).cell (p := ⟨bh, oh + i, none⟩) hbh (by simp)).trans eh'⟩)
                      have p1 : (0 : Int) ≤ (s : Int) := by omega
                      have p2 : (s : Int) < (m : Int) := by omega
                      have p3 : (0 : Int) ≤ (i : Int) := by omega
                      have p4 : (i : Int) < (n8 : Int) := by omega
                      have hKc : Kept [] wr wr.drew := (Kept.refl [] wr).drew
                      clear hs hadd ea eq rq eh eh' hUi hUe hUr hrow hba hbq hbh
                      go_wp2_with fail
                      go_region_held3 (fun w' => w'.cell? ⟨bq, oq + s, none⟩ = some (.slice Aq nq cq) ∧ w'.cell? ⟨bh, oh + i, none⟩ = some (.slice Aj nj cj))
                        (first
                          | exact SK.out _ hKc
                          | exact SK.out _ (Kept.refl [] wr).drew
                          | exact SK.out _ (Kept.refl [] wr))
                        (first
                          | (go_at_call 19; refine (same9_k _ _ _ _ _ _ _ _ (Hrq.out.kept0 (HK.out.andThen hKc)) (Hrh.out.kept0 (HK.out.andThen hKc))).mono ?_; rintro e wh ⟨rfl, hkh⟩; have hKc := hKc.andThen hkh))
                      have HKn := Lib.hid (HK.out.andThen hKc)
                      clear HK SK ea'
                      go_wp2
                      go_roundw
                      case rel => exact ⟨i + 1, by omega, by go_num, HKn⟩
                      case measure => simp [intOf]; omega
                    · obtain rfl : n8 = i := by omega
                      go_wp2
                      go_ret
                      exact ⟨rfl, (HK5.out.andThen HKf.out).andThen HK.out⟩
          · have hE : ((n' : Int) != (n0 : Int)) = true := by simp; omega
            clear hb60 HQ r0 g0 hb0
            go_wp2
            go_ret
            exact ⟨rfl, HK2.out⟩
end Go.Proofs.Ytpnpimhfakfolaa
