/-
  Walk of layer 9's law RsEncode. No statement of the seed is proved here.
-/
import Derived.Test.YtpnpimhfakfolaaLaw9a
import Derived.Test.YtpnpimhfakfolaaHeldS
namespace Go.Proofs.Ytpnpimhfakfolaa
open Go.RowKit
set_option linter.unusedVariables false

theorem sameAll9_k (A A' : Option Addr) (n c n' c' : Nat) (ls : List (List UInt8)) (w : World) (ha : RdL w A n c ls) (hb : RdL w A' n' c' ls) :
    Calls Try.prog 16 #[.slice A n c, .slice A' n' c'] w fun e w' => e = .returned (.bool true) ∧ Kept [] w w' :=
  (sameAll7_any A A' n c n' c' ls w ha hb).mono fun e w' h => by
    obtain ⟨h1, m, rfl⟩ := h
    exact ⟨h1, (Kept.refl [] w).drewN m⟩
theorem same9_k (A A' : Option Addr) (n c n' c' : Nat) (bs : List UInt8) (w : World) (ha : RdB w A n c bs) (hb : RdB w A' n' c' bs) :
    Calls Try.prog 19 #[.slice A n c, .slice A' n' c'] w fun e w' => e = .returned (.bool true) ∧ Kept [] w w' := by
  obtain rfl : n = n' := ha.len.symm.trans hb.len
  exact (same_yes A A' n c c' bs w ha hb).mono fun e w' h => by
    obtain ⟨h1, m, rfl⟩ := h
    exact ⟨h1, (Kept.refl [] w).drewN m⟩

/-- What any slices are answered: by the program, by the document. -/
def EncB (k n : Nat) (ls L : List (List UInt8)) (E : Int) : Prop :=
  (∀ (q p : Nat) (A : Option Addr) (c : Nat) (A' : Option Addr) (n' c' : Nat) (w : World), CodeAt w q n k p A c → RdL w A' n' c' ls → Calls Try.prog 14 #[.pointer (some ⟨q, 0, none⟩), .slice A' n' c'] w (LRet2 L E w)) ∧
  (∀ (A' : Option Addr) (n' c' : Nat) (w : World), RdL w A' n' c' ls → Calls Try.prog 15 #[.int .i64 (k : Int), .int .i64 (n : Int), .slice A' n' c'] w (LRet2 L E w)) ∧
  (∀ (q p : Nat) (A : Option Addr) (c : Nat) (A' : Option Addr) (n' c' : Nat) (z : Int) (w : World), CodeAt w q n k p A c → RdL w A' n' c' ls → (z < 0 ∨ (0 ≤ z ∧ (n : Int) ≤ z)) → Calls Try.prog 17 #[.pointer (some ⟨q, 0, none⟩), .slice A' n' c', .int .i64 z] w (SumRet [] (if E = 0 then 3 else E) w)) ∧
  (∀ (q p : Nat) (A : Option Addr) (c : Nat) (A' : Option Addr) (n' c' i : Nat) (w : World), CodeAt w q n k p A c → RdL w A' n' c' ls → i < n → Calls Try.prog 17 #[.pointer (some ⟨q, 0, none⟩), .slice A' n' c', .int .i64 (i : Int)] w (SumRet (L.getD i []) E w))
theorem encB (k n : Nat) (ls : List (List UInt8)) (h1 : 1 ≤ k) (h2 : k ≤ n) (h3 : n ≤ 255) (hb : ∀ l ∈ ls, l.length ≤ 1000000) : ∃ L E, EncB k n ls L E ∧ ((E = 0 ∧ L.length = n) ∨ (E = 14 ∧ L = [])) := by
  cases ht : tkn k ls with
  | false =>
    refine ⟨[], 14, ⟨fun q p A c A' n' c' w hc hl => encode9_no q n k p A c A' n' c' ls w hc hl ht, fun A' n' c' w hl => encodeD9_no k n _ _ A' n' c' ls w rfl hl ht, fun q p A c A' n' c' z w hc hl hz => ?_, fun q p A c A' n' c' i w hc hl hi => ?_⟩, .inr ⟨rfl, rfl⟩⟩
    · rw [if_neg (by decide)]
      exact piece9_no q n k p A c A' n' c' ls z w hc hl ht
    · exact piece9_no q n k p A c A' n' c' ls _ w hc hl ht
  | true =>
    unfold tkn at ht
    rw [Bool.and_eq_true, decide_eq_true_iff] at ht
    obtain ⟨N, hN, he⟩ := one1_form ht.1 ht.2
    have hNb : N ≤ 1000000 := by
      rw [hN, List.getD_eq_getElem?_getD, List.getElem?_eq_getElem (by omega)]
      exact hb _ (List.getElem_mem _)
    generalize ent ls = x at he
    subst he
    refine ⟨pcs k n N x, 0, ⟨fun q p A c A' n' c' w hc hl => encode9_any q n k p A c A' n' c' N x w hc hl hNb, fun A' n' c' w hl => encodeD9_any k n N x _ _ A' n' c' w rfl rfl h1 h2 h3 hl hNb, fun q p A c A' n' c' z w hc hl hz => ?_, fun q p A c A' n' c' i w hc hl hi => ?_⟩, .inl ⟨rfl, ofm_length _ _ _⟩⟩
    · rw [if_pos rfl]
      exact piece9_range q n k p A c A' n' c' N x z w hc hl hz
    · have e : (pcs k n N x).getD i [] = rm N fun c => (mm k (rsr k) x i c).v := by unfold pcs ofm; exact rm_getD _ _ hi
      rw [e]
      exact piece9_any q n k p A c A' n' c' N i x _ w hc hl hNb rfl hi

set_option maxRecDepth 100000 in
set_option maxHeartbeats 4000000 in
theorem encode9_walk (K N : Int) (A : Option Addr) (n c : Nat) (ls : List (List UInt8)) (z : Int) (w : World) (hl : RdL w A n c ls) (hz : (Lit.int .i64 z).wf = true) :
    Calls Try.prog 3 #[.agg #[.int .i64 K, .int .i64 N], .slice A n c, .int .i64 z] w fun e w' => e = .returned (.bool true) ∧ Kept [] w w' := by
  have HL := Lib.hid hl
  have b1 := hl.cap
  have b2 := hl.most
  unfold maxLen at b2
  have HB0 := Lib.hid (Blk.new w 23 [.int .i64 K, .int .i64 N])
  have HK0 := Lib.hid ((Kept.refl [] w).alloc (.cells #[.int .i64 K, .int .i64 N] 23))
  clear hl hz
  go_enter Try.func3, Try.ntmps3
  go_wp2_with fail
  refine (wakes9_any _).mono ?_
  rintro e w1 ⟨rfl, hk1⟩
  obtain ⟨d, hd⟩ : ∃ d, d = w.heap.size := ⟨_, rfl⟩
  have hB1 := HB0.out.kept0 hk1
  rw [← hd] at hB1 ⊢
  have HB1 := Lib.hid hB1
  have HK1 := Lib.hid (HK0.out.andThen hk1)
  clear hB1 hk1 HB0 HK0 hd
  have d0 : w1.cell? ⟨d, 0, none⟩ = some (.int .i64 K) := HB1.out.cell 0
  have d1 : w1.cell? ⟨d, 1, none⟩ = some (.int .i64 N) := HB1.out.cell 1
  go_wp2_with fail
  refine (code9_any K N _).mono ?_
  clear d0 d1
  rintro e w2 ⟨hk2, ⟨HR, rfl⟩ | rfl | ⟨k, m, q, p, Ac, cc, rfl, rfl, h1k, hkm, hk8, hm24, rfl, HC⟩⟩
  · have hB2 := HB1.out.kept0 hk2
    have HK2 := Lib.hid (HK1.out.andThen hk2)
    have HL2 := Lib.hid (HL.out.kept0 (HK1.out.andThen hk2))
    have HR' : Hid (K < 1 ∨ (1 ≤ K ∧ N < K) ∨ (1 ≤ K ∧ K ≤ N ∧ 255 < N)) := Lib.hid (by have := HR.out; unfold Rt9 at this; omega)
    have d0 : w2.cell? ⟨d, 0, none⟩ = some (.int .i64 K) := hB2.cell 0
    have d1 : w2.cell? ⟨d, 1, none⟩ = some (.int .i64 N) := hB2.cell 1
    clear hk2 hB2 HR HK1 HB1
    go_wp2_with fail
    refine (longG_any 10 60 A n c ls _ HL2.out (by omega) (by omega)).mono ?_
    rintro e w3 ⟨u, rfl, rfl, HQ⟩
    cases u with
    | true =>
      go_wp2
      go_ret
      exact ⟨rfl, HK2.out⟩
    | false =>
      go_wp2_with fail
      refine (rightD9_no _ _ _ HR'.out).mono ?_
      rintro e w4 ⟨rfl, rfl⟩
      go_wp2
      go_ret
      exact ⟨rfl, HK2.out⟩
  · have HK2 := Lib.hid (HK1.out.andThen hk2)
    clear hk2
    go_wp2
    go_ret
    exact ⟨rfl, HK2.out⟩
  · have HB2 := Lib.hid (HB1.out.kept0 hk2)
    have HK2 := Lib.hid (HK1.out.andThen hk2)
    have HL2 := Lib.hid (HL.out.kept0 (HK1.out.andThen hk2))
    have d0 : w2.cell? ⟨d, 0, none⟩ = some (.int .i64 (k : Int)) := HB2.out.cell 0
    have d1 : w2.cell? ⟨d, 1, none⟩ = some (.int .i64 (m : Int)) := HB2.out.cell 1
    clear hk2 HK1 HB1
    go_wp2_with fail
    refine (longG_any 10 60 A n c ls _ HL2.out (by omega) (by omega)).mono ?_
    rintro e w3 ⟨u, rfl, rfl, HQ⟩
    cases u with
    | true =>
      go_wp2
      go_ret
      exact ⟨rfl, HK2.out⟩
    | false =>
      obtain ⟨hn10, hb60⟩ := HQ.out rfl
      have Hbig : Hid (∀ l ∈ ls, l.length ≤ 1000000) := Lib.hid (fun l hl => by have := hb60 l hl; omega)
      clear hb60 HQ
      go_wp2_with fail
      refine (rightD9_yes _ _ _ (by omega)).mono ?_
      rintro e w4 ⟨rfl, rfl⟩
      clear d0 d1
      go_wp2_with fail
      refine (copyAll7_any A n c ls _ HL2.out (by omega) Hbig.out).mono ?_
      rintro e w5 ⟨A5, n5, c5, rfl, hr5, hk5⟩
      obtain ⟨L, E, hEn, hE⟩ := encB k m ls h1k hkm (by omega) Hbig.out
      have HE := Lib.hid hEn
      have HC5 := Lib.hid (HC.out.kept0 hk5)
      have HR5 := Lib.hid hr5
      have HB5 := Lib.hid (HB2.out.kept0 hk5)
      have HL5 := Lib.hid (HL2.out.kept0 hk5)
      have HK5 := Lib.hid (HK2.out.andThen hk5)
      have HEE := Lib.hid hE
      clear hr5 hk5 HC HB2 HL2 HK2 Hbig hEn hE
      go_wp2_with fail
      refine (HE.out.1 q p Ac cc A5 n5 c5 _ HC5.out HR5.out).mono ?_
      rintro e w6 ⟨A6, n6, c6, rfl, hr6, hk6⟩
      have HC6 := Lib.hid (HC5.out.kept0 hk6)
      have HR6 := Lib.hid (HR5.out.kept0 hk6)
      have HP6 := Lib.hid hr6
      have HB6 := Lib.hid (HB5.out.kept0 hk6)
      have HL6 := Lib.hid (HL5.out.kept0 hk6)
      have HK6 := Lib.hid (HK5.out.andThen hk6)
      have d0 : w6.cell? ⟨d, 0, none⟩ = some (.int .i64 (k : Int)) := HB6.out.cell 0
      have d1 : w6.cell? ⟨d, 1, none⟩ = some (.int .i64 (m : Int)) := HB6.out.cell 1
      clear hr6 hk6 HC5 HR5 HB5 HL5 HK5
      go_wp2_with fail
      refine (HE.out.2.1 A n c _ HL6.out).mono ?_
      rintro e w7 ⟨A7, n7, c7, rfl, hr7, hk7⟩
      have HC7 := Lib.hid (HC6.out.kept0 hk7)
      have HR7 := Lib.hid (HR6.out.kept0 hk7)
      have HP7 := Lib.hid (HP6.out.kept0 hk7)
      have HX7 := Lib.hid hr7
      have HB7 := Lib.hid (HB6.out.kept0 hk7)
      have HL7 := Lib.hid (HL6.out.kept0 hk7)
      have HK7 := Lib.hid (HK6.out.andThen hk7)
      clear hr7 hk7 HC6 HR6 HB6 HL6 HK6 HP6 d0 d1
      go_wp2_with fail
      refine (sameAll9_k _ _ _ _ _ _ L _ HP7.out HX7.out).mono ?_
      rintro e w8 ⟨rfl, hk8'⟩
      have HC8 := Lib.hid (HC7.out.kept0 hk8')
      have HR8 := Lib.hid (HR7.out.kept0 hk8')
      have HX8 := Lib.hid (HX7.out.kept0 hk8')
      have HB8 := Lib.hid (HB7.out.kept0 hk8')
      have HL8 := Lib.hid (HL7.out.kept0 hk8')
      have HK8 := Lib.hid (HK7.out.andThen hk8')
      clear hk8' HC7 HR7 HP7 HX7 HB7 HL7 HK7
      go_wp2_with fail
      refine (sameAll9_k _ _ _ _ _ _ ls _ HR8.out HL8.out).mono ?_
      rintro e w9 ⟨rfl, hk9⟩
      have HC9 := Lib.hid (HC8.out.kept0 hk9)
      have HR9 := Lib.hid (HR8.out.kept0 hk9)
      have HX9 := Lib.hid (HX8.out.kept0 hk9)
      have HB9 := Lib.hid (HB8.out.kept0 hk9)
      have HK9 := Lib.hid (HK8.out.andThen hk9)
      clear hk9 HC8 HR8 HX8 HB8 HL8 HK8
      by_cases hin : 0 ≤ z ∧ z < (m : Int)
      · obtain ⟨i, rfl⟩ : ∃ i : Nat, z = (i : Int) := ⟨z.toNat, by omega⟩
        have hi : i < m := by omega
        have p1 : (0 : Int) ≤ (i : Int) := by omega
        have p2 : (i : Int) < (m : Int) := by omega
        have HP := Lib.hid (HE.out.2.2.2 q p Ac cc A5 n5 c5 i _ HC9.out HR9.out hi)
        clear hin HE
        go_wp2_with fail
        refine HP.out.mono ?_
        rintro e wa ⟨Aa, na, ca, rfl, hra, hka⟩
        have HCa := Lib.hid (HC9.out.kept0 hka)
        have HXa := Lib.hid (HX9.out.kept0 hka)
        have HBa := Lib.hid (HB9.out.kept0 hka)
        have d1 : wa.cell? ⟨d, 1, none⟩ = some (.int .i64 (m : Int)) := HBa.out.cell 1
        have HKa := Lib.hid (HK9.out.andThen hka)
        have HOne := Lib.hid hra
        clear hra hka HP HC9 HR9 HX9 HB9 HK9
        have hKc : Kept [] wa wa.drew := (Kept.refl [] wa).drew
        rcases HEE.out with ⟨rfl, hLn⟩ | ⟨rfl, hLe⟩
        · have hn7 : m = n7 := by rw [← HXa.out.len, hLn]
          subst hn7
          have x1 := HXa.out.cap
          have x2 := HXa.out.most
          unfold maxLen at x2
          obtain ⟨bx, ox, Ax, nx, cx, lx, rfl, hbx, dx, gx, rx⟩ := HXa.out.at_ (k := i) hi
          have hlx : L.getD i [] = lx := by rw [List.getD_eq_getElem?_getD, gx]; rfl
          rw [hlx] at HOne
          have HXi := Lib.hid rx
          have SK : Hid (∀ W, Kept [] wa W → W.cell? ⟨d, 0, none⟩ = some (.int .i64 (k : Int)) ∧ W.cell? ⟨bx, ox + i, none⟩ = some (.slice Ax nx cx)) := Lib.hid (fun W hW => ⟨(HBa.out.kept0 hW).cell 0, (hW.cell (p := ⟨bx, ox + i, none⟩) hbx (by simp)).trans dx⟩)
          clear rx dx gx hlx hbx HXa
          go_wp2_with fail
          clear d1
          go_region_held3 (fun w' => w'.cell? ⟨d, 0, none⟩ = some (.int .i64 (k : Int)) ∧ w'.cell? ⟨bx, ox + i, none⟩ = some (.slice Ax nx cx))
            (first
              | exact SK.out _ hKc
              | exact SK.out _ (Kept.refl [] wa).drew
              | exact SK.out _ (Kept.refl [] wa))
            (first
              | (go_at_call 18; refine (row9_any q m k p Ac cc i _ _ (HCa.out.kept0 hKc) rfl hi).mono ?_; rintro e wb ⟨v, rfl, hvb, hkb, _⟩; obtain ⟨Av, nv, cv, rfl, hrv, _⟩ := hvb.form; have hKc := hKc.andThen hkb)
              | (go_at_call 20; refine (rowD9_any k i _ _ _ rfl rfl h1k (by omega) (by omega)).mono ?_; rintro e wd ⟨g, cp, rfl, hod, _, hkd⟩; have hKc := hKc.andThen hkd)
              | (go_at_call 19; with_reducible change Calls _ _ #[.slice Av nv cv, .slice (some ⟨g, 0, none⟩) k cp] _ _; refine (same9_k _ _ _ _ _ _ _ _ (hrv.kept0 hkd) hod.rdb).mono ?_; rintro e wf ⟨rfl, hkf⟩; have hKc := hKc.andThen hkf)
              | (go_at_call 19; with_reducible change Calls _ _ #[.slice Av nv cv, .slice (some ⟨g, 0, none⟩) k cp] _ _; refine (same9_k _ _ _ _ _ _ _ _ hrv (hod.rdb.kept0 hkb)).mono ?_; rintro e wf ⟨rfl, hkf⟩; have hKc := hKc.andThen hkf)
              | (go_at_call 19; with_reducible change Calls _ _ #[.slice Aa na ca, .slice Ax nx cx] _ _; refine (same9_k _ _ _ _ _ _ _ _ (HOne.out.kept0 hKc) (HXi.out.kept0 hKc)).mono ?_; rintro e wh ⟨rfl, hkh⟩; have hKc := hKc.andThen hkh))
          all_goals go_wp2
          all_goals go_ret
          all_goals exact ⟨rfl, HKa.out.andThen hKc⟩
        · have SK : Hid (∀ W, Kept [] wa W → W.cell? ⟨d, 0, none⟩ = some (.int .i64 (k : Int))) := Lib.hid (fun W hW => (HBa.out.kept0 hW).cell 0)
          go_wp2_with fail
          clear d1
          have hHeld := SK.out _ hKc
          refine wp_region_begin (fun w' => w'.cell? ⟨d, 0, none⟩ = some (.int .i64 (k : Int))) (by kernel_rfl) ?_
          refine held_pureD 0 115 (.pointer (some ⟨q, 0, none⟩)) rfl rfl (by kernel_rfl) (by kernel_rfl) (by kernel_rfl) rfl (fun w hS => rfl) hHeld ?_
          simp only [Act.put, List.setIfInBounds_toArray, List.set_cons_succ, List.set_cons_zero]
          refine held_pureD 1 116 (.int .i64 (i : Int)) rfl rfl (by kernel_rfl) (by kernel_rfl) (by kernel_rfl) rfl (fun w hS => rfl) hHeld ?_
          simp only [Act.put, List.setIfInBounds_toArray, List.set_cons_succ, List.set_cons_zero]
          refine held_pureD 3 118 (.pointer (some ⟨d, 0, none⟩)) rfl rfl (by kernel_rfl) (by kernel_rfl) (by kernel_rfl) rfl (fun w hS => rfl) hHeld ?_
          simp only [Act.put, List.setIfInBounds_toArray, List.set_cons_succ, List.set_cons_zero]
          refine held_pureD 4 119 (.int .i64 (k : Int)) rfl rfl (by kernel_rfl) (by kernel_rfl) (by kernel_rfl) rfl (fun w hS => (by have h0 := hS; go_simp)) hHeld ?_
          simp only [Act.put, List.setIfInBounds_toArray, List.set_cons_succ, List.set_cons_zero]
          refine held_pureD 5 120 (.int .i64 (i : Int)) rfl rfl (by kernel_rfl) (by kernel_rfl) (by kernel_rfl) rfl (fun w hS => rfl) hHeld ?_
          simp only [Act.put, List.setIfInBounds_toArray, List.set_cons_succ, List.set_cons_zero]
          refine held_one 2 (by kernel_rfl) rfl ?_
          go_wp2_with fail
          refine (row9_any q m k p Ac cc i _ _ (HCa.out.kept0 hKc) rfl hi).mono ?_
          rintro e wb ⟨v, rfl, hvb, hkb, _⟩
          obtain ⟨Av, nv, cv, rfl, hrv, _⟩ := hvb.form
          have hKc := hKc.andThen hkb
          go_wp2
          change _ ∧ wpAnyH _ _ _ _ _ _ _ _ _
          refine ⟨SK.out _ hKc, ?_⟩
          have hHeld := SK.out _ hKc
          refine held_one 6 (by kernel_rfl) rfl ?_
          go_wp2_with fail
          refine (rowD9_any k i _ _ _ rfl rfl h1k (by omega) (by omega)).mono ?_
          rintro e wd ⟨g, cp, rfl, hod, _, hkd⟩
          have hKc := hKc.andThen hkd
          go_wp2
          change _ ∧ wpAnyH _ _ _ _ _ _ _ _ _
          refine ⟨SK.out _ hKc, ?_⟩
          have hHeld := SK.out _ hKc
          refine held_one 7 (by kernel_rfl) rfl ?_
          go_wp2_with fail
          refine (same9_k _ _ _ _ _ _ _ _ (hrv.kept0 hkd) hod.rdb).mono ?_
          rintro e wf ⟨rfl, hkf⟩
          have hKc := hKc.andThen hkf
          go_wp2
          change _ ∧ wpAnyH _ _ _ _ _ _ _ _ _
          refine ⟨SK.out _ hKc, ?_⟩
          have hHeld := SK.out _ hKc
          refine held_pureD 8 123 (.bool true) rfl rfl (by kernel_rfl) (by kernel_rfl) (by kernel_rfl) rfl (fun w hS => rfl) hHeld ?_
          simp only [Act.put, List.setIfInBounds_toArray, List.set_cons_succ, List.set_cons_zero]
          refine held_pureD 9 124 (.int .i64 14) rfl rfl (by kernel_rfl) (by kernel_rfl) (by kernel_rfl) rfl (fun w hS => rfl) hHeld ?_
          simp only [Act.put, List.setIfInBounds_toArray, List.set_cons_succ, List.set_cons_zero]
          refine held_pureD 10 125 (.int .i64 14) rfl rfl (by kernel_rfl) (by kernel_rfl) (by kernel_rfl) rfl (fun w hS => rfl) hHeld ?_
          simp only [Act.put, List.setIfInBounds_toArray, List.set_cons_succ, List.set_cons_zero]
          refine held_pureD 11 126 (.bool true) rfl rfl (by kernel_rfl) (by kernel_rfl) (by kernel_rfl) rfl (fun w hS => rfl) hHeld ?_
          simp only [Act.put, List.setIfInBounds_toArray, List.set_cons_succ, List.set_cons_zero]
          refine held_pureD 12 127 (.bool true) rfl rfl (by kernel_rfl) (by kernel_rfl) (by kernel_rfl) rfl (fun w hS => rfl) hHeld ?_
          simp only [Act.put, List.setIfInBounds_toArray, List.set_cons_succ, List.set_cons_zero]
          refine held_pureD 13 128 (.bool true) rfl rfl (by kernel_rfl) (by kernel_rfl) (by kernel_rfl) rfl (fun w hS => rfl) hHeld ?_
          simp only [Act.put, List.setIfInBounds_toArray, List.set_cons_succ, List.set_cons_zero]
          refine held_pureD 14 129 (.int .i64 14) rfl rfl (by kernel_rfl) (by kernel_rfl) (by kernel_rfl) rfl (fun w hS => rfl) hHeld ?_
          simp only [Act.put, List.setIfInBounds_toArray, List.set_cons_succ, List.set_cons_zero]
          refine held_pureD 15 130 (.bool true) rfl rfl (by kernel_rfl) (by kernel_rfl) (by kernel_rfl) rfl (fun w hS => rfl) hHeld ?_
          simp only [Act.put, List.setIfInBounds_toArray, List.set_cons_succ, List.set_cons_zero]
          refine held_pureD 16 131 (.bool true) rfl rfl (by kernel_rfl) (by kernel_rfl) (by kernel_rfl) rfl (fun w hS => rfl) hHeld ?_
          simp only [Act.put, List.setIfInBounds_toArray, List.set_cons_succ, List.set_cons_zero]
          refine held_skipD 17 132 rfl rfl (by kernel_rfl) (by kernel_rfl) (by kernel_rfl) rfl hHeld ?_
          simp only [Act.put, List.setIfInBounds_toArray, List.set_cons_succ, List.set_cons_zero]
          refine held_skipD 18 133 rfl rfl (by kernel_rfl) (by kernel_rfl) (by kernel_rfl) rfl hHeld ?_
          simp only [Act.put, List.setIfInBounds_toArray, List.set_cons_succ, List.set_cons_zero]
          refine held_skipD 19 134 rfl rfl (by kernel_rfl) (by kernel_rfl) (by kernel_rfl) rfl hHeld ?_
          simp only [Act.put, List.setIfInBounds_toArray, List.set_cons_succ, List.set_cons_zero]
          refine held_skipD 20 135 rfl rfl (by kernel_rfl) (by kernel_rfl) (by kernel_rfl) rfl hHeld ?_
          simp only [Act.put, List.setIfInBounds_toArray, List.set_cons_succ, List.set_cons_zero]
          refine held_skipD 21 136 rfl rfl (by kernel_rfl) (by kernel_rfl) (by kernel_rfl) rfl hHeld ?_
          simp only [Act.put, List.setIfInBounds_toArray, List.set_cons_succ, List.set_cons_zero]
          refine held_skipD 22 137 rfl rfl (by kernel_rfl) (by kernel_rfl) (by kernel_rfl) rfl hHeld ?_
          simp only [Act.put, List.setIfInBounds_toArray, List.set_cons_succ, List.set_cons_zero]
          refine held_pureD 23 138 (.bool true) rfl rfl (by kernel_rfl) (by kernel_rfl) (by kernel_rfl) rfl (fun w hS => rfl) hHeld ?_
          simp only [Act.put, List.setIfInBounds_toArray, List.set_cons_succ, List.set_cons_zero]
          refine held_pureD 24 139 (.bool true) rfl rfl (by kernel_rfl) (by kernel_rfl) (by kernel_rfl) rfl (fun w hS => rfl) hHeld ?_
          simp only [Act.put, List.setIfInBounds_toArray, List.set_cons_succ, List.set_cons_zero]
          refine held_pureD 25 6 (.bool true) rfl rfl (by kernel_rfl) (by kernel_rfl) (by kernel_rfl) rfl (fun w hS => rfl) hHeld ?_
          simp only [Act.put, List.setIfInBounds_toArray, List.set_cons_succ, List.set_cons_zero]
          refine held_done (by kernel_rfl) ?_
          go_wp2
          go_ret
          exact ⟨rfl, HKa.out.andThen hKc⟩
      · have hout : z < 0 ∨ (0 ≤ z ∧ (m : Int) ≤ z) := by omega
        have HP := Lib.hid (HE.out.2.2.1 q p Ac cc A5 n5 c5 z _ HC9.out HR9.out hout)
        have HOut := Lib.hid hout
        clear hin hout HE
        go_wp2_with fail
        refine HP.out.mono ?_
        rintro e wa ⟨Aa, na, ca, rfl, hra, hka⟩
        obtain rfl : 0 = na := hra.len
        have HCa := Lib.hid (HC9.out.kept0 hka)
        have HBa := HB9.out.kept0 hka
        have d1 : wa.cell? ⟨d, 1, none⟩ = some (.int .i64 (m : Int)) := HBa.cell 1
        have HKa := Lib.hid (HK9.out.andThen hka)
        have hout := HOut.out
        clear hra hka HBa HP HC9 HR9 HX9 HB9 HK9 HOut
        have HRw := Lib.hid (row9_no q m k p Ac cc z wa HCa.out hout)
        rcases hout with h0 | ⟨h0, h0'⟩
        all_goals
          rcases HEE.out with ⟨rfl, _⟩ | ⟨rfl, _⟩
          all_goals
            go_wp2_with fail
            refine HRw.out.mono ?_
            rintro e wb ⟨rfl, rfl⟩
            go_wp2
            go_ret
            exact ⟨rfl, HKa.out⟩
end Go.Proofs.Ytpnpimhfakfolaa
