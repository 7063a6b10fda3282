/-
  Walk of layer 9's law RsDecode. No statement of the seed is proved here.
-/
import Derived.Test.YtpnpimhfakfolaaLaw9c
namespace Go.Proofs.Ytpnpimhfakfolaa
open Go.RowKit
set_option linter.unusedVariables false

theorem intInfo9 : (Try.prog.info? 3).map (fun i => (i.zero, i.size, i.bytes)) = some (some (.int .i64 0), 1, 8) := by kernel_rfl
/-- What any pieces are answered: by the program, by the document. -/
def DecB (k n m : Nat) (f : Nat → Int) (ls L : List (List UInt8)) (B : Nat → List UInt8) (E : Int) : Prop :=
  (∀ (q p : Nat) (A : Option Addr) (c : Nat) (A1 : Option Addr) (c1 : Nat) (A2 : Option Addr) (n2 c2 : Nat) (w : World), CodeAt w q n k p A c → RdI w A1 m c1 f → RdL w A2 n2 c2 ls → Calls Try.prog 21 #[.pointer (some ⟨q, 0, none⟩), .slice A1 m c1, .slice A2 n2 c2] w (LRet2 L E w)) ∧
  (∀ (A1 : Option Addr) (c1 : Nat) (A2 : Option Addr) (n2 c2 : Nat) (w : World), RdI w A1 m c1 f → RdL w A2 n2 c2 ls → Calls Try.prog 22 #[.int .i64 (k : Int), .int .i64 (n : Int), .slice A1 m c1, .slice A2 n2 c2] w (LRet2 L E w)) ∧
  (∀ (q p : Nat) (A : Option Addr) (c : Nat) (A1 : Option Addr) (c1 : Nat) (A2 : Option Addr) (n2 c2 i : Nat) (w : World), CodeAt w q n k p A c → RdI w A1 m c1 f → RdL w A2 n2 c2 ls → i < n → Calls Try.prog 23 #[.pointer (some ⟨q, 0, none⟩), .slice A1 m c1, .slice A2 n2 c2, .int .i64 (i : Int)] w (SumRet (B i) E w)) ∧
  (∀ (A1 : Option Addr) (c1 : Nat) (A2 : Option Addr) (n2 c2 i : Nat) (w : World), RdI w A1 m c1 f → RdL w A2 n2 c2 ls → i < n → Calls Try.prog 24 #[.int .i64 (k : Int), .int .i64 (n : Int), .slice A1 m c1, .slice A2 n2 c2, .int .i64 (i : Int)] w (SumRet (B i) E w))
theorem decB_err (k n m : Nat) (f : Nat → Int) (ls : List (List UInt8)) (E : Int) (hE : E ≠ 0)
    (hb : ∀ (q p : Nat) (A : Option Addr) (c : Nat) (A1 : Option Addr) (c1 : Nat) (A2 : Option Addr) (n2 c2 : Nat) (w : World), CodeAt w q n k p A c → RdI w A1 m c1 f → RdL w A2 n2 c2 ls → Calls Try.prog 35 #[.pointer (some ⟨q, 0, none⟩), .slice A1 m c1, .slice A2 n2 c2] w (LRet2 [] E w))
    (hw : ∀ (A1 : Option Addr) (c1 : Nat) (A2 : Option Addr) (n2 c2 : Nat) (w : World), RdI w A1 m c1 f → RdL w A2 n2 c2 ls → Calls Try.prog 36 #[.int .i64 (k : Int), .int .i64 (n : Int), .slice A1 m c1, .slice A2 n2 c2] w fun e w' => e = .returned (.int .i64 E) ∧ Kept [] w w') : DecB k n m f ls [] (fun _ => []) E :=
  ⟨fun q p A c A1 c1 A2 n2 c2 w hc hi hl => decode9_err q m c1 n2 c2 A1 A2 E w (hb q p A c A1 c1 A2 n2 c2 w hc hi hl) hE,
   fun A1 c1 A2 n2 c2 w hi hl => decodeD9_err E _ _ A1 m c1 A2 n2 c2 w (hw A1 c1 A2 n2 c2 w hi hl) hE,
   fun q p A c A1 c1 A2 n2 c2 i w hc hi hl hin => again9_err q n k p A c A1 m c1 A2 n2 c2 i _ E w hc rfl hin (hb q p A c A1 c1 A2 n2 c2 w hc hi hl) hE,
   fun A1 c1 A2 n2 c2 i w hi hl hin => againD9_err E n i _ _ _ A1 m c1 A2 n2 c2 w rfl rfl hin (decodeD9_err E _ _ A1 m c1 A2 n2 c2 w (hw A1 c1 A2 n2 c2 w hi hl) hE) hE⟩
theorem decB (k n m : Nat) (f : Nat → Int) (ls : List (List UInt8)) (h1 : 1 ≤ k) (h2 : k ≤ n) (h3 : n ≤ 255) (hb : ∀ l ∈ ls, l.length ≤ 1000000) : ∃ L B E, DecB k n m f ls L B E := by
  by_cases ha : m = ls.length ∧ one1 ls = true
  · obtain ⟨hm, hone⟩ := ha
    by_cases hu : unlP n m f
    · by_cases hk : k ≤ m
      · obtain ⟨sel, hf, hd⟩ := hu.sel
        obtain ⟨V, hV⟩ := back_exists h2 h3 (fun t ht => (hf t (by omega)).2) (fun t ht u hu hne => hd t (by omega) u (by omega) hne)
        obtain ⟨N, hN, he⟩ := one1_form hm.symm hone
        have hNb : N ≤ 1000000 := by
          rw [hN, List.getD_eq_getElem?_getD, List.getElem?_eq_getElem (by omega)]
          exact hb _ (List.getElem_mem _)
        generalize ent ls = x at he
        subst he
        refine ⟨ofm k N (mm k V x), fun i => rm N fun c => (mm k (rsr k) (mm k V x) i c).v, 0, fun q p A c A1 c1 A2 n2 c2 w hc hi hl => ?_, fun A1 c1 A2 n2 c2 w hi hl => ?_, fun q p A c A1 c1 A2 n2 c2 i w hc hi hl hin => ?_, fun A1 c1 A2 n2 c2 i w hi hl hin => ?_⟩
        · obtain rfl : m = n2 := by have := hl.len; rw [ofm_length] at this; exact this
          exact decode9_any q n k p A c A1 m c1 f sel V A2 c2 N x w hc hi hl hNb hu hk hf hV
        · obtain rfl : m = n2 := by have := hl.len; rw [ofm_length] at this; exact this
          exact decodeD9_any k n N _ _ A1 m c1 f sel V A2 c2 x w rfl rfl h1 h2 h3 hk hNb hi hu hf hV hl
        · obtain rfl : m = n2 := by have := hl.len; rw [ofm_length] at this; exact this
          exact again9_any q n k p A c A1 m c1 f sel V A2 c2 N x i _ w hc rfl hin hi hl hNb hu hk hf hV
        · obtain rfl : m = n2 := by have := hl.len; rw [ofm_length] at this; exact this
          exact againD9_any k n N i _ _ _ A1 m c1 f sel V A2 c2 x w rfl rfl rfl hin h1 h2 h3 hk hNb hi hu hf hV hl
      · refine ⟨[], fun _ => [], 10, decB_err k n m f ls 10 (by decide) (fun q p A c A1 c1 A2 n2 c2 w hc hi hl => ?_) (fun A1 c1 A2 n2 c2 w hi hl => ?_)⟩
        · obtain rfl : m = n2 := by rw [hm]; exact hl.len
          exact back9_few q n k p A c A1 m c1 f A2 c2 ls w hc hi hl hone hu (by omega)
        · obtain rfl : m = n2 := by rw [hm]; exact hl.len
          refine (wrong9_any k n _ _ A1 m c1 f A2 c2 ls w rfl rfl h3 (by omega) hi hl hone).mono ?_
          rintro e w' ⟨E, rfl, hk', HE⟩
          refine ⟨?_, hk'⟩
          rcases HE.out with ⟨h, _⟩ | ⟨_, _, rfl⟩ | ⟨_, h, _⟩
          · exact absurd hu h
          · rfl
          · omega
    · refine ⟨[], fun _ => [], 3, decB_err k n m f ls 3 (by decide) (fun q p A c A1 c1 A2 n2 c2 w hc hi hl => ?_) (fun A1 c1 A2 n2 c2 w hi hl => ?_)⟩
      · obtain rfl : m = n2 := by rw [hm]; exact hl.len
        exact back9_range q n k p A c A1 m c1 f A2 c2 ls w hc hi hl hone hu
      · obtain rfl : m = n2 := by rw [hm]; exact hl.len
        refine (wrong9_any k n _ _ A1 m c1 f A2 c2 ls w rfl rfl h3 (by omega) hi hl hone).mono ?_
        rintro e w' ⟨E, rfl, hk', HE⟩
        refine ⟨?_, hk'⟩
        rcases HE.out with ⟨_, rfl⟩ | ⟨h, _⟩ | ⟨h, _⟩
        · rfl
        · exact absurd h hu
        · exact absurd h hu
  · have ha' : m ≠ ls.length ∨ one1 ls = false := by
      by_cases hm : m = ls.length
      · right
        cases h : one1 ls with
        | false => rfl
        | true => exact absurd ⟨hm, h⟩ ha
      · exact .inl hm
    refine ⟨[], fun _ => [], 14, decB_err k n m f ls 14 (by decide) (fun q p A c A1 c1 A2 n2 c2 w hc hi hl => ?_) (fun A1 c1 A2 n2 c2 w hi hl => ?_)⟩
    · exact back9_arg q n k p A c A1 m c1 A2 n2 c2 ls w hl (by rw [hl.len] at ha'; exact ha')
    · exact wrong9_arg _ _ A1 m c1 A2 n2 c2 ls w hl (by rw [hl.len] at ha'; exact ha')
/-- One piece more, whichever is wanted. -/
theorem againB {k n m : Nat} {f : Nat → Int} {ls L : List (List UInt8)} {B : Nat → List UInt8} {E : Int} (h : DecB k n m f ls L B E) (z : Int) : ∃ bs E',
    Hid (∀ (q p : Nat) (A : Option Addr) (c : Nat) (A1 : Option Addr) (c1 : Nat) (A2 : Option Addr) (n2 c2 : Nat) (w : World), CodeAt w q n k p A c → RdI w A1 m c1 f → RdL w A2 n2 c2 ls → Calls Try.prog 23 #[.pointer (some ⟨q, 0, none⟩), .slice A1 m c1, .slice A2 n2 c2, .int .i64 z] w (SumRet bs E' w)) ∧
    Hid (∀ (A1 : Option Addr) (c1 : Nat) (A2 : Option Addr) (n2 c2 : Nat) (w : World), RdI w A1 m c1 f → RdL w A2 n2 c2 ls → Calls Try.prog 24 #[.int .i64 (k : Int), .int .i64 (n : Int), .slice A1 m c1, .slice A2 n2 c2, .int .i64 z] w (SumRet bs E' w)) := by
  by_cases hin : 0 ≤ z ∧ z < (n : Int)
  · obtain ⟨i, rfl⟩ : ∃ i : Nat, z = (i : Int) := ⟨z.toNat, by omega⟩
    exact ⟨B i, E, Lib.hid (fun q p A c A1 c1 A2 n2 c2 w hc hi hl => h.2.2.1 q p A c A1 c1 A2 n2 c2 i w hc hi hl (by omega)), Lib.hid (fun A1 c1 A2 n2 c2 w hi hl => h.2.2.2 A1 c1 A2 n2 c2 i w hi hl (by omega))⟩
  · have hout : z < 0 ∨ (0 ≤ z ∧ (n : Int) ≤ z) := by omega
    exact ⟨[], 3, Lib.hid (fun q p A c A1 c1 A2 n2 c2 w hc hi hl => again9_range q n k p A c A1 m c1 A2 n2 c2 z w hc hout), Lib.hid (fun A1 c1 A2 n2 c2 w hi hl => againD9_range n _ _ z A1 m c1 A2 n2 c2 w rfl hout)⟩

set_option maxRecDepth 100000 in
set_option maxHeartbeats 4000000 in
theorem decode9_walk (K N : Int) (A : Option Addr) (n c : Nat) (f : Nat → Int) (A' : Option Addr) (n' c' : Nat) (ls : List (List UInt8)) (w : World) (hi : RdI w A n c f) (hl : RdL w A' n' c' ls) :
    Calls Try.prog 4 #[.agg #[.int .i64 K, .int .i64 N], .slice A n c, .slice A' n' c'] w fun e w' => e = .returned (.bool true) ∧ Kept [] w w' := by
  have HI := Lib.hid hi
  have HL := Lib.hid hl
  have b1 := hl.cap
  have b2 := hl.most
  have b3 := RdV.cap hi
  have b4 := RdV.most hi
  unfold maxLen at b2 b4
  have HB0 := Lib.hid (Blk.new w 23 [.int .i64 K, .int .i64 N])
  have HK0 := Lib.hid ((Kept.refl [] w).alloc (.cells #[.int .i64 K, .int .i64 N] 23))
  obtain ⟨i1, hj0, hy0, hy1, hy2⟩ := info_parts intInfo9
  clear hi hl
  go_enter Try.func4, Try.ntmps4
  go_wp2_with fail
  refine (wakes9_any _).mono ?_
  rintro e w1 ⟨rfl, hk1⟩
  obtain ⟨d, hd⟩ : ∃ d, d = w.heap.size := ⟨_, rfl⟩
  have hB1 := HB0.out.kept0 hk1
  rw [← hd] at hB1 ⊢
  have HB1 := Lib.hid hB1
  have HK1 := Lib.hid (HK0.out.andThen hk1)
  clear hB1 hk1 HB0 HK0 hd
  have d0 : w1.cell? ⟨d, 0, none⟩ = some (.int .i64 K) := HB1.out.cell 0
  have d1 : w1.cell? ⟨d, 1, none⟩ = some (.int .i64 N) := HB1.out.cell 1
  go_wp2_with fail
  refine (code9_any K N _).mono ?_
  clear d0 d1
  rintro e w2 ⟨hk2, ⟨HR, rfl⟩ | rfl | ⟨k, m, q, p, Ac, cc, rfl, rfl, h1k, hkm, hk8, hm24, rfl, HC⟩⟩
  · have hB2 := HB1.out.kept0 hk2
    have HK2 := Lib.hid (HK1.out.andThen hk2)
    have HR' : Hid (K < 1 ∨ (1 ≤ K ∧ N < K) ∨ (1 ≤ K ∧ K ≤ N ∧ 255 < N)) := Lib.hid (by have := HR.out; unfold Rt9 at this; omega)
    have d0 : w2.cell? ⟨d, 0, none⟩ = some (.int .i64 K) := hB2.cell 0
    have d1 : w2.cell? ⟨d, 1, none⟩ = some (.int .i64 N) := hB2.cell 1
    clear hk2 hB2 HR HK1 HB1
    go_wp2_with fail
    refine (rightD9_no _ _ _ HR'.out).mono ?_
    rintro e w4 ⟨rfl, rfl⟩
    go_wp2
    go_ret
    exact ⟨rfl, HK2.out⟩
  · have HK2 := Lib.hid (HK1.out.andThen hk2)
    clear hk2
    go_wp2
    go_ret
    exact ⟨rfl, HK2.out⟩
  · have HB2 := Lib.hid (HB1.out.kept0 hk2)
    have HK2 := Lib.hid (HK1.out.andThen hk2)
    have HL2 := Lib.hid (HL.out.kept0 (HK1.out.andThen hk2))
    have HI2 := Lib.hid (HI.out.kept0 (HK1.out.andThen hk2))
    have d0 : w2.cell? ⟨d, 0, none⟩ = some (.int .i64 (k : Int)) := HB2.out.cell 0
    have d1 : w2.cell? ⟨d, 1, none⟩ = some (.int .i64 (m : Int)) := HB2.out.cell 1
    clear hk2 HK1 HB1 HL HI
    go_wp2_with fail
    refine (rightD9_yes _ _ _ (by omega)).mono ?_
    rintro e w4 ⟨rfl, rfl⟩
    go_wp2_with fail
    refine (longG_any 24 40 A' n' c' ls _ HL2.out (by omega) (by omega)).mono ?_
    rintro e w3 ⟨u, rfl, rfl, HQ⟩
    cases u with
    | true =>
      go_wp2
      go_ret
      exact ⟨rfl, HK2.out⟩
    | false =>
      obtain ⟨hn24, hb40⟩ := HQ.out rfl
      by_cases hn30 : 30 < n
      · clear hb40 HQ
        go_wp2
        go_ret
        exact ⟨rfl, HK2.out⟩
      · have Hbig : Hid (∀ l ∈ ls, l.length ≤ 1000000) := Lib.hid (fun l hl => by have := hb40 l hl; omega)
        clear hb40 HQ
        clear d0 d1
        go_wp2_with fail
        refine (copyAll7_any A' n' c' ls _ HL2.out (by omega) Hbig.out).mono ?_
        rintro e w5 ⟨A5, n5, c5, rfl, hr5, hk5⟩
        obtain ⟨L, B, E, hD⟩ := decB k m n f ls h1k hkm (by omega) Hbig.out
        have HD := Lib.hid hD
        have HC5 := Lib.hid (HC.out.kept0 hk5)
        have HR5 := Lib.hid hr5
        have HB5 := Lib.hid (HB2.out.kept0 hk5)
        have HL5 := Lib.hid (HL2.out.kept0 hk5)
        have HI5 := Lib.hid (HI2.out.kept0 hk5)
        have HK5 := Lib.hid (HK2.out.andThen hk5)
        have HE5 := Lib.hid (OwV.empty 3 w5)
        have HA5 := Lib.hid ((Kept.refl [] w5).alloc (.cells #[] 3))
        have HV5 : Hid (RdV (w5.alloc (.cells #[] 3)) A n c (rm n fun i => .int .i64 (f i))) := Lib.hid (HI5.out.kept0 HA5.out)
        clear hr5 hk5 HC HB2 HL2 HI2 HK2 Hbig hD
        go_wp2_with (at_builtin; refine wpList_append_vals rfl (.tmp 51) (.tmp 52) 45 rfl 3 i1 _ 8 Try.underlying45 hj0 hy0 hy1 hy2 rfl (.slice (some ⟨w5.heap.size, 0, none⟩) 0 0) [] rfl HE5.out A n c (rm n fun i => .int .i64 (f i)) rfl HV5.out (fun u hu => by unfold rm at hu; simp only [List.mem_map] at hu; obtain ⟨j, _, rfl⟩ := hu; rfl) (by simp only [maxLen, List.length_nil]; omega) (by simp only [List.length_nil]; omega) ?_)
        intro v6 w6 ho6 hk6 hm6
        obtain ⟨A6, n6, c6, rfl, hr6, _⟩ := ho6.form
        obtain rfl : n = n6 := by have := hr6.len; rw [rm_length] at this; exact this
        have hk6' : Kept [] w5 w6 := HA5.out.trans hk6 (by simp [Value.ownBlock])
        have HI6 : Hid (RdI w6 A6 n c6 f) := Lib.hid (by unfold RdI; simpa using hr6)
        have HC6 := Lib.hid (HC5.out.kept0 hk6')
        have HR6 := Lib.hid (HR5.out.kept0 hk6')
        have HB6 := Lib.hid (HB5.out.kept0 hk6')
        have HL6 := Lib.hid (HL5.out.kept0 hk6')
        have HJ6 := Lib.hid (HI5.out.kept0 hk6')
        have HK6 := Lib.hid (HK5.out.andThen hk6')
        clear ho6 hk6 hm6 hr6 hk6' HE5 HA5 HV5 HC5 HR5 HB5 HL5 HI5 HK5
        go_wp2_with fail
        refine (HD.out.1 q p Ac cc A6 c6 A5 n5 c5 _ HC6.out HI6.out HR6.out).mono ?_
        rintro e w7 ⟨A7, n7, c7, rfl, hr7, hk7⟩
        have HP7 := Lib.hid hr7
        have HC7 := Lib.hid (HC6.out.kept0 hk7)
        have HR7 := Lib.hid (HR6.out.kept0 hk7)
        have HB7 := Lib.hid (HB6.out.kept0 hk7)
        have HL7 := Lib.hid (HL6.out.kept0 hk7)
        have HJ7 := Lib.hid (HJ6.out.kept0 hk7)
        have HK7 := Lib.hid (HK6.out.andThen hk7)
        have d0 : w7.cell? ⟨d, 0, none⟩ = some (.int .i64 (k : Int)) := HB7.out.cell 0
        have d1 : w7.cell? ⟨d, 1, none⟩ = some (.int .i64 (m : Int)) := HB7.out.cell 1
        clear hr7 hk7 HC6 HR6 HB6 HL6 HJ6 HK6 HI6
        go_wp2_with fail
        refine (HD.out.2.1 A c A' n' c' _ HJ7.out HL7.out).mono ?_
        rintro e w8 ⟨A8, n8, c8, rfl, hr8, hk8'⟩
        have HP8 := Lib.hid (HP7.out.kept0 hk8')
        have HX8 := Lib.hid hr8
        have HC8 := Lib.hid (HC7.out.kept0 hk8')
        have HR8 := Lib.hid (HR7.out.kept0 hk8')
        have HB8 := Lib.hid (HB7.out.kept0 hk8')
        have HL8 := Lib.hid (HL7.out.kept0 hk8')
        have HJ8 := Lib.hid (HJ7.out.kept0 hk8')
        have HK8 := Lib.hid (HK7.out.andThen hk8')
        clear d0 d1 hr8 hk8' HP7 HC7 HR7 HB7 HL7 HJ7 HK7
        go_wp2_with fail
        refine (sameAll9_k _ _ _ _ _ _ L _ HP8.out HX8.out).mono ?_
        rintro e w9 ⟨rfl, hk9⟩
        have HC9 := Lib.hid (HC8.out.kept0 hk9)
        have HR9 := Lib.hid (HR8.out.kept0 hk9)
        have HB9 := Lib.hid (HB8.out.kept0 hk9)
        have HL9 := Lib.hid (HL8.out.kept0 hk9)
        have HJ9 := Lib.hid (HJ8.out.kept0 hk9)
        have HK9 := Lib.hid (HK8.out.andThen hk9)
        clear hk9 HP8 HX8 HC8 HR8 HB8 HL8 HJ8 HK8
        go_wp2_with fail
        refine (sameAll9_k _ _ _ _ _ _ ls _ HR9.out HL9.out).mono ?_
        rintro e wa ⟨rfl, hka⟩
        have HCa := Lib.hid (HC9.out.kept0 hka)
        have HBa := Lib.hid (HB9.out.kept0 hka)
        have HLa := Lib.hid (HL9.out.kept0 hka)
        have HJa := Lib.hid (HJ9.out.kept0 hka)
        have HKa := Lib.hid (HK9.out.andThen hka)
        clear hka HR9 HC9 HB9 HL9 HJ9 HK9
        obtain ⟨h, hh⟩ : ∃ h : Nat, h = m / 2 := ⟨_, rfl⟩
        have hq1 : (m : Int).tdiv 2 = (h : Int) := by rw [Int.tdiv_eq_ediv_of_nonneg (by omega)]; omega
        have hq2 : (m : Int) / 2 = (h : Int) := by omega
        have hh12 : h ≤ 12 := by omega
        clear hh
        go_wp2
        go_loopw [15] (fun v wr => ∃ z : Int, -1 ≤ z ∧ z ≤ 40 ∧ v = .int .i64 z ∧ Hid (Kept [] wa wr)) (fun v _ => ((m : Int) + 1 - intOf v).toNat)
        case atStart => exact ⟨-1, by omega, by omega, rfl, Lib.hid (Kept.refl _ _)⟩
        case round =>
          obtain ⟨z, hz1, hz2, rfl, HK⟩ := hrel
          have d1 : wr.cell? ⟨d, 1, none⟩ = some (.int .i64 (m : Int)) := (HBa.out.kept0 HK.out).cell 1
          have d0 : wr.cell? ⟨d, 0, none⟩ = some (.int .i64 (k : Int)) := (HBa.out.kept0 HK.out).cell 0
          by_cases hzm : z ≤ (m : Int)
          · obtain ⟨bs, E', HG1, HG2⟩ := againB HD.out z
            go_wp2_with fail
            refine (HG1.out q p Ac cc A c A' n' c' _ (HCa.out.kept0 HK.out) (HJa.out.kept0 HK.out) (HLa.out.kept0 HK.out)).mono ?_
            rintro e wb ⟨Ab, nb, cb, rfl, hrb, hkb⟩
            have HKb := Lib.hid (HK.out.andThen hkb)
            have HRb := Lib.hid hrb
            clear hrb hkb HK d0 d1
            have d0 : wb.cell? ⟨d, 0, none⟩ = some (.int .i64 (k : Int)) := (HBa.out.kept0 HKb.out).cell 0
            have d1 : wb.cell? ⟨d, 1, none⟩ = some (.int .i64 (m : Int)) := (HBa.out.kept0 HKb.out).cell 1
            go_wp2_with fail
            refine (HG2.out A c A' n' c' _ (HJa.out.kept0 HKb.out) (HLa.out.kept0 HKb.out)).mono ?_
            rintro e wd ⟨Ad, nd, cd, rfl, hrd, hkd⟩
            have HKd := Lib.hid (HKb.out.andThen hkd)
            have HS := Lib.hid (same9_k _ _ _ _ _ _ bs wd (HRb.out.kept0 hkd) hrd)
            clear d0 d1 hrd hkd HKb HRb
            go_wp2_with fail
            refine HS.out.mono ?_
            rintro e we ⟨rfl, hke⟩
            have HKe := Lib.hid (HKd.out.andThen hke)
            clear hke HKd HS
            have d1 : we.cell? ⟨d, 1, none⟩ = some (.int .i64 (m : Int)) := (HBa.out.kept0 HKe.out).cell 1
            go_wp2
            go_roundw
            case rel => exact ⟨z + (1 + (h : Int)), by omega, by omega, by go_num, HKe⟩
            case measure => simp [intOf]; omega
          · go_wp2
            go_ret
            exact ⟨rfl, HKa.out.andThen HK.out⟩
end Go.Proofs.Ytpnpimhfakfolaa
