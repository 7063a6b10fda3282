/-
  Contracts of layer 12, the document's own: what is handed out of a list, and what is left; whether two lists are alike. No statement of the seed is proved here.
-/
import Derived.Test.YtmhigipljplgdaaDoorKd0
import Derived.BigQuiet
namespace Go.Proofs.YtmhigipljplgdaaDoor
open Go.RowKit
set_option linter.unusedVariables false

/-- Two rows of keys, and an error. -/
def SomRet (z : Int) (A : Option Addr) (ks : Ks) (w : World) (e : Ending) (w' : World) : Prop :=
  ∃ A1 n1 c1 A2 n2 c2 m, e = .returned (.tuple #[.slice A1 n1 c1, .slice A2 n2 c2, .int .i64 (somE z ks.length)]) ∧ w' = w.drewN m ∧ RdK w A1 n1 c1 (somO z ks) ∧ RdK w A2 n2 c2 (somL z ks) ∧
    (∀ S, Off A S → Off A1 S) ∧ (∀ S, Off A S → Off A2 S)

set_option maxRecDepth 100000 in
set_option maxHeartbeats 2000000 in
theorem rSm_any (z : Int) (A : Option Addr) (n c : Nat) (ks : Ks) (w : World) (hr : RdK w A n c ks) :
    Calls Tryd.prog 7 #[.slice A n c, .int .i64 z] w (SomRet z A ks w) := by
  have hl := hr.len
  have b1 := hr.cap
  have b2 := hr.most
  unfold maxLen at b2
  rcases (by omega : z < 0 ∨ (n : Int) < z ∨ (0 ≤ z ∧ z ≤ n)) with h | h | ⟨h0, h1⟩
  · have hE := somE_arg ks.length h
    have HN := Lib.hid (som_no (z := z) (ks := ks) (by rw [hE]; decide))
    have HE := Lib.hid hE
    have HR := Lib.hid hr
    clear hE hr hl
    go_enter Tryd.func7, Tryd.ntmps7
    go_wp2
    go_ret3
    rw [SomRet, HE.out, HN.out.1, HN.out.2]
    exact ⟨none, 0, 0, A, n, c, 0, rfl, rfl, RdK.nil _, HR.out, (fun S _ a ha => by cases ha), fun S h => h⟩
  · have hE := somE_few (z := z) (m := ks.length) (by omega)
    have HN := Lib.hid (som_no (z := z) (ks := ks) (by rw [hE]; decide))
    have HE := Lib.hid hE
    have HR := Lib.hid hr
    have h2 : ¬ z < 0 := by omega
    clear hE hr hl
    go_enter Tryd.func7, Tryd.ntmps7
    go_wp2
    go_ret3
    rw [SomRet, HE.out, HN.out.1, HN.out.2]
    exact ⟨none, 0, 0, A, n, c, 0, rfl, rfl, RdK.nil _, HR.out, (fun S _ a ha => by cases ha), fun S h => h⟩
  · obtain ⟨k, rfl⟩ := Int.eq_ofNat_of_zero_le h0
    have hk : k ≤ n := by omega
    have HE := Lib.hid (somE_ok (k := k) (m := ks.length) (by omega))
    have HN := Lib.hid (som_ok (k := k) (ks := ks) (by omega))
    obtain ⟨hr1, q1⟩ := hr.cutTo k (k : Int) rfl hk
    obtain ⟨A2, hr2, o2, q2⟩ := hr.cutFrom k (k : Int) rfl hk
    obtain ⟨n2, hn2⟩ : ∃ n2, n - k = n2 := ⟨_, rfl⟩
    obtain ⟨c2, hc2⟩ : ∃ c2, c - k = c2 := ⟨_, rfl⟩
    rw [hn2, hc2] at hr2 q2
    have H1 := Lib.hid hr1
    have H2 := Lib.hid hr2
    have HO := Lib.hid o2
    clear hr hr1 hr2 o2 hn2 hc2 hl
    go_enter Tryd.func7, Tryd.ntmps7
    go_wp2
    go_quiet (fail)
    go_wp2
    go_ret3
    rw [SomRet, HE.out, HN.out.1, HN.out.2]
    exact ⟨A, k, c, A2, n2, c2, nq, rfl, rfl, H1.out, H2.out, fun S h => h, HO.out⟩
end Go.Proofs.YtmhigipljplgdaaDoor
