/-
  The walk of lay.
-/
import Derived.Test.YtehbcchebbodlabDoorPut
namespace Go.Proofs.YtehbcchebbodlabDoor
open Go.RowKit

def layPg (s : St) (first : Nat) (sz : Int) (at' : Bool) : Nat → St
  | 0 => s
  | j + 1 => (layPg s first sz at' j).setPg (first + j) sz at' j
def layWd (s : St) (w0 : Nat) : Nat → St
  | 0 => s
  | j + 1 => (layWd s w0 j).setWd (w0 + j) 0
/-- The heap behind lay. -/
def laid (s : St) (w0 sz : Nat) (at' : Bool) : St := (layWd (layPg s (w0 / 32) sz at' ((sz + 31) / 32)) w0 sz).setBg w0 true

theorem layPg_n (s : St) (first : Nat) (sz : Int) (at' : Bool) (j : Nat) : (layPg s first sz at' j).n = s.n := by
  induction j with
  | zero => rfl
  | succ j ih => simpa [layPg, St.setPg] using ih
theorem layWd_n (s : St) (w0 j : Nat) : (layWd s w0 j).n = s.n := by
  induction j with
  | zero => rfl
  | succ j ih => simpa [layWd, St.setWd] using ih

set_option maxHeartbeats 800000 in
theorem lay_any (L : Lay) (s : St) (w0 sz : Nat) (at' : Bool) (w : World) (R : Rep w L s) (h1 : 1 ≤ sz) (h3 : w0 / 32 + (sz + 31) / 32 ≤ s.n) (h4 : w0 + sz ≤ s.n * 32) :
    Calls Tryd.prog 18 #[.pointer (some ⟨L.h, 0, none⟩), .int .i64 w0, .int .i64 sz, .bool at'] w fun e w' => e = .returned (.tuple #[]) ∧ Rep w' L (laid s w0 sz at') ∧ Keeps L w w' := by
  have n2 := R.n2
  have RR := hide R
  clear R
  go_enter Tryd.func18, Tryd.ntmps18
  go_wp2
  go_loopw [9] (fun i wr => ∃ k : Nat, k ≤ (sz + 31) / 32 ∧ i = .int .i64 k ∧ Hid (Rep wr L (layPg s (w0 / 32) sz at' k)) ∧ Hid (Keeps L w wr)) (fun i _ => 50 - (intOf i).toNat)
  case atStart => exact ⟨0, by omega, rfl, RR, hide (Keeps.refl _ _)⟩
  case round =>
    obtain ⟨k, hk, rfl, R', K'⟩ := hrel
    have en := layPg_n s (w0 / 32) sz at' k
    by_cases hlt : k < (sz + 31) / 32
    · have fp := (unhide R').fp
      have ps := (unhide R').ps (w0 / 32 + k) (by omega)
      have pa := (unhide R').pa (w0 / 32 + k) (by omega)
      have pk := (unhide R').pk (w0 / 32 + k) (by omega)
      have pz := (unhide R').pz
      rw [en] at fp
      clear en
      go_wp2
      go_roundw
      case rel => exact ⟨k + 1, by omega, by go_num, hide ((unhide R').setPg (w0 / 32 + k) sz at' k (by rw [layPg_n]; omega)), hide ((((unhide K').set _ (.inl rfl)).set _ (.inl rfl)).set _ (.inl rfl))⟩
      case measure => simp [intOf]; omega
    · obtain rfl : k = (sz + 31) / 32 := by omega
      generalize hs1 : layPg s (w0 / 32) sz at' ((sz + 31) / 32) = s1 at R' en
      have HS1 := hide hs1
      clear hs1 RR
      go_wp2
      go_loopw [10] (fun i wr => ∃ k : Nat, k ≤ sz ∧ i = .int .i64 k ∧ Hid (Rep wr L (layWd s1 w0 k)) ∧ Hid (Keeps L w wr)) (fun i _ => 2000 - (intOf i).toNat)
      case atStart => exact ⟨0, by omega, rfl, R', K'⟩
      case round =>
        obtain ⟨k, hk, rfl, R', K'⟩ := hrel
        have en1 := layWd_n s1 w0 k
        rw [en] at en1
        have fw := (unhide R').fw
        have fb := (unhide R').fb
        have wz := (unhide R').wz
        have bz := (unhide R').bz
        rw [en1] at fw fb
        by_cases hlt : k < sz
        · have ws := (unhide R').ws (w0 + k) (by omega)
          clear en1 en
          go_wp2
          go_roundw
          case rel => exact ⟨k + 1, by omega, by go_num, hide ((unhide R').setWd (w0 + k) 0 (by rw [layWd_n, ← HS1.out, layPg_n]; omega)), hide ((unhide K').set _ (.inr (.inl rfl)))⟩
          case measure => simp [intOf]; omega
        · obtain rfl : k = sz := by omega
          have bs := (unhide R').bs w0 (by omega)
          clear en1 en
          go_wp2
          go_end0
          refine ⟨rfl, ?_, (unhide K').set _ (.inr (.inr rfl))⟩
          have := (unhide R').setBg w0 true (by rw [layWd_n, ← HS1.out, layPg_n]; omega)
          rw [← HS1.out] at this
          exact this
end Go.Proofs.YtehbcchebbodlabDoor
