/-
  The heap's tables seen as the model's objects: room, a new object, one dropped.
-/
import Derived.Test.YtgegkcjllliifabDoorAbs
namespace Go.Proofs.YtgegkcjllliifabDoor
open Go.RowKit

theorem page_adr (s : St) (kept k : Nat) (hk : k < s.n * 32) : (absM s kept).page (adr k) = ((k / 32 : Nat) : Int) := by
  unfold Mo.page
  rw [if_pos (by simp only [absM, adr]; omega)]
  unfold adr
  omega
/-- Where an object begins, the page is held. -/
theorem held_beg {s : St} (h : WF s) {k : Nat} (hk : s.beg k = true) : s.held (k / 32) = true := by
  obtain ⟨b1, b2, _⟩ := h.bg k hk
  exact (held_iff h (by omega)).2 ⟨k, hk, Nat.le_refl _, by omega⟩
/-- What lies at a word's address lies on its page. -/
theorem at_held {s : St} (h : WF s) {k j : Nat} (hk : k < s.n * 32) (ha : s.at (adr k) = some j) : s.held (k / 32) = true := by
  obtain ⟨hb, hl⟩ := (at_iff h).1 ha
  obtain ⟨b1, b2, b3, b4⟩ := h.bg j hb
  unfold St.lies adr at hl
  exact (held_iff h (by omega)).2 ⟨j, hb, by omega, by omega⟩
theorem at_slot {s : St} {k sz : Nat} (hk : k < s.n * 32) (hz : s.size (k / 32) = (sz : Int)) (h1 : 1 ≤ sz) (h16 : sz ≤ 16) (hm : k % 32 % sz = 0) : s.at (adr k) = if s.beg k then some k else none := by
  unfold St.at adr
  rw [if_pos (by omega), show ((1048576 + (k : Int) * 8 - 1048576) / 8).toNat = k by omega]
  have ef : firstOf s k = k := by
    unfold firstOf
    rw [hz, if_pos (by omega), show ((sz : Int)).toNat = sz by omega, hm, Nat.sub_zero]
  unfold St.obj
  rw [ef, hz, if_neg (by omega)]

theorem fits_place {s : St} (h : WF s) (kept : Nat) {sz k : Nat} {at' : Bool} (z1 : 1 ≤ sz) (zg : 16 < sz → sz % 32 = 0) (hp : s.place sz at' = some k) : (absM s kept).fits (adr k) sz at' = true ∧ k < s.n * 32 := by
  rcases place_some z1 hp with ⟨p, b⟩ | ⟨⟨F, a⟩, _⟩
  · obtain ⟨i, ek, hi, hb, _⟩ := b.pos
    have hlt := b.lt
    have hs16 := b.sz16
    have hk : k < s.n * 32 := by omega
    have ep : k / 32 = p := by omega
    refine ⟨?_, hk⟩
    unfold Mo.fits
    rw [page_adr s kept k hk, if_neg (by omega), if_neg (by omega), Int.toNat_natCast, ep]
    have e0 : adr k - 1048576 - (p : Int) * 256 = (i : Int) * (8 * (sz : Int)) := by
      have : (k : Int) = p * 32 + i * sz := by rw [ek]; simp
      unfold adr
      rw [this, show (i : Int) * (8 * (sz : Int)) = 8 * (i * sz) by rw [← Int.mul_assoc, Int.mul_comm (i : Int) 8, Int.mul_assoc]]
      omega
    rcases on_cases h kept hlt with ⟨e1, _⟩ | ⟨_, e2, e3, e4⟩
    · rw [b.held] at e1; cases e1
    · have hat : s.at (adr k) = none := by
        rw [at_slot hk (by rw [ep]; exact b.size) z1 hs16 (by rw [show k % 32 = i * sz by omega]; exact Nat.mul_mod_left _ _), hb]; rfl
      have hf := (find_lt h kept (adr k)).2 hat
      have hm : ((i : Int) * (8 * (sz : Int))) % (8 * (sz : Int)) = 0 := Int.mul_emod_left _ _
      have hd : (i : Int) * (8 * (sz : Int)) / 8 + (sz : Int) ≤ 32 := by
        have e : (i : Int) * (8 * (sz : Int)) = 8 * ((i * sz : Nat) : Int) := by
          rw [← Int.mul_assoc, Int.mul_comm (i : Int) 8, Int.mul_assoc]; simp
        rw [e]
        omega
      rw [e3, e4, b.size, b.atom, e0]
      simp [e2, hm, hd, hf]
  · have hle := a.le
    have hpos := a.pos
    have hk : k < s.n * 32 := by omega
    have ep : k / 32 = F := by omega
    refine ⟨?_, hk⟩
    unfold Mo.fits
    rw [page_adr s kept k hk, if_neg (by omega), Int.toNat_natCast, ep]
    have e0 : adr k - 1048576 - (F : Int) * 256 = 0 := by unfold adr; omega
    have f0 := a.free 0 (by omega)
    rw [Nat.add_zero] at f0
    by_cases c : 16 < sz
    · rw [if_pos c, e0]
      have e : (sz + 31) / 32 = sz / 32 := by have := zg c; omega
      have := (great_iff h kept F at' (sz / 32)).2 fun j hj => ⟨by omega, a.free j (by omega)⟩
      rw [this]; rfl
    · rw [if_neg c, e0, bare_free h kept (by omega), f0]
      have hat : s.at (adr k) = none := by
        cases hc : s.at (adr k) with
        | none => rfl
        | some j =>
          have := at_held h hk hc
          rw [ep, free_held f0] at this
          cases this
      have hf := (find_lt h kept (adr k)).2 hat
      simp [hf]
      omega

theorem fits_none {s : St} (h : WF s) (kept : Nat) {sz : Nat} {at' : Bool} (z1 : 1 ≤ sz) (z2 : sz ≤ 1536) (zg : 16 < sz → sz % 32 = 0) (hp : s.place sz at' = none) (p k : Nat) (hpn : p < s.n) (hk : k < 32) : (absM s kept).fits (1048576 + (p : Int) * 256 + 8 * (k : Int)) sz at' = false := by
  obtain ⟨n1, n2⟩ := place_none z1 hp
  have ea : (1048576 + (p : Int) * 256 + 8 * (k : Int)) = adr (p * 32 + k) := by unfold adr; omega
  have hq : p * 32 + k < s.n * 32 := by omega
  rw [ea]
  unfold Mo.fits
  rw [page_adr s kept _ hq, if_neg (by omega), Int.toNat_natCast, show (p * 32 + k) / 32 = p by omega]
  have e0 : adr (p * 32 + k) - 1048576 - (p : Int) * 256 = 8 * (k : Int) := by unfold adr; omega
  by_cases c : 16 < sz
  · rw [if_pos c]
    cases hg : (absM s kept).great p at' (sz / 32) with
    | false => rfl
    | true =>
      have H := (great_iff h kept p at' (sz / 32)).1 hg
      have := zg c
      have e : (sz + 31) / 32 = sz / 32 := by omega
      have hl := (H (sz / 32 - 1) (by omega)).1
      obtain ⟨j, j1, j2⟩ := n2 p (by omega)
      rw [(H j (by omega)).2] at j2
      cases j2
  · rw [if_neg c, e0, bare_free h kept hpn]
    obtain ⟨j, j1, j2⟩ := n2 p (by omega)
    obtain rfl : j = 0 := by omega
    rw [Nat.add_zero] at j2
    rw [j2]
    rcases on_cases h kept hpn with ⟨_, e⟩ | ⟨e1, e2, e3, e4⟩
    · rw [e]; rfl
    · rw [e3, e4]
      by_cases hs : s.size p = sz
      · by_cases ha : s.atom p = at'
        · by_cases hm : k % sz = 0
          · by_cases hl : k + sz ≤ 32
            · have sh := n1 (by omega) p hpn
              unfold St.share at sh
              rw [if_pos ⟨hs, ha, e1⟩] at sh
              have hb := freeFrom_none z1 sh (by omega) (k / sz) (by rw [Nat.div_mul_cancel (Nat.dvd_of_mod_eq_zero hm)]; omega)
              rw [Nat.div_mul_cancel (Nat.dvd_of_mod_eq_zero hm)] at hb
              have hat : s.at (adr (p * 32 + k)) = some (p * 32 + k) := by
                rw [at_slot hq (by rw [show (p * 32 + k) / 32 = p by omega]; exact hs) z1 (by omega) (by rw [show (p * 32 + k) % 32 = k by omega]; exact hm), hb]; rfl
              have hf : ¬ (absM s kept).find (adr (p * 32 + k)) < 0 := by
                rw [find_lt h, hat]; simp
              simp [hf]
            · have : ¬ (8 * (k : Int) / 8 + (sz : Int) ≤ 32) := by omega
              rw [decide_eq_false this]
              simp
          · have : ¬ (8 * (k : Int) % (8 * (sz : Int)) = 0) := by
              rw [Int.mul_emod_mul_of_pos _ _ (by omega)]
              intro e
              have : ((k % sz : Nat) : Int) = 0 := by rw [Int.natCast_emod]; omega
              omega
            have h2 : ((8 * (k : Int) % (8 * (sz : Int))) == 0) = false := by simpa using this
            rw [h2]
            simp
        · have : (s.atom p == at') = false := by simpa using ha
          rw [this]; simp
      · have : ((s.size p).toNat == sz) = false := by
          have := h.z0 p hpn
          simp; omega
        rw [this]; simp

theorem room_iff {s : St} (h : WF s) (kept : Nat) {sz : Nat} {at' : Bool} (z1 : 1 ≤ sz) (z2 : sz ≤ 1536) (zg : 16 < sz → sz % 32 = 0) : (absM s kept).room sz at' = true ↔ s.place sz at' ≠ none := by
  cases hp : s.place sz at' with
  | none =>
    rw [room_false _ _ _ fun p hpn k hk => fits_none h kept z1 z2 zg hp p k hpn hk]
    simp
  | some k =>
    obtain ⟨h1, h2⟩ := fits_place h kept z1 zg hp
    rw [room_true _ _ _ (k / 32) (k % 32) (by show k / 32 < s.n; omega) (by omega) (by rw [show (1048576 + ((k / 32 : Nat) : Int) * 256 + 8 * ((k % 32 : Nat) : Int)) = adr k by unfold adr; omega]; exact h1)]
    simp
end Go.Proofs.YtgegkcjllliifabDoor
