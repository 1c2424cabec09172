/-
  The walks of tidy, lay, drop, Store.
-/
import Derived.Test.YtgegkcjllliifabDoorHRoom
namespace Go.Proofs.YtgegkcjllliifabDoor
open Go.RowKit

/-- The first k pages from page f on are looked through; e: nothing lies there. -/
def tidK (s : St) (f : Nat) (e : Bool) (k : Nat) : St :=
  { s with size := fun q => if e = true ∧ f ≤ q ∧ q < f + k then 0 else s.size q, atom := fun q => if e = true ∧ f ≤ q ∧ q < f + k then false else s.atom q,
           back := fun q => if e = true ∧ f ≤ q ∧ q < f + k then 0 else s.back q, uns := fun q => if f ≤ q ∧ q < f + k then false else s.uns q }
theorem tidK_zero (s : St) (f : Nat) (e : Bool) : tidK s f e 0 = s := by
  have h : ∀ q, ¬ (f ≤ q ∧ q < f + 0) := fun q => by omega
  have h' : ∀ q, ¬ (e = true ∧ f ≤ q ∧ q < f + 0) := fun q => by omega
  simp only [tidK, if_neg (h _), if_neg (h' _)]
theorem upd_run {α : Type} (f k : Nat) (v : α) (g : Nat → α) : upd (fun q => if f ≤ q ∧ q < f + k then v else g q) (f + k) v = fun q => if f ≤ q ∧ q < f + (k + 1) then v else g q := by
  funext q
  unfold upd
  by_cases c : q = f + k
  · rw [if_pos c, if_pos (by omega)]
  · by_cases c1 : f ≤ q ∧ q < f + k
    · rw [if_neg c]; dsimp only; rw [if_pos c1, if_pos (by omega)]
    · rw [if_neg c]; dsimp only; rw [if_neg c1, if_neg (by omega)]
theorem upd_upd {α : Type} (g : Nat → α) (k : Nat) (v u : α) : upd (upd g k u) k v = upd g k v := by
  funext q
  unfold upd
  by_cases c : q = k <;> simp [c]
theorem tidK_full (s : St) (f k : Nat) : ((tidK s f true k).setPg (f + k) 0 false 0 false).setUn (f + k) false = tidK s f true (k + 1) := by
  simp only [tidK, St.setPg, St.setSz, St.setAt, St.setBk, St.setUn, true_and, upd_upd]
  simp only [upd_run]
theorem tidK_part (s : St) (f k : Nat) : (tidK s f false k).setUn (f + k) false = tidK s f false (k + 1) := by
  simp only [tidK, St.setUn, Bool.false_eq_true, false_and, if_false, upd_run]

/-- The first page of the run to which page p belongs; how many pages it has. -/
def St.first (s : St) (p : Nat) : Nat := p - (s.back p).toNat
def St.count (s : St) (p : Nat) : Nat := ((s.size (s.first p)).toNat + 31) / 32
def St.tidied (s : St) (p : Nat) : St := tidK s (s.first p) (!s.any (s.first p)) (s.count p)
/-- The run of page p lies within the heap. -/
structure St.RB (s : St) (p : Nat) : Prop where
  lt : p < s.n
  b0 : 0 ≤ s.back p
  bp : s.back p ≤ p
  z0 : 0 ≤ s.size (s.first p)
  z1 : s.size (s.first p) ≤ 1536
  run : s.first p + s.count p ≤ s.n

set_option maxHeartbeats 800000 in
theorem tidy_any (L : HL) (s : St) (p : Nat) (w : World) (R : Rep w L s) (rb : s.RB p) :
    Calls Tryd.prog 58 #[.pointer (some ⟨L.h, 0, none⟩), .int .i64 p] w fun e w' => e = .returned (.tuple #[]) ∧ Rep w' L (s.tidied p) ∧ Touch L.blocks w w' := by
  obtain ⟨lt, b0, bp, z0, z1, run⟩ := rb
  have n2 := R.n2
  have fp := R.cells.fp
  have pk := R.cells.pk p lt
  obtain ⟨b, hb⟩ : ∃ b : Nat, s.back p = b := ⟨(s.back p).toNat, by omega⟩
  obtain ⟨f, hf⟩ : ∃ f, s.first p = f := ⟨_, rfl⟩
  have hfb : (p : Int) - (b : Int) = (f : Int) := by rw [← hf]; unfold St.first; omega
  have hfn : f < s.n := by omega
  have ps := R.cells.ps f hfn
  obtain ⟨z, hz⟩ : ∃ z : Nat, s.size f = z := ⟨(s.size f).toNat, by rw [hf] at z0; omega⟩
  obtain ⟨c, hc⟩ : ∃ c, s.count p = c := ⟨_, rfl⟩
  have hcz : c = (z + 31) / 32 := by rw [← hc]; unfold St.count; rw [hf, hz]; rfl
  have hz2 : z ≤ 1536 := by rw [hf, hz] at z1; omega
  have hcz' : ((z : Int) + 32 - 1) / 32 = (c : Int) := by omega
  have hrun : f + c ≤ s.n := by rw [hf, hc] at run; exact run
  obtain ⟨e, he⟩ : ∃ e, s.any f = e := ⟨_, rfl⟩
  have CA := hide (anyBegins_any L s f w R hfn)
  rw [he] at CA
  have HT : Hid (s.tidied p = tidK s f (!e) c) := by unfold St.tidied; rw [hf, hc, he]; exact rfl
  rw [hb] at pk
  rw [hz] at ps
  have RR := hide R
  clear R hb hf hz hc he hcz b0 bp z0 z1 run
  have CP : Hid (∀ w1 : World, Calls Tryd.prog 56 #[.int .i64 z] w1 fun e w' => e = .returned (.int .i64 c) ∧ w' = w1) := by
    intro w1
    have := pagesFor_any z w1 (by omega) (by omega)
    have e1 : ((z : Int) + 31) / 32 = (c : Int) := by omega
    rw [e1] at this
    exact this
  clear hcz'
  go_enter Tryd.func58, Tryd.ntmps58
  go_wp2_with (first | (go_at_call 56; refine (unhide CP _).mono ?_; rintro e w' ⟨rfl, rfl⟩) | (go_at_call 83; refine (unhide CA).mono ?_; rintro e w' ⟨rfl, rfl⟩))
  go_loopw [7] (fun i wr => ∃ k : Nat, k ≤ c ∧ i = .int .i64 k ∧ Hid (Rep wr L (tidK s f (!e) k)) ∧ Hid (Touch L.blocks w' wr)) (fun i _ => 50 - (intOf i).toNat)
  case atStart => exact ⟨0, by omega, rfl, hide (by rw [tidK_zero]; exact unhide RR), hide (Touch.refl _ _)⟩
  case round =>
    obtain ⟨k, hk, rfl, R', K'⟩ := hrel
    clear fp ps pk
    by_cases hlt : k < c
    · have cc := (unhide R').cells
      have fp := cc.fp
      have ps := cc.ps (f + k) (by show f + k < s.n; omega)
      have pa := cc.pa (f + k) (by show f + k < s.n; omega)
      have pk := cc.pk (f + k) (by show f + k < s.n; omega)
      have pu := cc.pu (f + k) (by show f + k < s.n; omega)
      have pz := cc.pz
      have en : (tidK s f (!e) k).n = s.n := rfl
      rw [en] at fp
      clear cc en
      have ap := (HL.apart (unhide R').nd).hp
      cases e
      · go_wp2
        go_roundw
        case rel => exact ⟨k + 1, by omega, by go_num, hide (by rw [Bool.not_false, ← tidK_full]; exact ((unhide R').setPg (f + k) 0 false 0 false).setUn (f + k) false), hide ((((((unhide K').set _ _ _ (.inl (by simp [HL.blocks]))).set _ _ _ (.inl (by simp [HL.blocks]))).set _ _ _ (.inl (by simp [HL.blocks]))).set _ _ _ (.inl (by simp [HL.blocks]))).set _ _ _ (.inl (by simp [HL.blocks])))⟩
        case measure => simp [intOf]; omega
      · go_wp2
        go_roundw
        case rel => exact ⟨k + 1, by omega, by go_num, hide (by rw [Bool.not_true, ← tidK_part]; exact (unhide R').setUn (f + k) false), hide ((unhide K').set _ _ _ (.inl (by simp [HL.blocks])))⟩
        case measure => simp [intOf]; omega
    · obtain rfl : k = c := by omega
      go_wp2
      go_end0
      exact ⟨rfl, by rw [unhide HT]; exact unhide R', unhide K'⟩

def layPg (s : St) (first : Nat) (sz : Int) (at' : Bool) : Nat → St
  | 0 => s
  | j + 1 => ((layPg s first sz at' j).tidied (first + j)).setPg (first + j) sz at' j false
def layWd (s : St) (w0 : Nat) : Nat → St
  | 0 => s
  | j + 1 => (layWd s w0 j).setWd (w0 + j) 0
/-- The heap behind lay. -/
def St.laid0 (s : St) (w0 sz : Nat) (at' : Bool) : St := (layWd (layPg s (w0 / 32) sz at' ((sz + 31) / 32)) w0 sz).setBg w0 true
/-- Behind Alloc: it is counted, too. -/
def St.laid (s : St) (w0 sz : Nat) (at' : Bool) : St := (s.laid0 w0 sz at').grown sz

theorem layPg_n (s : St) (first : Nat) (sz : Int) (at' : Bool) (j : Nat) : (layPg s first sz at' j).n = s.n := by
  induction j with
  | zero => rfl
  | succ j ih => exact ih
theorem layWd_n (s : St) (w0 j : Nat) : (layWd s w0 j).n = s.n := by
  induction j with
  | zero => rfl
  | succ j ih => exact ih

set_option maxHeartbeats 1600000 in
theorem lay_any (L : HL) (s : St) (w0 sz : Nat) (at' : Bool) (w : World) (R : Rep w L s) (h1 : 1 ≤ sz) (h3 : w0 / 32 + (sz + 31) / 32 ≤ s.n) (h4 : w0 + sz ≤ s.n * 32)
    (hrb : ∀ k, k < (sz + 31) / 32 → (layPg s (w0 / 32) sz at' k).RB (w0 / 32 + k)) :
    Calls Tryd.prog 36 #[.pointer (some ⟨L.h, 0, none⟩), .int .i64 w0, .int .i64 sz, .bool at'] w fun e w' => e = .returned (.tuple #[]) ∧ Rep w' L (s.laid0 w0 sz at') ∧ Touch L.blocks w w' := by
  have n2 := R.n2
  have RR := hide R
  have HRB := hide hrb
  have hq : ((w0 : Int) / 32) = ((w0 / 32 : Nat) : Int) := by omega
  have CP : Hid (∀ w1 : World, Calls Tryd.prog 56 #[.int .i64 sz] w1 fun e w' => e = .returned (.int .i64 ((sz + 31) / 32 : Nat)) ∧ w' = w1) := by
    intro w1
    have := pagesFor_any sz w1 (by omega) (by omega)
    have e1 : ((sz : Int) + 31) / 32 = (((sz + 31) / 32 : Nat) : Int) := by omega
    rw [e1] at this
    exact this
  obtain ⟨fst, hfst⟩ : ∃ f, w0 / 32 = f := ⟨_, rfl⟩
  obtain ⟨c, hc⟩ : ∃ c, (sz + 31) / 32 = c := ⟨_, rfl⟩
  have HL1 : Hid (s.laid0 w0 sz at' = (layWd (layPg s fst sz at' c) w0 sz).setBg w0 true) := by unfold St.laid0; rw [hfst, hc]; exact rfl
  rw [hfst] at hq h3 HRB
  rw [hc] at h3 HRB CP
  clear R hrb hfst hc
  go_enter Tryd.func36, Tryd.ntmps36
  go_wp2_with fail
  go_loopw [9] (fun i wr => ∃ k : Nat, k ≤ c ∧ i = .int .i64 k ∧ Hid (Rep wr L (layPg s fst sz at' k)) ∧ Hid (Touch L.blocks w wr)) (fun i _ => 50 - (intOf i).toNat)
  case atStart => exact ⟨0, by omega, rfl, RR, hide (Touch.refl _ _)⟩
  case round =>
    obtain ⟨k, hk, rfl, R', K'⟩ := hrel
    have en := layPg_n s fst sz at' k
    by_cases hlt : k < c
    · have CT := hide (tidy_any L _ (fst + k) _ (unhide R') (unhide HRB k hlt))
      have ek : ((fst + k : Nat) : Int) = (fst : Int) + (k : Int) := by omega
      rw [ek] at CT
      clear ek
      go_wp2_with (go_at_call 56; refine (unhide CP _).mono ?_; rintro e w' ⟨rfl, rfl⟩)
      refine (unhide CT).mono ?_
      rintro e w2 ⟨rfl, r2, t2⟩
      have R2 := hide r2
      have T2 := hide t2
      have cc := r2.cells
      have fp := cc.fp
      have en2 : ((layPg s fst sz at' k).tidied (fst + k)).n = s.n := en
      rw [en2] at fp
      have ps := cc.ps (fst + k) (by rw [en2]; omega)
      have pa := cc.pa (fst + k) (by rw [en2]; omega)
      have pk := cc.pk (fst + k) (by rw [en2]; omega)
      have pu := cc.pu (fst + k) (by rw [en2]; omega)
      have pz := cc.pz
      clear cc r2 t2 en en2
      go_wp2
      go_roundw
      case rel => exact ⟨k + 1, by omega, by go_num, hide ((unhide R2).setPg (fst + k) sz at' k false), hide ((((((unhide K').trans (unhide T2) (fun i hi => .inl hi)).set _ _ _ (.inl (by simp [HL.blocks]))).set _ _ _ (.inl (by simp [HL.blocks]))).set _ _ _ (.inl (by simp [HL.blocks]))).set _ _ _ (.inl (by simp [HL.blocks])))⟩
      case measure => simp [intOf]; omega
    · obtain rfl : k = c := by omega
      generalize hs1 : layPg s fst sz at' k = s1 at R' en
      have HS1 := hide hs1
      clear hs1 RR
      go_wp2_with (go_at_call 56; refine (unhide CP _).mono ?_; rintro e w' ⟨rfl, rfl⟩)
      go_loopw [10] (fun i wr => ∃ j : Nat, j ≤ sz ∧ i = .int .i64 j ∧ Hid (Rep wr L (layWd s1 w0 j)) ∧ Hid (Touch L.blocks w wr)) (fun i _ => 2000 - (intOf i).toNat)
      case atStart => exact ⟨0, by omega, rfl, R', K'⟩
      case round =>
        obtain ⟨j, hj, rfl, R', K'⟩ := hrel
        have en1 := layWd_n s1 w0 j
        rw [en] at en1
        have cc := (unhide R').cells
        have fw := cc.fw
        have fb := cc.fb
        have wz := cc.wz
        have bz := cc.bz
        rw [en1] at fw fb
        by_cases hlt : j < sz
        · have ws := cc.ws (w0 + j) (by rw [en1]; omega)
          clear en1 en cc
          go_wp2
          go_roundw
          case rel => exact ⟨j + 1, by omega, by go_num, hide ((unhide R').setWd (w0 + j) 0), hide ((unhide K').set _ _ _ (.inl (by simp [HL.blocks])))⟩
          case measure => simp [intOf]; omega
        · obtain rfl : j = sz := by omega
          have bs := cc.bs w0 (by rw [en1]; omega)
          clear en1 en cc
          go_wp2
          go_end0
          refine ⟨rfl, ?_, (unhide K').set _ _ _ (.inl (by simp [HL.blocks]))⟩
          have := (unhide R').setBg w0 true
          rw [← HS1.out] at this
          rw [unhide HL1]
          exact this

/-- The heap behind drop. -/
def St.dropped (s : St) (k : Nat) : St := (s.setBg k false).tidied (k / 32)
set_option maxHeartbeats 400000 in
theorem drop_any (L : HL) (s : St) (k : Nat) (w : World) (R : Rep w L s) (hk : k < s.n * 32) (rb : s.RB (k / 32)) :
    Calls Tryd.prog 41 #[.pointer (some ⟨L.h, 0, none⟩), .int .i64 k] w fun e w' => e = .returned (.tuple #[]) ∧ Rep w' L (s.dropped k) ∧ Touch L.blocks w w' := by
  have n2 := R.n2
  have fb := R.cells.fb
  have bs := R.cells.bs k hk
  have bz := R.cells.bz
  have C := tidy_any L (s.setBg k false) (k / 32) _ (R.setBg k false) ⟨rb.lt, rb.b0, rb.bp, rb.z0, rb.z1, rb.run⟩
  have ek : ((k / 32 : Nat) : Int) = (k : Int) / 32 := by omega
  rw [ek] at C
  have CC := hide C
  have T : Hid (Touch L.blocks w (w.setCell ⟨L.bb, k, none⟩ (.bool false))) := (Touch.refl _ _).set _ _ _ (.inl (by simp [HL.blocks]))
  clear C R rb ek
  go_enter Tryd.func41, Tryd.ntmps41
  go_wp2_with (go_at_call 58; refine (unhide CC).mono ?_; rintro e w' ⟨rfl, r2, t2⟩)
  go_end0
  exact ⟨rfl, r2, (unhide T).trans t2 (fun i hi => .inl hi)⟩
end Go.Proofs.YtgegkcjllliifabDoor
