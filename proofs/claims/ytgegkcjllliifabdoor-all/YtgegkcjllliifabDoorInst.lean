/-
  The program's heap is what the laws ask for.
-/
import Derived.Test.YtgegkcjllliifabDoorAbs4
import Derived.Test.YtgegkcjllliifabDoorHEdge
namespace Go.Proofs.YtgegkcjllliifabDoor
open Go.RowKit

structure HIn (w : World) (L : HL) (s : St) (kept : Nat) : Prop where
  rep : Rep w L s
  wf : WF s
  a1 : s.again ≤ kept
  a2 : 0 < s.again → s.room + 1 ≤ kept
def St.cn (s : St) : Cn := ⟨s.again, s.used, s.unsw⟩
def hIs (w : World) (B : List Nat) (a : Nat) (m : Mo) (c : Cn) : Prop := ∃ L s kept, L.h = a ∧ B = L.blocks ∧ HIn w L s kept ∧ m = absM s kept ∧ c = s.cn

theorem hto_st {w w' : World} {L : HL} {t : St} {kept : Nat} (h : HSt w L t w') (wf : WF t) (a1 : t.again ≤ kept) (a2 : 0 < t.again → t.room + 1 ≤ kept) : HTo hIs w L.blocks L.h (absM t kept) t.cn w' := by
  obtain ⟨L1, e1, r1, i1, t1⟩ := h
  exact ⟨L1.blocks, ⟨L1, t, kept, e1, rfl, ⟨r1, wf, a1, a2⟩, rfl, rfl⟩, i1, t1⟩
theorem hto_same {w w' : World} {L : HL} {s : St} {kept : Nat} (h : HIn w L s kept) (hb : Below w.heap.size w w') : HTo hIs w L.blocks L.h (absM s kept) s.cn w' := hto_st (HSt.same h.rep hb) h.wf h.a1 h.a2
theorem hto_id {w : World} {L : HL} {s : St} {kept : Nat} (h : HIn w L s kept) : HTo hIs w L.blocks L.h (absM s kept) s.cn w := hto_same h (Below.refl _ _)

theorem hIs_frame {w w' : World} {B : List Nat} {a : Nat} {m : Mo} {c : Cn} (h : hIs w B a m c) (ha : ∀ k, k ∈ B → w'.heap[k]? = w.heap[k]?) : hIs w' B a m c := by
  obtain ⟨L, s, kept, e1, rfl, h, e2, e3⟩ := h
  exact ⟨L, s, kept, e1, rfl, ⟨h.rep.agree ha, h.wf, h.a1, h.a2⟩, e2, e3⟩
theorem tab_frame {w w' : World} (h : Tab w) (ha : ∀ k, k < 1 → w'.heap[k]? = w.heap[k]?) : Tab w' := by
  obtain ⟨t, fr, h⟩ := h
  exact ⟨t, fr, by rw [ha 0 (by omega)]; exact h⟩
theorem WF.roots' {s : St} (h : WF s) (r : List Int) : WF { s with roots := r } := ⟨h.z0, h.z1, h.sm, h.gm, h.gb, h.gr, h.bg, h.un, h.uz⟩

theorem i_new (n r t : Nat) (w : World) (h1 : 1 ≤ n) (h2 : n ≤ 48) (hr1 : 1 ≤ r) (hr2 : r ≤ 16) (ht2 : t ≤ 4096) :
    Calls Tryd.prog 33 #[.int .i64 n, .int .i64 r, .int .i64 t] w fun e w' => ∃ B a c, e = .returned (.tuple #[.pointer (some ⟨a, 0, none⟩), .int .i64 0]) ∧ hIs w' B a (Mo.init n r t) c ∧ (∀ k, k ∈ B → w.heap.size ≤ k) ∧ Below w.heap.size w w' := by
  refine (new_any n r t w h1 h2 hr1 hr2 ht2).mono ?_
  rintro e w' ⟨a, he, L, e1, rep, hi, hb⟩
  have hT : (St.init n r t).T = [] := by
    apply List.eq_nil_iff_forall_not_mem.2
    intro k hk
    have := (T_beg hk).1
    cases this
  have em : Mo.init n r t = absM (St.init n r t) 0 := by
    unfold absM
    rw [hT]
    show (⟨n, r, t, [], [], List.replicate n false, 0, 0, 0⟩ : Mo) = ⟨n, r, t, [], [], (List.range n).map (fun _ => false), 0, 0, 0⟩
    congr 1
    apply List.ext_getElem (by simp)
    intro i h1 h2
    simp
  exact ⟨L.blocks, a, _, he, ⟨L, _, 0, e1, rfl, ⟨rep, WF.init n r t, Nat.le_refl _, fun h => absurd h (by show ¬ 0 < 0; omega)⟩, em, rfl⟩, hi, hb⟩

theorem i_alloc {w : World} {L : HL} {s : St} {kept : Nat} (h : HIn w L s kept) (T : Tab w) (hc : s.colls ≤ 4611686018427387904) (n words : Nat) (at' : Bool) (h1 : 1 ≤ n) (h2 : n ≤ s.n * 32) (hz : sizeOf' n = words) :
    Calls Tryd.prog 20 #[.pointer (some ⟨L.h, 0, none⟩), .int .i64 n, .bool at'] w fun e w' => ∃ m1 err, AheadTo (absM s kept) words at' m1 err ∧
      ((err ≠ 0 ∧ e = .returned (.tuple #[.int .i64 0, .int .i64 err]) ∧ ∃ c', HTo hIs w L.blocks L.h m1 c' w') ∨ (err = 0 ∧ ∃ x c', e = .returned (.tuple #[.int .i64 x, .int .i64 0]) ∧ m1.fits x words at' = true ∧ HTo hIs w L.blocks L.h (m1.lay x words at') c' w')) := by
  have n2 := h.rep.n2
  have hwf := h.wf
  obtain ⟨sz, hz', hz1, hz2, hz3, _⟩ := size_bd n h1
  obtain rfl : sz = words := by have := hz'.symm.trans hz; omega
  have z1 : 1 ≤ sz := by omega
  have z2 : sz ≤ 1536 := by
    have : sizeOf' n ≤ 1536 := by unfold sizeOf'; omega
    omega
  have zg : 16 < sz → sz % 32 = 0 := fun c => (hz3 c).1
  have tail : ∀ (t : St) (kt : Nat) (e : Ending) (w' : World), WF t → t.again ≤ kt → (0 < t.again → t.room + 1 ≤ kt) → AllocTo sz at' t w L e w' → ∃ err : Int, (err = if (absM t kt).room sz at' then 0 else 3) ∧
      ((err ≠ 0 ∧ e = .returned (.tuple #[.int .i64 0, .int .i64 err]) ∧ ∃ c', HTo hIs w L.blocks L.h (absM t kt) c' w') ∨ (err = 0 ∧ ∃ x c', e = .returned (.tuple #[.int .i64 x, .int .i64 0]) ∧ (absM t kt).fits x sz at' = true ∧ HTo hIs w L.blocks L.h ((absM t kt).lay x sz at') c' w')) := by
    intro t kt e w' wt b1 b2 ha
    cases ha with
    | full hp he hs =>
      have hr : ¬ (absM t kt).room sz at' = true := by rw [room_iff wt kt z1 z2 zg, hp]; simp
      refine ⟨3, by rw [if_neg hr], .inl ⟨by omega, he, _, hto_st hs wt b1 b2⟩⟩
    | ok k hp he hl hs =>
      have hr : (absM t kt).room sz at' = true := by rw [room_iff wt kt z1 z2 zg, hp]; simp
      refine ⟨0, by rw [if_pos hr], .inr ⟨rfl, adr k, (t.laid k sz at').cn, he, (fits_place wt kt z1 zg hp).1, ?_⟩⟩
      rw [← absM_lay hl z1 kt]
      exact hto_st hs hl.wf (by rw [hl.again]; exact b1) (by rw [hl.again, hl.room]; exact b2)
  refine (hAlloc_any L s n sz at' w T h.rep hwf hc h1 h2 hz z1 z2 zg).mono ?_
  rintro e w' ⟨t, hc, ha⟩
  rcases hc with ⟨q1, q2, rfl⟩ | ⟨q, hA⟩
  · obtain ⟨err, he, hh⟩ := tail t kept e w' hwf h.a1 h.a2 ha
    have hr := (room_iff hwf kept (at' := at') z1 z2 zg).2 q2
    rw [if_pos hr] at he
    refine ⟨absM t kept, err, ?_, hh⟩
    unfold AheadTo
    rw [if_neg (fun c => q1 ⟨by have : 0 < t.trig := c.1; omega, c.2⟩), if_pos hr]
    exact ⟨rfl, he⟩
  · obtain ⟨wt, stays, black, ag, mk, b1, b2, et⟩ := hA
    have ea := absM_coll hwf mk ag kept
    obtain ⟨err, he, hh⟩ := tail t (cntF stays (s.n * 32)) e w' wt (by rw [et]; exact b1) (by rw [et]; exact b2) ha
    rw [et, ea] at he hh
    refine ⟨_, err, ?_, hh⟩
    unfold AheadTo
    by_cases due : s.due sz
    · rw [if_pos ⟨by have := due.1; show 0 < s.trig; omega, due.2⟩]
      exact ⟨_, reach_is hwf mk kept, rfl, he⟩
    · have hr : ¬ (absM s kept).room sz at' = true := by
        rw [room_iff hwf kept z1 z2 zg]
        rcases q with q | q
        · exact absurd q due
        · rw [q]; simp
      rw [if_neg (fun c => due ⟨by have : 0 < s.trig := c.1; omega, c.2⟩), if_neg hr]
      exact ⟨_, reach_is hwf mk kept, rfl, he⟩

theorem i_collect {w : World} {L : HL} {s : St} {kept : Nat} (h : HIn w L s kept) (hc : s.colls ≤ 4611686018427387904) :
    Calls Tryd.prog 28 #[.pointer (some ⟨L.h, 0, none⟩)] w fun e w' => e = .returned (.tuple #[]) ∧ ∃ on c', IsReach (absM s kept) on ∧ c'.unswept = c'.used ∧ HTo hIs w L.blocks L.h ((absM s kept).collect on) c' w' := by
  refine (collect_wf L s w h.rep h.wf hc).mono ?_
  rintro e w' ⟨he, stays, black, ag, mk, b1, b2, wt, hs⟩
  refine ⟨he, s.T.map stays, (s.collected stays black ag).cn, reach_is h.wf mk kept, ?_, ?_⟩
  · show (((s.collected stays black ag).unsw : Nat) : Int) = ((s.collected stays black ag).used : Nat)
    congr 1
    unfold St.unsw St.used
    refine cntF_congr fun p hp => ?_
    exact if_pos hp
  · rw [← absM_coll h.wf mk ag kept]
    exact hto_st hs wt b1 b2

theorem i_sweep {w : World} {L : HL} {s : St} {kept : Nat} (h : HIn w L s kept) (n : Int) (hn : n ≤ 9223372036854775807) :
    Calls Tryd.prog 42 #[.pointer (some ⟨L.h, 0, none⟩), .int .i64 n] w fun e w' => e = .returned (.tuple #[]) ∧ ∃ c', (n ≤ 0 → c' = s.cn) ∧ (0 < n → c'.again = s.cn.again ∧ c'.unswept ≤ s.cn.unswept ∧ (n ≤ s.cn.unswept - c'.unswept ∨ c'.unswept = 0)) ∧ HTo hIs w L.blocks L.h (absM s kept) c' w' := by
  by_cases c : n ≤ 0
  · refine (sweep_low L s n w h.rep c).mono ?_
    rintro e w' ⟨he, rfl⟩
    exact ⟨he, s.cn, fun _ => rfl, fun h => absurd h (by omega), hto_id h⟩
  · refine (sweep_any L s n w h.rep h.wf (by omega) hn).mono ?_
    rintro e w' ⟨he, rep, t⟩
    have st := swept_to h.wf n
    obtain ⟨c1, c2⟩ := swp_cnt s.n s n (Nat.le_refl _) h.wf (by omega) (fun p hp => absurd hp (by omega))
    have eu : (s.swept n).unsw = cntF (swp s.n s n).uns s.n := by unfold St.unsw; rw [st.n]; rfl
    refine ⟨he, (s.swept n).cn, fun h => absurd h c, fun _ => ⟨?_, ?_, ?_⟩, ?_⟩
    · show ((s.swept n).again : Int) = s.again
      rw [st.again]
    · show ((s.swept n).unsw : Int) ≤ (s.unsw : Int)
      rw [eu]; show ((cntF (swp s.n s n).uns s.n : Nat) : Int) ≤ ((cntF s.uns s.n : Nat) : Int); omega
    · show n ≤ (s.unsw : Int) - ((s.swept n).unsw : Int) ∨ ((s.swept n).unsw : Int) = 0
      rw [eu]
      rcases c2 with c2 | c2
      · exact .inl c2
      · right; omega
    · rw [← absM_swept h.wf st kept]
      exact hto_st (HSt.of rep t) st.wf (by rw [st.again]; exact h.a1) (by rw [st.again, st.room]; exact h.a2)
end Go.Proofs.YtgegkcjllliifabDoor
