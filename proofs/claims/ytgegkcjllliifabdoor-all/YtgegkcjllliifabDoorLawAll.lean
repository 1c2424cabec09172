/-
  The walk of the law's all.
-/
import Derived.Test.YtgegkcjllliifabDoorLawSwept
import Derived.Deep.RegionHeld2
namespace Go.Proofs.YtgegkcjllliifabDoor
open Go.RowKit

set_option maxRecDepth 10000 in
set_option maxHeartbeats 3200000 in
theorem all_any {H : HeapI} {N0 : Nat} {w0 w : World} {O : Nat → Nat × Nat} {s : LSt} {i : Nat} {p : PairS} (h : LawIs H N0 w0 w O s) (hp : s.hs[i]? = some p) (hsync : p.mi = p.mr) (bd : p.mr.bd) :
    Calls Tryd.prog 78 #[.pointer (some ⟨p.pb, 0, none⟩)] w fun e w' => e = .returned (.bool true) ∧ Same H N0 w0 w O s i p p.c w' := by
  have HP := hide hp
  have BD := hide bd
  have hg : Geo p.mr := by rw [← hsync]; exact H.geo (h.pair hp).2.1.1
  have HG := hide hg
  have H0 : Hid (Same H N0 w0 w O s i p p.c w) := by
    refine hide ⟨p.B, O, fun _ _ _ hb => hb, ?_⟩
    have e : s.setP i { p with B := p.B, mi := p.mr, c := p.c } = s := by
      obtain ⟨hi, e⟩ := List.getElem?_eq_some_iff.1 hp
      have : ({ p with B := p.B, mi := p.mr, c := p.c } : PairS) = s.hs[i] := by
        rw [e]; cases p; simp only at hsync; subst hsync; rfl
      unfold LSt.setP
      rw [this, List.set_getElem_self]
    rw [e]; exact h
  clear h hp bd hsync hg
  go_enter Tryd.func78, Tryd.ntmps78
  go_wp2
  go_loopw [3] (fun x wr => ∃ k : Nat, k ≤ p.mr.objs.length ∧ x = .int .i64 k ∧ Same H N0 w0 w O s i p p.c wr) (fun x _ => p.mr.objs.length - (intOf x).toNat)
  case atStart => exact ⟨0, by omega, rfl, unhide H0⟩
  case round =>
    obtain ⟨j, hj, rfl, B1, O1, l1, h1⟩ := hrel
    have HP1 := hide (setP_at (p' := { p with B := B1, mi := p.mr, c := p.c }) (unhide HP))
    have hpb : p.pb < wr.heap.size := heap_lt (h1.pair (unhide HP1)).1.1
    obtain ⟨_, gg⟩ := (h1.pair (unhide HP1)).cells
    dsimp only at gg
    have hr1 : RefIs wr p.R p.mr := (h1.pair (unhide HP1)).2.2.1
    have fo := hr1.cells.2.2.2.1
    have bo := (unhide BD).objs
    by_cases hlt : j < p.mr.objs.length
    · obtain ⟨g, cap, hv, hgl, hc1, hc2, o1, o2, o3⟩ := hr1.ob j hlt
      rw [hv] at fo
      unfold maxLen at hc2
      obtain ⟨W1, O1', e1, h1', b1, l1'⟩ := h1.box (.cells #[.int .i64 (p.mr.objs[j]).pos, .bool (p.mr.objs[j]).atomic, .slice (some ⟨p.R.wAt j, 0, none⟩) (p.mr.objs[j]).ws.length (p.mr.objs[j]).ws.length] 89)
      have H1 := hide h1'
      have L1 := hide (l1.trans l1')
      have X1 := hide b1
      have E1 := hide e1
      clear h1 l1 l1' b1 e1 h1' hr1 hv
      go_wp2
      rw [show wr.alloc (.cells #[.int .i64 (p.mr.objs[j]).pos, .bool (p.mr.objs[j]).atomic, .slice (some ⟨p.R.wAt j, 0, none⟩) (p.mr.objs[j]).ws.length (p.mr.objs[j]).ws.length] 89) = W1 from unhide E1]
      have hps := (unhide BD).pos j hlt
      clear fo gg o1 o2 o3 hpb hgl E1
      generalize wr.heap.size = gB at *
      go_loopw [5] (fun x wi => ∃ k : Nat, k ≤ (p.mr.objs[j]).ws.length ∧ x = .int .i64 k ∧ ∃ B' O', Loc W1 O1' wi O' ∧ LawIs H N0 w0 wi O' (s.setP i { p with B := B', mi := p.mr, c := p.c })) (fun x _ => (p.mr.objs[j]).ws.length - (intOf x).toNat)
      case atStart => exact ⟨0, by omega, rfl, B1, O1', fun _ _ _ hb => hb, unhide H1⟩
      case round =>
        obtain ⟨k, hk, rfl, B2, O2, l2, h2⟩ := hrel
        have HP2 := hide (setP_at (p' := { p with B := B2, mi := p.mr, c := p.c }) (unhide HP))
        have bx := (l2 _ _ _ (unhide X1)).1
        have x0 := cell_of_row wr gB 0 _ _ _ bx
        have x2 := cell_of_row wr gB 2 _ _ _ bx
        simp only [List.getElem?_toArray, List.getElem?_cons_zero, List.getElem?_cons_succ] at x0 x2
        by_cases hkl : k < (p.mr.objs[j]).ws.length
        · have hd := h2.quiet (Below.refl wr.heap.size wr).drew
          have CL := H.load_ok ((p.mr.objs[j]).pos + 8 * (k : Int)) j k hlt hkl hd.glob (hd.pair (unhide HP2)).2.1.1 (by have := (unhide HG).al j hlt; omega) ((unhide HG).own j k hlt hkl) (by omega)
          obtain ⟨y, hy⟩ : ∃ y, (p.mr.objs[j]).ws[k] = y := ⟨_, rfl⟩
          simp only [hy] at CL
          have CCL := hide CL
          obtain ⟨gg, _⟩ := (h2.pair (unhide HP2)).cells
          dsimp only at gg
          have HD := hide hd
          have L2 := hide (l2.trans (Loc.of_below (8, 8) (Below.refl wr.heap.size wr).drew))
          have HY := hide hy
          clear CL h2 l2 hd hy
          obtain ⟨q, hq⟩ : ∃ q : Int, (p.mr.objs[j]).pos + 8 * (k : Int) = q := ⟨_, rfl⟩
          rw [hq] at CCL
          have hqb : 0 ≤ q ∧ q ≤ 3000000 := by omega
          have hkb : k ≤ 1536 := by have := hps.2.2; omega
          generalize (p.mr.objs[j]).pos = ps at *
          have hk8 : IntKind.i64.wrap (8 * (k : Int)) = 8 * (k : Int) := IntWalk.i64_in _ ⟨by omega, by omega⟩
          have hqw : IntKind.i64.wrap q = q := IntWalk.i64_in _ ⟨by omega, by omega⟩
          have HKB := hide hkb
          clear hps hkb
          go_wp2_with fail
          go_region_held2 (fun w' => w'.cell? ⟨p.pb, 0, none⟩ = some (.pointer (some ⟨p.a, 0, none⟩)) ∧ w'.cell? ⟨gB, 0, none⟩ = some (.int .i64 ps)) (go_keep) ((go_at_call 29; refine (unhide CCL).mono ?_; rintro e w3 ⟨rfl, hto⟩; obtain ⟨B3, O3, l3, h3⟩ := (unhide HD).imp (unhide HP2) hto; rw [setP_setP] at h3; have L3 := hide ((unhide L2).trans l3); have H3 := hide h3; have HP3 := hide (setP_at (p' := { p with B := B3, mi := p.mr, c := p.c }) (unhide HP)); obtain ⟨gg3, _⟩ := (h3.pair (unhide HP3)).cells; dsimp only at gg3; have bx3 := (unhide L3 _ _ _ (unhide X1)).1; have z0 := cell_of_row w3 gB 0 _ _ _ bx3; simp only [List.getElem?_toArray, List.getElem?_cons_zero] at z0; clear h3 l3 hto bx3))
          have bx3 := (unhide L3 _ _ _ (unhide X1)).1
          have z2 := cell_of_row w3 gB 2 _ _ _ bx3
          simp only [List.getElem?_toArray, List.getElem?_cons_zero, List.getElem?_cons_succ] at z2
          have hr3 : RefIs w3 p.R p.mr := ((unhide H3).pair (unhide HP3)).2.2.1
          have ow := hr3.word j k hlt hkl
          rw [unhide HY] at ow
          have HLW : Hid (∃ B' O', Loc W1 O1' w3 O' ∧ LawIs H N0 w0 w3 O' (s.setP i { p with B := B', mi := p.mr, c := p.c })) := hide ⟨B3, O3, unhide L3, unhide H3⟩
          clear bx x0 x2 gg CCL bx3 hr3 z0 gg3
          have hkb2 := unhide HKB
          go_wp2
          go_roundw
          case rel => exact ⟨k + 1, by omega, by go_num, unhide HLW⟩
          case measure => simp [intOf]; omega
        · have HS : Hid (Same H N0 w0 w O s i p p.c wr) := hide ⟨B2, O2, (unhide L1).trans l2, h2⟩
          clear h2 l2
          go_wp2
          go_roundw
          case rel => exact ⟨j + 1, by omega, by go_num, unhide HS⟩
          case measure => simp [intOf]; omega
    · have HS : Hid (Same H N0 w0 w O s i p p.c wr) := hide ⟨B1, O1, l1, h1⟩
      obtain ⟨ao, cap, hv, hc1, hc2⟩ := ownsRow_shape hr1.ho
      rw [hv] at fo
      clear h1 l1 hr1 hv
      go_wp2
      go_ret
      exact ⟨rfl, unhide HS⟩
end Go.Proofs.YtgegkcjllliifabDoor
