/-
  The walks of black and Black.
-/
import Derived.Test.YtgegkcjllliifaaDoorSDark
import Derived.Test.YtgegkcjllliifaaDoorHBlack
import Derived.Test.YtgegkcjllliifaaDoorHStk
namespace Go.Proofs.YtgegkcjllliifaaDoor
open Go.RowKit

/-- Nothing lies on a page that has no size. -/
theorem Dark.atNone {n p : Nat} {s : St} (h : Dark n p s) {x : Int} (h1 : 1048576 + (p : Int) * 256 ≤ x) (h2 : x < 1048576 + (p : Int) * 256 + 256) : s.at x = none := by
  unfold St.at
  have hlt := h.lt
  rw [if_pos (by rw [h.sn]; omega)]
  unfold St.obj
  rw [show ((x - 1048576) / 8).toNat / 32 = p by omega, h.z]
  rfl
/-- The page that the first root names is the only one that is named. -/
theorem Dark.named {n p sz : Nat} {s : St} {P : List Nat} {x : Int} (h : Dark n p s) (st : Stk n sz s P) (z1 : 1 ≤ sz) (h1 : 1048576 + (p : Int) * 256 ≤ x) (h2 : x < 1048576 + (p : Int) * 256 + 256) (hr : s.roots = [x, lastA P]) (q : Nat) : s.Named q ↔ s.blk q = true := by
  have hlt := h.lt
  rw [h.blk q]
  constructor
  · intro hn
    obtain ⟨y, hy, hin, ha, hp⟩ := st.named hn
    rw [hr] at hy
    simp only [List.mem_cons, List.not_mem_nil, or_false] at hy
    rcases hy with rfl | rfl
    · rw [← hp]
      unfold pgOf
      omega
    · exfalso
      rcases Nat.eq_zero_or_pos P.length with e | e
      · have : P = [] := List.eq_nil_of_length_eq_zero e
        subst this
        have : (1048576 : Int) ≤ 0 := hin.1
        omega
      · rw [lastA_at (P.length - 1) (by omega)] at ha
        have := st.at (List.getElem_mem (show P.length - 1 < P.length by omega)) 0 (by omega) (by omega)
        rw [Int.add_zero, ha] at this
        cases this
  · rintro rfl
    refine ⟨x, .inl (by rw [hr]; simp), ⟨by omega, by rw [h.sn]; omega⟩, h.atNone h1 h2, ?_⟩
    unfold pgOf
    omega

theorem trues_one {f : Nat → Bool} {p : Nat} : ∀ {n : Nat}, p < n → (∀ q, f q = true ↔ q = p) → trues f n = [p]
  | 0, h, _ => by omega
  | n + 1, h, hf => by
    unfold trues
    by_cases e : p = n
    · subst e
      rw [(hf p).2 rfl, if_pos rfl]
      have : trues f p = [] := List.eq_nil_iff_forall_not_mem.2 fun k hk => by
        obtain ⟨k1, k2⟩ := (trues_mem f p k).1 hk
        have := (hf k).1 k2
        omega
      rw [this]
      rfl
    · rw [trues_one (by omega) hf, if_neg (fun h2 => e ((hf n).1 h2).symm), List.append_nil]

set_option maxHeartbeats 3200000 in
theorem black_any (n p sz0 : Nat) (kk : Int) (w : World) (hT : Tab w) (n1 : 1 ≤ n) (n2 : n ≤ 12) (hp : p < n) (s1 : 1 ≤ sz0) (s2 : sz0 ≤ n * 32) (k1 : -9223372036854775808 ≤ kk) (k2 : kk ≤ 9223372036854775807) :
    Calls Tryd.prog 21 #[.int .i64 n, .int .i64 p, .int .i64 sz0, .int .i64 kk] w fun e w' => e = .returned (.bool true) ∧ Below w.heap.size w w' := by
  have T := hide hT
  have Q0 := hide (quiet_any n 4 w n1 (by omega) (by omega) (by omega))
  obtain ⟨sz, z1, z2, z3, z4, z5⟩ := size_bd sz0 s1
  have zb : sz ≤ n * 32 + 31 := by omega
  have Z1 := hide z1
  have Z4 := hide z4
  clear hT z1 z3 z4 z5
  go_enter Tryd.func21, Tryd.ntmps21
  go_wp2_with fail
  refine (unhide Q0).mono ?_
  rintro e wn ⟨hb, rfl, hnew⟩
  obtain ⟨L0, h0⟩ := Hd.new (unhide T) (Below.refl _ _) hnew
  have CP := hide (saysPick_any kk 256 wn k1 k2 (by omega) (by omega))
  have hq := pickN_lt kk 256 (by omega)
  generalize pickN kk 256 = q at *
  have H0 := hide h0
  clear hnew h0
  go_wp2_with fail
  refine (unhide CP).mono ?_
  rintro e w1 ⟨rfl, rfl⟩
  have C1 := hPush_ok L0 _ (1048576 + (p : Int) * 256 + (q : Int)) w1 (unhide H0).r (by show ([] : List Int).length < 24; simp)
  rw [(unhide H0).e] at C1
  have CC1 := hide C1
  clear C1
  go_wp2_with fail
  refine (unhide CC1).mono ?_
  rintro e w2 ⟨rfl, k2'⟩
  have k2'' : HSt w1 L0 { St.init n 4 with roots := [1048576 + (p : Int) * 256 + (q : Int)] } w2 := k2'
  obtain ⟨L2, h2, _, _⟩ := (unhide H0).hst k2'' ((unhide H0).wf.roots _)
  have C2 := collect_wf L2 _ w2 h2.r h2.wf (by show 0 ≤ _; exact Nat.zero_le _)
  rw [h2.e] at C2
  have CC2 := hide C2
  have H2 := hide h2
  clear k2' k2'' h2 C2
  go_wp2_with fail
  refine (unhide CC2).mono ?_
  rintro e w3 ⟨rfl, stays, black, ag, m1, m2, m3, m4, k3⟩
  obtain ⟨L3, h3, _, _⟩ := (unhide H2).hst k3 m4
  obtain ⟨dk, ct⟩ := dark_init hp (by omega) (by omega) m1 m4
  have CO3 : Hid ((St.collected { St.init n 4 with roots := [1048576 + (p : Int) * 256 + (q : Int)] } stays black ag).colls = 1) := hide rfl
  have hr3 : (St.collected { St.init n 4 with roots := [1048576 + (p : Int) * 256 + (q : Int)] } stays black ag).roots = [1048576 + (p : Int) * 256 + (q : Int)] := rfl
  generalize hs3 : St.collected { St.init n 4 with roots := [1048576 + (p : Int) * 256 + (q : Int)] } stays black ag = s3 at *
  have C3 := hBlack_any L3 s3 w3 h3.r
  rw [h3.e, dk.sn, trues_one hp dk.blk] at C3
  have CC3 := hide C3
  have H3 := hide h3
  have DK := hide dk
  have CT := hide ct
  have HR3 := hide hr3
  clear m1 m2 m3 m4 k3 h3 dk ct hr3 hs3 C3
  go_wp2_with fail
  refine (unhide CC3).mono ?_
  rintro e w4 ⟨g, rfl, hg1, hg2, b4⟩
  have c4 : w4.cell? ⟨g, 0, none⟩ = some (.int .i64 (p : Int)) := by
    rw [cell_of_row w4 g 0 _ _ _ hg2]
    simp [nats]
  have h4 := (unhide H3).below b4
  have C4 := hPush_ok L3 s3 0 w4 h4.r (by rw [unhide HR3]; simp)
  rw [h4.e, unhide HR3] at C4
  have CC4 := hide C4
  have H4 := hide h4
  have l1 : ([p] : List Nat).length = 1 := rfl
  clear hg1 hg2 b4 h4 C4
  rw [l1]
  clear l1
  go_wp2_with fail
  refine (unhide CC4).mono ?_
  rintro e w5 ⟨rfl, k5⟩
  obtain ⟨L5, h5, _, _⟩ := (unhide H4).hst k5 ((unhide H4).wf.roots _)
  have H5 := hide h5
  have DK5 := hide ((unhide DK).roots ([1048576 + (p : Int) * 256 + (q : Int)] ++ [0]))
  clear k5 h5 c4
  go_wp2
  go_loopw [12, 13] (fun hv cv wr => ∃ (c : Nat) (P : List Nat) (L : HL) (s : St), hv = .int .i64 (lastA P) ∧ cv = .int .i64 c ∧ c ≤ n * 32 ∧ Hid (P.length = c) ∧ Hid (Dark n p s) ∧ Hid (Stk n sz s P) ∧ Hid (s.roots = [1048576 + (p : Int) * 256 + (q : Int), lastA P]) ∧ Hid (s.colls = 1) ∧ Hid (Hd w wr hb L s)) (fun _ cv _ => 400 - (intOf cv).toNat)
  case atStart => exact ⟨0, [], L5, _, rfl, rfl, Nat.zero_le _, hide rfl, DK5, hide (Stk.nil (unhide DK5).sn (unhide DK5).wf (unhide CT)), hide rfl, CO3, H5⟩
  case round =>
    clear H5 DK5 DK CT HR3
    obtain ⟨c, P, L, s, rfl, rfl, hc, PL, DK, SK, RT, CO, HD⟩ := hrel
    cases hpl : s.place sz false with
    | none =>
      have C6 := hide (hd_full (unhide HD) (unhide SK) (by rw [unhide RT]; simp) ((unhide DK).named (unhide SK) (by omega) (by omega) (by omega) (unhide RT)) (by rw [unhide CO]; omega) s1 (by rw [(unhide DK).sn]; exact s2) (unhide Z1) hpl)
      clear hpl
      go_wp2_with fail
      refine (unhide C6).mono ?_
      rintro e w6 ⟨rfl, L6, t6, h6, st6, tr6, tk6, tb6, tc6, ts6, tba6, _⟩
      have H6 := hide h6
      have RL : Hid (t6.roots.length = 2) := hide (by rw [tr6, unhide RT]; rfl)
      have DK6 : Hid (Dark n p t6) := hide (by
        have d := unhide DK
        exact ⟨st6.sn, h6.wf, d.lt, fun q => by rw [tk6]; exact d.blk q, by rw [ts6]; exact d.z, by have := d.nb; unfold St.any at this ⊢; rw [tb6]; exact this⟩)
      have CO6 : Hid (t6.colls ≤ 2 + 0) := hide (by rw [tc6, unhide CO]; omega)
      clear h6 st6 tr6 tk6 tb6 tc6 ts6 tba6
      go_wp2
      go_loopw [18, 19] (fun hv iv wr => ∃ (i : Nat) (hit : Bool) (L : HL) (s : St), iv = .int .i64 i ∧ hv = .bool hit ∧ i ≤ n + 1 ∧ Hid (s.n = n) ∧ Hid (s.roots.length = 2 + i) ∧ Hid (s.colls ≤ 2 + i) ∧ Hid (hit = false → Dark n p s ∧ i ≤ cntF s.held n) ∧ Hid (Hd w wr hb L s)) (fun _ iv _ => 20 - (intOf iv).toNat)
      case atStart => exact ⟨0, false, L6, t6, rfl, rfl, by omega, hide (unhide DK6).sn, RL, CO6, hide (fun _ => ⟨unhide DK6, Nat.zero_le _⟩), H6⟩
      case round =>
        clear H6 RL DK RT HD DK6 SK CO CO6 PL hc
        obtain ⟨i, hit, L, s, rfl, rfl, hi, SN, RL, CO, DH, HD⟩ := hrel
        by_cases hin : i ≤ n
        · cases hit
          · obtain ⟨dk, hcnt⟩ := unhide DH rfl
            obtain ⟨k, F, hpl, al⟩ := dk.room
            have C7 := hide (hd_alloc (unhide HD) 32 32 k true (by omega) (by rw [unhide SN]; omega) (by decide) hpl)
            have DK := hide dk
            have AL := hide al
            have HC := hide hcnt
            have hkF : k = F * 32 := al.pos
            have hFn : F < n := by have := al.le; rw [dk.sn] at this; omega
            have HKF := hide hkF
            clear dk hcnt hpl al hkF
            go_wp2_with fail
            refine (unhide C7).mono ?_
            rintro e w7 ⟨rfl, h7, l7, _⟩
            generalize hs7 : s.laid k 32 true = t at *
            have hr7 : t.roots.length = 2 + i := by rw [l7.roots]; exact unhide RL
            have C8 := hPush_ok L t (1048576 + (k : Int) * 8) w7 h7.r (by rw [hr7]; omega)
            rw [h7.e] at C8
            have CC8 := hide C8
            have H7 := hide h7
            have L7 := hide l7
            have HR7 := hide hr7
            have TN : Hid (t.n = n) := l7.n.trans (unhide SN)
            have CO7 : Hid (t.colls ≤ 2 + (i + 1)) := hide (by rw [l7.colls]; have := unhide CO; omega)
            clear hs7 h7 l7 hr7 C8
            go_wp2_with fail
            refine (unhide CC8).mono ?_
            rintro e w8 ⟨rfl, k8⟩
            obtain ⟨L8, h8, _, _⟩ := (unhide H7).hst k8 ((unhide H7).wf.roots _)
            have H8 := hide h8
            have RL8 : Hid ((St.roots { t with roots := t.roots ++ [1048576 + (k : Int) * 8] }).length = 2 + (i + 1)) := hide (by show (t.roots ++ [_]).length = _; rw [List.length_append, unhide HR7]; rfl)
            clear k8 h8
            by_cases ep : F = p
            · have ce : (1048576 + (k : Int) * 8 == 1048576 + (p : Int) * 256) = true := by have := unhide HKF; simp; omega
              go_wp2
              go_roundw
              case rel => exact ⟨i + 1, true, L8, { t with roots := t.roots ++ [1048576 + (k : Int) * 8] }, by go_num, rfl, by omega, TN, RL8, CO7, hide (fun h => by cases h), H8⟩
              case measure => simp [intOf]; omega
            · have ce : (1048576 + (k : Int) * 8 == 1048576 + (p : Int) * 256) = false := by have := unhide HKF; simp; omega
              have D8 : Hid (Dark n p { t with roots := t.roots ++ [1048576 + (k : Int) * 8] } ∧ i + 1 ≤ cntF (St.held { t with roots := t.roots ++ [1048576 + (k : Int) * 8] }) n) := hide ⟨((unhide DK).lay (by omega) (unhide L7) (fun j hj => by have := unhide HKF; omega)).roots _, by
                have a := (unhide DK).more (unhide AL) (unhide L7)
                have b := unhide HC
                show i + 1 ≤ cntF t.held n
                omega⟩
              clear ep
              go_wp2
              go_roundw
              case rel => exact ⟨i + 1, false, L8, { t with roots := t.roots ++ [1048576 + (k : Int) * 8] }, by go_num, rfl, by omega, TN, RL8, CO7, hide (fun _ => unhide D8), H8⟩
              case measure => simp [intOf]; omega
          · have C7 := hide (hd_any (unhide HD) (by have := unhide CO; omega) 32 32 true (by omega) (by rw [unhide SN]; omega) (by decide))
            go_wp2_with fail
            refine (unhide C7).mono ?_
            rintro e w7 ⟨L7, t, h7, t1, t2, t3, he⟩
            have hr7 : t.roots.length = 2 + i := by rw [t2]; exact unhide RL
            have H7 := hide h7
            have HR7 := hide hr7
            have TN : Hid (t.n = n) := t1.trans (unhide SN)
            have CO7 : Hid (t.colls ≤ 2 + (i + 1)) := hide (by have := unhide CO; omega)
            clear h7 t1 t2 t3 hr7
            rcases he with rfl | ⟨k, hk, rfl⟩
            · have HB := hide (unhide H7).b
              go_wp2
              go_ret
              exact ⟨rfl, unhide HB⟩
            · have C8 := hPush_ok L7 t (1048576 + (k : Int) * 8) w7 (unhide H7).r (by rw [unhide HR7]; omega)
              rw [(unhide H7).e] at C8
              have CC8 := hide C8
              clear C8
              go_wp2_with fail
              refine (unhide CC8).mono ?_
              rintro e w8 ⟨rfl, k8⟩
              obtain ⟨L8, h8, _, _⟩ := (unhide H7).hst k8 ((unhide H7).wf.roots _)
              have H8 := hide h8
              have RL8 : Hid ((St.roots { t with roots := t.roots ++ [1048576 + (k : Int) * 8] }).length = 2 + (i + 1)) := hide (by show (t.roots ++ [_]).length = _; rw [List.length_append, unhide HR7]; rfl)
              clear k8 h8
              go_wp2
              go_roundw
              case rel => exact ⟨i + 1, true, L8, { t with roots := t.roots ++ [1048576 + (k : Int) * 8] }, by go_num, rfl, by omega, TN, RL8, CO7, hide (fun h => by cases h), H8⟩
              case measure => simp [intOf]; omega
        · cases hit
          · exfalso
            obtain ⟨dk, hcnt⟩ := unhide DH rfl
            have := dk.bound
            omega
          · have HB := hide (unhide HD).b
            go_wp2
            go_ret
            exact ⟨rfl, unhide HB⟩
    | some k =>
      have C6 := hide (hd_alloc (unhide HD) sz0 sz k false s1 (by rw [(unhide DK).sn]; exact s2) (unhide Z1) hpl)
      have aw : ∀ j, j < (sz + 31) / 32 → k / 32 + j ≠ p := ((unhide DK).away (by omega) hpl).elim id (fun h => by cases h.1)
      have AW := hide aw
      clear hpl aw
      go_wp2_with fail
      refine (unhide C6).mono ?_
      rintro e w6 ⟨rfl, h6, l6, _⟩
      generalize hs6 : s.laid k sz false = t at *
      have hclr := (unhide DK).clear (by omega) (fun h => (unhide Z4 h).1) l6 (unhide AW)
      have DK6 := hide ((unhide DK).lay (by omega) l6 (unhide AW))
      have hat := l6.at (unhide DK).wf (by omega) (1048576 + (k : Int) * 8)
      rw [if_pos (by omega)] at hat
      have hlt6 := l6.lt
      rw [(unhide DK).sn] at hlt6
      obtain ⟨sk6, _⟩ := (unhide SK).lay (by omega) l6
      have SK6 := hide sk6
      have hcb : c + 1 ≤ n * 32 := by
        have a := sk6.cnt
        rw [List.length_append, unhide PL] at a
        have b := cntF_le (t.setWd k (lastA P)).beg (n * 32)
        simp only [List.length_singleton] at a
        omega
      have CO6 : Hid (t.colls = 1) := hide (l6.colls.trans (unhide CO))
      have LA : Hid (lastA (P ++ [k]) = 1048576 + (k : Int) * 8) := hide (lastA_append P k)
      have CS := hSize_some L t _ w6 h6.r h6.wf.ok k hat
      rw [h6.e, (l6.sizeNew (by omega)).1] at CS
      have CCS := hide CS
      have HAT := hide hat
      have H6 := hide h6
      have RT6 : Hid (t.roots = [1048576 + (p : Int) * 256 + (q : Int), lastA P]) := l6.roots.trans (unhide RT)
      have TN : Hid (t.n = n) := l6.n.trans (unhide DK).sn
      clear hs6 h6 l6 hat CS sk6
      go_wp2_with fail
      refine (unhide CCS).mono ?_
      rintro e w7 ⟨rfl, b7⟩
      have h7 := (unhide H6).below b7
      have C8 := hStore_ok L t (1048576 + (k : Int) * 8) (lastA P) k k w7 h7.r h7.wf.ok (by omega) (unhide HAT) (by omega) (by omega) (by rw [unhide TN]; omega)
      rw [h7.e] at C8
      have CC8 := hide C8
      have H7 := hide h7
      clear b7 h7 C8
      rcases hclr with hcl | hcl
      · have hcl' : 1048576 + (k : Int) * 8 + 8 * (sz : Int) ≤ 1048576 + (p : Int) * 256 := by omega
        clear hcl
        go_wp2_with fail
        refine (unhide CC8).mono ?_
        rintro e w8 ⟨rfl, r8, t8⟩
        have h8 := (unhide H7).touch r8 ((unhide H7).wf.setWd _ _) t8
        have hrt : (t.setWd k (lastA P)).roots = [1048576 + (p : Int) * 256 + (q : Int), lastA P] := unhide RT6
        have C9 := hSet_ok L _ 1 (1048576 + (k : Int) * 8) w8 h8.r (by rw [hrt]; simp)
        rw [h8.e, hrt] at C9
        have CC9 := hide C9
        have H8 := hide h8
        clear r8 t8 h8 hrt C9
        go_wp2_with fail
        refine (unhide CC9).mono ?_
        rintro e w9 ⟨rfl, k9⟩
        obtain ⟨L9, h9, _, _⟩ := (unhide H8).hst k9 ((unhide H8).wf.roots _)
        have H9 := hide h9
        have DK9 := hide (((unhide DK6).setWd k (lastA P)).roots (List.set [1048576 + (p : Int) * 256 + (q : Int), lastA P] 1 (1048576 + (k : Int) * 8)))
        clear k9 h9
        go_wp2
        go_roundw
        case rel => exact ⟨c + 1, P ++ [k], L9, _, by rw [unhide LA], by go_num, hcb, hide (by rw [List.length_append, unhide PL]; rfl), DK9, hide ((unhide SK6).roots _), hide (by rw [unhide LA]; rfl), CO6, H9⟩
        case measure => simp [intOf]; omega
      · have hcl' : (p : Int) * 256 + 256 ≤ (k : Int) * 8 := by omega
        clear hcl
        go_wp2_with fail
        refine (unhide CC8).mono ?_
        rintro e w8 ⟨rfl, r8, t8⟩
        have h8 := (unhide H7).touch r8 ((unhide H7).wf.setWd _ _) t8
        have hrt : (t.setWd k (lastA P)).roots = [1048576 + (p : Int) * 256 + (q : Int), lastA P] := unhide RT6
        have C9 := hSet_ok L _ 1 (1048576 + (k : Int) * 8) w8 h8.r (by rw [hrt]; simp)
        rw [h8.e, hrt] at C9
        have CC9 := hide C9
        have H8 := hide h8
        clear r8 t8 h8 hrt C9
        go_wp2_with fail
        refine (unhide CC9).mono ?_
        rintro e w9 ⟨rfl, k9⟩
        obtain ⟨L9, h9, _, _⟩ := (unhide H8).hst k9 ((unhide H8).wf.roots _)
        have H9 := hide h9
        have DK9 := hide (((unhide DK6).setWd k (lastA P)).roots (List.set [1048576 + (p : Int) * 256 + (q : Int), lastA P] 1 (1048576 + (k : Int) * 8)))
        clear k9 h9
        go_wp2
        go_roundw
        case rel => exact ⟨c + 1, P ++ [k], L9, _, by rw [unhide LA], by go_num, hcb, hide (by rw [List.length_append, unhide PL]; rfl), DK9, hide ((unhide SK6).roots _), hide (by rw [unhide LA]; rfl), CO6, H9⟩
        case measure => simp [intOf]; omega

set_option maxHeartbeats 800000 in
theorem Black_any (a b c : Int) (w : World) (hT : Tab w) (a1 : -9223372036854775808 ≤ a) (a2 : a ≤ 9223372036854775807) (b1 : -9223372036854775808 ≤ b) (b2 : b ≤ 9223372036854775807) (c1 : -9223372036854775808 ≤ c) (c2 : c ≤ 9223372036854775807) :
    Calls Tryd.prog 11 #[.int .i64 a, .int .i64 b, .int .i64 c] w fun e w' => e = .returned (.bool true) ∧ Below w.heap.size w w' := by
  have CP := hide (saysPick_any a 12 w a1 a2 (by omega) (by omega))
  have CP3 := hide (saysPick_any c 96 w c1 c2 (by omega) (by omega))
  have hp := pickN_lt a 12 (by omega)
  have hr := pickN_lt c 96 (by omega)
  generalize pickN a 12 = p at *
  generalize pickN c 96 = r at *
  have CP2 := saysPick_any b (1 + p) w b1 b2 (by omega) (by omega)
  rw [show ((1 + p : Nat) : Int) = 1 + (p : Int) by omega] at CP2
  have CCP2 := hide CP2
  have hq := pickN_lt b (1 + p) (by omega)
  generalize pickN b (1 + p) = q at *
  have C : Hid (∀ z : Nat, 1 ≤ z → z ≤ (1 + p) * 32 → Calls Tryd.prog 21 #[.int .i64 (1 + (p : Int)), .int .i64 q, .int .i64 z, .int .i64 b] w fun e w' => e = .returned (.bool true) ∧ Below w.heap.size w w') := hide (fun z h1 h2 => by
    have := black_any (1 + p) q z b w hT (by omega) (by omega) hq h1 h2 b1 b2
    rw [show ((1 + p : Nat) : Int) = 1 + (p : Int) by omega] at this
    exact this)
  clear hT CP2
  by_cases cz : 1 + r ≤ (1 + p) * 32
  · have CZ := unhide C (1 + r) (by omega) cz
    rw [show ((1 + r : Nat) : Int) = 1 + (r : Int) by omega] at CZ
    have CCZ := hide CZ
    have cz' : 1 + (r : Int) ≤ (1 + (p : Int)) * 32 := by omega
    clear CZ cz C
    go_enter Tryd.func11, Tryd.ntmps11
    go_wp2_with fail
    refine (unhide CP).mono ?_
    rintro e w1 ⟨rfl, rfl⟩
    go_wp2_with fail
    refine (unhide CCP2).mono ?_
    rintro e w1 ⟨rfl, rfl⟩
    go_wp2_with fail
    refine (unhide CP3).mono ?_
    rintro e w1 ⟨rfl, rfl⟩
    go_wp2_with (go_at_call 21; refine (unhide CCZ).mono ?_; rintro e w1 ⟨rfl, hb⟩)
    go_ret
    exact ⟨rfl, by assumption⟩
  · have CZ := unhide C ((1 + p) * 32) (by omega) (Nat.le_refl _)
    rw [show (((1 + p) * 32 : Nat) : Int) = (1 + (p : Int)) * 32 by omega] at CZ
    have CCZ := hide CZ
    have cz' : (1 + (p : Int)) * 32 < 1 + (r : Int) := by omega
    clear CZ cz C
    go_enter Tryd.func11, Tryd.ntmps11
    go_wp2_with fail
    refine (unhide CP).mono ?_
    rintro e w1 ⟨rfl, rfl⟩
    go_wp2_with fail
    refine (unhide CCP2).mono ?_
    rintro e w1 ⟨rfl, rfl⟩
    go_wp2_with fail
    refine (unhide CP3).mono ?_
    rintro e w1 ⟨rfl, rfl⟩
    go_wp2_with (go_at_call 21; refine (unhide CCZ).mono ?_; rintro e w1 ⟨rfl, hb⟩)
    go_ret
    exact ⟨rfl, by assumption⟩
end Go.Proofs.YtgegkcjllliifaaDoor
