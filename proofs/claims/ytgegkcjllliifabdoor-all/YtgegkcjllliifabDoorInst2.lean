/-
  The program's heap is what the laws ask for: the rest, and the whole.
-/
import Derived.Test.YtgegkcjllliifabDoorInst
namespace Go.Proofs.YtgegkcjllliifabDoor
open Go.RowKit

theorem at_of {s : St} (h : WF s) {kept : Nat} {x : Int} {i : Nat} (hi : i < (absM s kept).objs.length) (hf : (absM s kept).find x = i) : ∃ k, s.T[i]? = some k ∧ s.at x = some k ∧ (absM s kept).objs[i] = obOf s k ∧ s.beg k = true ∧ k < s.n * 32 ∧ s.lies k x := by
  obtain ⟨k, h1, h2⟩ := find_at h kept hf
  obtain ⟨_, e⟩ := obj_at s kept h1
  obtain ⟨b1, b2⟩ := T_beg (List.mem_of_getElem? h1)
  exact ⟨k, h1, h2, e, b1, b2, ((at_iff h).1 h2).2⟩

theorem i_free {w : World} {L : HL} {s : St} {kept : Nat} (h : HIn w L s kept) (x : Int) (i : Nat) (hi : i < (absM s kept).objs.length) (hf : (absM s kept).find x = i) (hp : ((absM s kept).objs[i]).pos = x) :
    Calls Tryd.prog 24 #[.pointer (some ⟨L.h, 0, none⟩), .int .i64 x] w fun e w' => e = .returned (.int .i64 0) ∧ ∃ c', HTo hIs w L.blocks L.h { absM s kept with objs := (absM s kept).objs.eraseIdx i } c' w' := by
  obtain ⟨k, h1, h2, e, b1, b2, _⟩ := at_of h.wf hi hf
  rw [e] at hp
  have ex : x = 1048576 + (k : Int) * 8 := hp.symm
  rw [ex] at h2
  rw [ex]
  refine (hFree_ok L s k w h.rep h.wf.ok h2 (h.wf.rb (by omega))).mono ?_
  rintro e w' ⟨he, rep, t⟩
  have d := dropped_to h.wf b1
  refine ⟨he, (s.dropped k).cn, ?_⟩
  rw [← absM_drop d h1 kept]
  exact hto_st (HSt.of rep t) d.wf (by rw [d.again]; exact h.a1) (by rw [d.again, d.room]; exact h.a2)

theorem i_load {w : World} {L : HL} {s : St} {kept : Nat} (h : HIn w L s kept) (x : Int) (i k : Nat) (hi : i < (absM s kept).objs.length) (hk : k < ((absM s kept).objs[i]).ws.length) (h8 : x % 8 = 0) (hf : (absM s kept).find x = i) (hq : (x - ((absM s kept).objs[i]).pos) / 8 = k) :
    Calls Tryd.prog 29 #[.pointer (some ⟨L.h, 0, none⟩), .int .i64 x] w fun e w' => e = .returned (.tuple #[.int .i64 (((absM s kept).objs[i]).ws[k]), .int .i64 0]) ∧ HTo hIs w L.blocks L.h (absM s kept) s.cn w' := by
  obtain ⟨f, h1, h2, e, b1, b2, l1, l2⟩ := at_of h.wf hi hf
  have hw : (((absM s kept).objs[i]).ws[k]) = s.word (f + k) := by
    have : (((absM s kept).objs[i]).ws[k]?) = some (s.word (f + k)) := by
      rw [e] at hk ⊢
      rw [obOf_len] at hk
      simp [obOf, hk]
    rw [List.getElem?_eq_getElem hk] at this
    exact Option.some.inj this
  rw [hw]
  have hin := St.at_in h2
  unfold St.inHeap at hin
  have hq' : (x - adr f) / 8 = k := by rw [e] at hq; exact hq
  unfold adr at hq'
  refine (hLoad_ok L s x (f + k) f w h.rep h.wf.ok h8 h2 (by omega) hin.1 (by omega)).mono ?_
  rintro e w' ⟨he, hb⟩
  exact ⟨he, hto_same h hb⟩

theorem i_store {w : World} {L : HL} {s : St} {kept : Nat} (h : HIn w L s kept) (x y : Int) (i k : Nat) (hi : i < (absM s kept).objs.length) (hk : k < ((absM s kept).objs[i]).ws.length) (h8 : x % 8 = 0) (hf : (absM s kept).find x = i) (hq : (x - ((absM s kept).objs[i]).pos) / 8 = k) :
    Calls Tryd.prog 22 #[.pointer (some ⟨L.h, 0, none⟩), .int .i64 x, .int .i64 y] w fun e w' => e = .returned (.int .i64 0) ∧ ∃ c', HTo hIs w L.blocks L.h { absM s kept with objs := (absM s kept).objs.set i { (absM s kept).objs[i] with ws := ((absM s kept).objs[i]).ws.set k y } } c' w' := by
  obtain ⟨f, h1, h2, e, b1, b2, l1, l2⟩ := at_of h.wf hi hf
  have hin := St.at_in h2
  unfold St.inHeap at hin
  have hq' : (x - adr f) / 8 = k := by rw [e] at hq; exact hq
  unfold adr at hq'
  have hk' : k < (s.size (f / 32)).toNat := by rw [e, obOf_len] at hk; exact hk
  refine (hStore_ok L s x y (f + k) f w h.rep h.wf.ok h8 h2 (by omega) hin.1 (by omega)).mono ?_
  rintro e' w' ⟨he, rep, t⟩
  refine ⟨he, (s.setWd (f + k) y).cn, ?_⟩
  rw [← absM_store h.wf h1 hk' y kept hi]
  exact hto_st (HSt.of rep t) (h.wf.setWd _ _) h.a1 h.a2

theorem own_ints {w : World} {g n : Nat} {l : List Int} {xs : List Value} (h : w.heap[g]? = some (.cells xs.toArray 3 (0, 0))) (hx : xs = ints l) (hl : l.length = n) (hn : n ≤ 100000) : w.ownsRow 0 3 1 (.slice (some ⟨g, 0, none⟩) n n) n (ints l) := by
  subst hx
  refine ⟨by simp [ints, hl], .inr ⟨g, n, _, rfl, Nat.zero_le _, h, Nat.le_refl _, by unfold maxLen; omega, by simp [ints, hl], ?_⟩⟩
  rw [List.take_of_length_le (by simp [ints, hl])]

theorem i_list {w w' : World} {L : HL} {s : St} {kept : Nat} (h : HIn w L s kept) {g : Nat} (hg : w.heap.size ≤ g) (hb : Below w.heap.size w w') : ∃ B', hIs w' B' L.h (absM s kept) s.cn ∧ (∀ k, k ∈ B' → k ∈ L.blocks ∨ w.heap.size ≤ k) ∧ Touch L.blocks w w' ∧ ∀ q, some (⟨g, 0, none⟩ : Addr) = some q → w.heap.size ≤ q.block ∧ q.block ∉ B' := by
  refine ⟨L.blocks, ⟨L, s, kept, rfl, rfl, ⟨h.rep.below hb, h.wf, h.a1, h.a2⟩, rfl, rfl⟩, fun k hk => .inl hk, Touch.of_below hb, fun q hq => ?_⟩
  cases hq
  exact ⟨hg, fun hm => by have : g < w.heap.size := h.rep.lt _ hm; omega⟩
theorem i_walk {w : World} {L : HL} {s : St} {kept : Nat} (h : HIn w L s kept) :
    Calls Tryd.prog 30 #[.pointer (some ⟨L.h, 0, none⟩)] w fun e w' => ∃ ao, e = .returned (.slice ao (absM s kept).objs.length (absM s kept).objs.length) ∧ IntsOf w' (.slice ao (absM s kept).objs.length (absM s kept).objs.length) ((absM s kept).objs.map Ob.pos) ∧ ∃ B', hIs w' B' L.h (absM s kept) s.cn ∧ (∀ k, k ∈ B' → k ∈ L.blocks ∨ w.heap.size ≤ k) ∧ Touch L.blocks w w' ∧ ∀ g, ao = some g → w.heap.size ≤ g.block ∧ g.block ∉ B' := by
  refine (hWalk_any L s w h.rep).mono ?_
  rintro e w' ⟨g, he, hg, hh, hb⟩
  have hl : (trues s.beg (s.n * 32)).length = (absM s kept).objs.length := by simp [absM, St.T]
  have hn := h.rep.n2
  have ht := T_len s
  have hl2 : (absM s kept).objs.length ≤ 100000 := by simp only [absM, List.length_map]; omega
  rw [hl] at he
  refine ⟨some ⟨g, 0, none⟩, he, ?_, i_list h hg hb⟩
  unfold IntsOf
  rw [List.length_map]
  refine own_ints hh ?_ (by rw [List.length_map]) hl2
  unfold ints absM St.T
  rw [List.map_map, List.map_map]
  rfl
theorem black_list (s : St) (kept : Nat) : blackList (absM s kept).black = (trues s.blk s.n).map fun (k : Nat) => (k : Int) := by
  unfold blackList
  rw [trues_filter]
  have hl : (absM s kept).black.length = s.n := by simp [absM]
  rw [hl]
  congr 1
  refine List.filter_congr fun k hk => ?_
  exact black_at s kept (by simpa using hk)
theorem i_black {w : World} {L : HL} {s : St} {kept : Nat} (h : HIn w L s kept) :
    Calls Tryd.prog 76 #[.pointer (some ⟨L.h, 0, none⟩)] w fun e w' => ∃ ao, e = .returned (.slice ao (blackList (absM s kept).black).length (blackList (absM s kept).black).length) ∧ IntsOf w' (.slice ao (blackList (absM s kept).black).length (blackList (absM s kept).black).length) (blackList (absM s kept).black) ∧ ∃ B', hIs w' B' L.h (absM s kept) s.cn ∧ (∀ k, k ∈ B' → k ∈ L.blocks ∨ w.heap.size ≤ k) ∧ Touch L.blocks w w' ∧ ∀ g, ao = some g → w.heap.size ≤ g.block ∧ g.block ∉ B' := by
  refine (hBlack_any L s w h.rep).mono ?_
  rintro e w' ⟨g, he, hg, hh, hb⟩
  have hn := h.rep.n2
  have hl : (trues s.blk s.n).length = (blackList (absM s kept).black).length := by rw [black_list, List.length_map]
  have hl2 : (blackList (absM s kept).black).length ≤ 100000 := by rw [← hl, trues_length]; have := cntF_le s.blk s.n; omega
  rw [hl] at he
  refine ⟨some ⟨g, 0, none⟩, he, ?_, i_list h hg hb⟩
  unfold IntsOf
  refine own_ints hh ?_ rfl hl2
  rw [black_list]
  unfold ints nats
  rw [List.map_map]
  rfl
theorem i_counts {w : World} {L : HL} {s : St} {kept : Nat} (h : HIn w L s kept) :
    Calls Tryd.prog 43 #[.pointer (some ⟨L.h, 0, none⟩)] w fun e w' => e = .returned (.agg #[.int .i64 (absM s kept).objs.length, .int .i64 (absM s kept).words, .int .i64 (absM s kept).runs, .int .i64 s.cn.again, .int .i64 s.cn.used, .int .i64 s.cn.unswept]) ∧ HTo hIs w L.blocks L.h (absM s kept) s.cn w' := by
  refine (counts_any L s w h.rep fun p hp => ⟨h.wf.z0 p hp, h.wf.z1 p hp⟩).mono ?_
  rintro e w' ⟨he, hb⟩
  refine ⟨?_, hto_same h hb⟩
  rw [he, sumW_words h.wf]
  have hl : (absM s kept).objs.length = cntF s.beg (s.n * 32) := by simp only [absM, List.length_map, St.T, trues_length]
  rw [hl]
  rfl

def heapI : HeapI where
  is := hIs
  glob := Tab
  ng := 1
  globFrame := tab_frame
  frame := hIs_frame
  lt := by
    rintro w B a m c ⟨L, s, kept, rfl, rfl, h, rfl, rfl⟩ k hk
    exact h.rep.lt k hk
  geo := by
    rintro w B a m c ⟨L, s, kept, rfl, rfl, h, rfl, rfl⟩
    exact absM_geo h.rep h.wf kept
  cok := by
    rintro w B a m c ⟨L, s, kept, rfl, rfl, h, rfl, rfl⟩
    exact absM_cok h.wf kept h.a1 h.a2
  new_ok := fun n r t w _ h1 h2 h3 h4 h5 => i_new n r t w h1 h2 h3 h4 h5
  new_err := fun n r t w _ h => hNew_err n r t w h
  alloc_size := by
    rintro w B a m c n at' _ ⟨L, s, kept, rfl, rfl, h, rfl, rfl⟩ hn
    exact (hAlloc_size L s n at' w h.rep hn).mono fun e w' ⟨he, hw⟩ => ⟨he, by rw [hw]; exact hto_id h⟩
  alloc := by
    rintro w B a m c n words at' T ⟨L, s, kept, rfl, rfl, h, rfl, rfl⟩ hr h1 h2 hz
    exact i_alloc h T hr n words at' h1 h2 hz
  free_none := by
    rintro w B a m c x _ ⟨L, s, kept, rfl, rfl, h, rfl, rfl⟩ hf
    exact (hFree_none L s x w h.rep h.wf.ok ((find_none h.wf kept x).1 hf)).mono fun e w' ⟨he, hb⟩ => ⟨he, hto_same h hb⟩
  free_base := by
    rintro w B a m c x i hi _ ⟨L, s, kept, rfl, rfl, h, rfl, rfl⟩ hf hne
    obtain ⟨k, h1, h2, e, b1, b2, _⟩ := at_of h.wf hi hf
    rw [e] at hne
    exact (hFree_base L s x k w h.rep h.wf.ok h2 hne).mono fun e w' ⟨he, hb⟩ => ⟨he, hto_same h hb⟩
  free_ok := by
    rintro w B a m c x i hi _ ⟨L, s, kept, rfl, rfl, h, rfl, rfl⟩ hf hp
    exact i_free h x i hi hf hp
  base_none := by
    rintro w B a m c x _ ⟨L, s, kept, rfl, rfl, h, rfl, rfl⟩ hf
    exact (hBase_none L s x w h.rep h.wf.ok ((find_none h.wf kept x).1 hf)).mono fun e w' ⟨he, hb⟩ => ⟨he, hto_same h hb⟩
  base_ok := by
    rintro w B a m c x i hi _ ⟨L, s, kept, rfl, rfl, h, rfl, rfl⟩ hf
    obtain ⟨k, h1, h2, e, b1, b2, _⟩ := at_of h.wf hi hf
    rw [e]
    exact (hBase_some L s x k w h.rep h.wf.ok h2).mono fun e w' ⟨he, hb⟩ => ⟨he, hto_same h hb⟩
  size_none := by
    rintro w B a m c x _ ⟨L, s, kept, rfl, rfl, h, rfl, rfl⟩ hf
    exact (hSize_none L s x w h.rep h.wf.ok ((find_none h.wf kept x).1 hf)).mono fun e w' ⟨he, hb⟩ => ⟨he, hto_same h hb⟩
  size_ok := by
    rintro w B a m c x i hi _ ⟨L, s, kept, rfl, rfl, h, rfl, rfl⟩ hf
    obtain ⟨k, h1, h2, e, b1, b2, _⟩ := at_of h.wf hi hf
    rw [e, obOf_len]
    have hz := (h.wf.bg k b1).2.1
    have := hSize_some L s x w h.rep h.wf.ok k h2
    rw [show s.size (k / 32) = ((s.size (k / 32)).toNat : Int) by omega] at this
    exact this.mono fun e w' ⟨he, hb⟩ => ⟨he, hto_same h hb⟩
  load_err := by
    rintro w B a m c x _ ⟨L, s, kept, rfl, rfl, h, rfl, rfl⟩ hf
    exact (hLoad_err L s x w h.rep h.wf.ok (hf.imp id (find_none h.wf kept x).1)).mono fun e w' ⟨he, hb⟩ => ⟨he, hto_same h hb⟩
  load_ok := by
    rintro w B a m c x i k hi hk _ ⟨L, s, kept, rfl, rfl, h, rfl, rfl⟩ h8 hf hq
    exact i_load h x i k hi hk h8 hf hq
  store_err := by
    rintro w B a m c x y _ ⟨L, s, kept, rfl, rfl, h, rfl, rfl⟩ hf
    exact (hStore_err L s x y w h.rep h.wf.ok (hf.imp id (find_none h.wf kept x).1)).mono fun e w' ⟨he, hb⟩ => ⟨he, hto_same h hb⟩
  store_ok := by
    rintro w B a m c x y i k hi hk _ ⟨L, s, kept, rfl, rfl, h, rfl, rfl⟩ h8 hf hq
    exact i_store h x y i k hi hk h8 hf hq
  push_full := by
    rintro w B a m c x _ ⟨L, s, kept, rfl, rfl, h, rfl, rfl⟩ hl
    exact (hPush_full L s x w h.rep hl).mono fun e w' ⟨he, hw⟩ => ⟨he, by rw [hw]; exact hto_id h⟩
  push_ok := by
    rintro w B a m c x _ ⟨L, s, kept, rfl, rfl, h, rfl, rfl⟩ hl
    exact (hPush_ok L s x w h.rep hl).mono fun e w' ⟨he, hs⟩ => ⟨he, _, hto_st (kept := kept) hs (h.wf.roots' _) h.a1 h.a2⟩
  pop_none := by
    rintro w B a m c _ ⟨L, s, kept, rfl, rfl, h, rfl, rfl⟩ hl
    exact (hPop_none L s w h.rep hl).mono fun e w' ⟨he, hw⟩ => ⟨he, by rw [hw]; exact hto_id h⟩
  pop_ok := by
    rintro w B a m c q _ ⟨L, s, kept, rfl, rfl, h, rfl, rfl⟩ hl
    exact (hPop_ok L s q w h.rep hl).mono fun e w' ⟨he, hs⟩ => ⟨he, _, hto_st (kept := kept) hs (h.wf.roots' _) h.a1 h.a2⟩
  set_none := by
    rintro w B a m c i x _ ⟨L, s, kept, rfl, rfl, h, rfl, rfl⟩ hl
    exact (hSet_none L s i x w h.rep hl).mono fun e w' ⟨he, hw⟩ => ⟨he, by rw [hw]; exact hto_id h⟩
  set_ok := by
    rintro w B a m c i x _ ⟨L, s, kept, rfl, rfl, h, rfl, rfl⟩ hl
    exact (hSet_ok L s i x w h.rep hl).mono fun e w' ⟨he, hs⟩ => ⟨he, _, hto_st (kept := kept) hs (h.wf.roots' _) h.a1 h.a2⟩
  collect := by
    rintro w B a m c _ ⟨L, s, kept, rfl, rfl, h, rfl, rfl⟩ hr
    exact i_collect h hr
  sweep := by
    rintro w B a m c n _ ⟨L, s, kept, rfl, rfl, h, rfl, rfl⟩ hn
    exact i_sweep h n hn
  walk := by
    rintro w B a m c _ ⟨L, s, kept, rfl, rfl, h, rfl, rfl⟩
    exact i_walk h
  black := by
    rintro w B a m c _ ⟨L, s, kept, rfl, rfl, h, rfl, rfl⟩
    exact i_black h
  counts := by
    rintro w B a m c _ ⟨L, s, kept, rfl, rfl, h, rfl, rfl⟩
    exact i_counts h
end Go.Proofs.YtgegkcjllliifabDoor
