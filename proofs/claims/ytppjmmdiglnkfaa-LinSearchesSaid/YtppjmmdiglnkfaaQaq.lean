/- Package lin: begin. -/
import Derived.Test.YtppjmmdiglnkfaaQap
import Derived.Test.YtppjmmdiglnkfaaQaf
import Derived.Test.YtppjmmdiglnkfaaQac
namespace Go.Proofs.Ytppjmmdiglnkfaa
set_option maxRecDepth 100000
open Go.ChangeShapes Go.WideShapes Go.ChangeAt Go.RowKit Go.PlainAid Go.Deep
namespace Ln
attribute [local go_sem ↓ high] load_op store_o
/-- Is an operation of a segment before another one? By places. -/
def befP (l : List OpV) (i k : Nat) : Bool := match l[k]?, l[i]? with | some x, some o => befB x o | _, _ => false
def doneP (l : List OpV) (k : Nat) : Bool := match l[k]? with | some o => o.done | none => false
theorem befP_far {l : List OpV} {i k : Nat} (h : l.length ≤ k) : befP l i k = false := by unfold befP; rw [List.getElem?_eq_none h]
theorem doneP_far {l : List OpV} {k : Nat} (h : l.length ≤ k) : doneP l k = false := by unfold doneP; rw [List.getElem?_eq_none h]
theorem ahO_set (ah : List Nat) (i a : Nat) : ((ah.map fun (x : Nat) => Value.int .u32 (x : Int)).toArray.setIfInBounds i (.int .u32 (a : Int))) = ((ah.set i a).map fun (x : Nat) => Value.int .u32 (x : Int)).toArray := by simp
/-- What begin has in memory. -/
structure BgI (w W : World) (v : Value) (l : List OpV) (d i j dn : Nat) (ah : List Nat) : Prop where
  bel : Below w.heap.size w W
  bs : W.heap[w.heap.size + 1 + 1 + 1]? = some (srO v (.slice (some ⟨w.heap.size, 0, none⟩) ah.length ah.length) dn (.slice none 0 0) (w.heap.size + 1) (w.heap.size + 1 + 1))
  ba : W.heap[w.heap.size]? = some (ahO ah)
  m1 : W.heap[w.heap.size + 1]? = some (.map #[] 0)
  m2 : W.heap[w.heap.size + 1 + 1]? = some (.map #[] 0)
  len : ah.length = l.length
  dn : Mk dn fun k => decide (k < d) && doneP l k
  lo : ∀ k a, k < i → ah[k]? = some a → Mk a (befP l k)
  mid : ∀ a, ah[i]? = some a → Mk a fun k => decide (k < j) && befP l i k
  hi : ∀ k a, i < k → ah[k]? = some a → a = 0
theorem BgI.on {w W W' : World} {v : Value} {l : List OpV} {d i j dn : Nat} {ah : List Nat} (h : BgI w W v l d i j dn ah) (hb : Below W.heap.size W W') : BgI w W' v l d i j dn ah :=
  ⟨h.bel.on hb, (hb.block _ (heap_inO h.bs)).trans h.bs, (hb.block _ (heap_inO h.ba)).trans h.ba, (hb.block _ (heap_inO h.m1)).trans h.m1, (hb.block _ (heap_inO h.m2)).trans h.m2, h.len, h.dn, h.lo, h.mid, h.hi⟩
theorem BgI.skipD {w W : World} {v : Value} {l : List OpV} {i j dn d : Nat} {ah : List Nat} (h : BgI w W v l d i j dn ah) (hd : doneP l d = false) : BgI w W v l (d + 1) i j dn ah :=
  ⟨h.bel, h.bs, h.ba, h.m1, h.m2, h.len, h.dn.of fun k => by
    by_cases c : k < d
    · simp [c, show k < d + 1 by omega]
    · by_cases c2 : k = d
      · subst c2; simp [hd]
      · simp [c, show ¬ k < d + 1 by omega], h.lo, h.mid, h.hi⟩
theorem BgI.setD {w W : World} {v : Value} {l : List OpV} {i j dn d : Nat} {ah : List Nat} (h : BgI w W v l d i j dn ah) (hd : doneP l d = true) (hl : d < 16) : BgI w (W.setCell ⟨w.heap.size + 1 + 1 + 1, 2, none⟩ (.int .u32 ((dn ||| 2 ^ d : Nat) : Int))) v l (d + 1) i j (dn ||| 2 ^ d) ah := by
  have hk : Keeps (fun k => k = w.heap.size + 1 + 1 + 1) W (W.setCell ⟨w.heap.size + 1 + 1 + 1, 2, none⟩ (.int .u32 ((dn ||| 2 ^ d : Nat) : Int))) := (Keeps.refl (fun k => k = w.heap.size + 1 + 1 + 1) W).setCell (.inl (by rfl)) _
  refine ⟨h.bel.trans (hk.below (fun k e => by omega) h.bel.size), heap_setCell_same _ _ _ _ _ _ h.bs, (hk.block _ (heap_inO h.ba) (by omega)).trans h.ba, (hk.block _ (heap_inO h.m1) (by omega)).trans h.m1, (hk.block _ (heap_inO h.m2) (by omega)).trans h.m2, h.len, (h.dn.set hl).of fun k => ?_, h.lo, h.mid, h.hi⟩
  by_cases c : k < d
  · simp [c, show k < d + 1 by omega, show k ≠ d by omega]
  · by_cases c2 : k = d
    · subst c2; simp [hd]
    · simp [c, c2, show ¬ k < d + 1 by omega]
theorem BgI.skipJ {w W : World} {v : Value} {l : List OpV} {i j dn d : Nat} {ah : List Nat} (h : BgI w W v l d i j dn ah) (hd : befP l i j = false) : BgI w W v l d i (j + 1) dn ah :=
  ⟨h.bel, h.bs, h.ba, h.m1, h.m2, h.len, h.dn, h.lo, fun a ha => (h.mid a ha).of fun k => by
    by_cases c : k < j
    · simp [c, show k < j + 1 by omega]
    · by_cases c2 : k = j
      · subst c2; simp [hd]
      · simp [c, show ¬ k < j + 1 by omega], h.hi⟩
theorem BgI.setJ {w W : World} {v : Value} {l : List OpV} {i j dn d a : Nat} {ah : List Nat} (h : BgI w W v l d i j dn ah) (ha : ah[i]? = some a) (hd : befP l i j = true) (hl : j < 16) : BgI w (W.setCell ⟨w.heap.size, i, none⟩ (.int .u32 ((a ||| 2 ^ j : Nat) : Int))) v l d i (j + 1) dn (ah.set i (a ||| 2 ^ j)) := by
  have hk : Keeps (fun k => k = w.heap.size) W (W.setCell ⟨w.heap.size, i, none⟩ (.int .u32 ((a ||| 2 ^ j : Nat) : Int))) := (Keeps.refl (fun k => k = w.heap.size) W).setCell (.inl (by rfl)) _
  have hil : i < ah.length := (List.getElem?_eq_some_iff.1 ha).1
  refine ⟨h.bel.trans (hk.below (fun k e => by omega) h.bel.size), ?_, ?_, (hk.block _ (heap_inO h.m1) (by omega)).trans h.m1, (hk.block _ (heap_inO h.m2) (by omega)).trans h.m2, by rw [List.length_set]; exact h.len, h.dn, fun k b hki hb => ?_, fun b hb => ?_, fun k b hki hb => ?_⟩
  · rw [List.length_set]
    exact (hk.block _ (heap_inO h.bs) (by omega)).trans h.bs
  · have := heap_setCell_same W w.heap.size i _ _ (.int .u32 ((a ||| 2 ^ j : Nat) : Int)) h.ba
    rw [ahO_set] at this
    exact this
  · rw [List.getElem?_set_ne (by omega)] at hb
    exact h.lo k b hki hb
  · rw [List.getElem?_set_self hil] at hb
    obtain rfl := Option.some.inj hb
    refine ((h.mid a ha).set hl).of fun k => ?_
    by_cases c : k < j
    · simp [c, show k < j + 1 by omega, show k ≠ j by omega]
    · by_cases c2 : k = j
      · subst c2; simp [hd]
      · simp [c, c2, show ¬ k < j + 1 by omega]
  · rw [List.getElem?_set_ne (by omega)] at hb
    exact h.hi k b hki hb
theorem BgI.next {w W : World} {v : Value} {l : List OpV} {i dn d : Nat} {ah : List Nat} (h : BgI w W v l d i l.length dn ah) : BgI w W v l d (i + 1) 0 dn ah :=
  ⟨h.bel, h.bs, h.ba, h.m1, h.m2, h.len, h.dn, fun k a hk ha => by
    by_cases c : k < i
    · exact h.lo k a c ha
    · obtain rfl : k = i := by omega
      refine (h.mid a ha).of fun j => ?_
      by_cases c : j < l.length
      · simp [c]
      · rw [befP_far (by omega)]; simp [c], fun a ha => by rw [h.hi (i + 1) a (by omega) ha]; exact Mk.zero.of fun k => by simp, fun k a hk ha => h.hi k a (by omega) ha⟩
theorem make_u32 (n : Nat) (hn : n ≤ 1000) (w : World) : (Instr.makeSlice 67 (.int .i64 (n : Int)) (.int .i64 (n : Int))).run Try.prog w = .ok (.slice (some ⟨w.heap.size, 0, none⟩) n n) (w.alloc (ahO (List.replicate n 0))) := by
  obtain ⟨i0, hi, hz0, hz1, hz2⟩ := info_parts (show (Try.prog.info? 68).map (fun i => (i.zero, i.size, i.bytes)) = some (some (.int .u32 0), 1, 4) by kernel_rfl)
  have h := run_make (P := Try.prog) w 67 68 i0 _ Try.underlying67 hi hz0 .i64 .i64 n n (by omega) (by omega) (by rw [hz2]; omega) (by omega)
  rw [h]
  simp only [Int.toNat_natCast, hz1, Nat.mul_one]
  have e : madeCells (Value.int .u32 0).cells n = ((List.replicate n 0).map fun (a : Nat) => Value.int .u32 (a : Int)).toArray := by
    apply Array.ext'
    simp [madeCells, Value.cells]
    exact List.ext_getElem (by simp) fun i h1 h2 => by simp [Nat.mod_one]
  unfold ahO
  rw [e]
theorem make_map1 (w : World) : (Instr.makeMap 116 none).run Try.prog w = .ok (.map (some w.heap.size)) (w.alloc (.map #[] 0)) := by
  simp [Instr.makeMap, Result.andThen]
theorem make_map2 (w : World) : (Instr.makeMap 117 none).run Try.prog w = .ok (.map (some w.heap.size)) (w.alloc (.map #[] 0)) := by
  simp [Instr.makeMap, Result.andThen]
set_option maxHeartbeats 4000000 in
theorem begin_any {v : Value} {l : List OpV} {w : World} (h : OpsOf w v l) (hl : l.length ≤ 16) : Calls Try.prog 40 #[v] w fun e w' => e = .returned (.pointer (some ⟨w.heap.size + 1 + 1 + 1, 0, none⟩)) ∧ ∃ dn ah, BgI w w' v l l.length l.length 0 dn ah := by
  obtain ⟨al, cl, rfl⟩ := h.len
  have H := Lib.hid h
  have mk := make_u32 l.length (by omega) w
  have mk1 := fun W => make_map1 W
  have mk2 := fun W => make_map2 W
  obtain ⟨W0, hW0⟩ : ∃ W, (((w.alloc (ahO (List.replicate l.length 0))).alloc (.map #[] 0)).alloc (.map #[] 0)).alloc (srO (.slice al l.length cl) (.slice (some ⟨w.heap.size, 0, none⟩) l.length l.length) 0 (.slice none 0 0) (w.heap.size + 1) (w.heap.size + 1 + 1)) = W := ⟨_, rfl⟩
  have hi0 : BgI w W0 (.slice al l.length cl) l 0 0 0 0 (List.replicate l.length 0) := by
    rw [← hW0]
    have s1 := heap_alloc_new w (ahO (List.replicate l.length 0))
    have s2 := heap_alloc_new (w.alloc (ahO (List.replicate l.length 0))) (.map #[] 0)
    have s3 := heap_alloc_new ((w.alloc (ahO (List.replicate l.length 0))).alloc (.map #[] 0)) (.map #[] 0)
    have s4 := heap_alloc_new (((w.alloc (ahO (List.replicate l.length 0))).alloc (.map #[] 0)).alloc (.map #[] 0)) (srO (.slice al l.length cl) (.slice (some ⟨w.heap.size, 0, none⟩) l.length l.length) 0 (.slice none 0 0) (w.heap.size + 1) (w.heap.size + 1 + 1))
    simp only [World.size_alloc] at s2 s3 s4
    refine ⟨by go_grown, by rw [List.length_replicate]; exact s4, ?_, ?_, ?_, List.length_replicate, Mk.zero.of fun k => by simp, fun k a hk => by omega, fun a ha => ?_, fun k a _ ha => ?_⟩
    · exact (Below.heap_alloc _ _ _ (by simp only [World.size_alloc]; omega)).trans ((Below.heap_alloc _ _ _ (by simp only [World.size_alloc]; omega)).trans ((Below.heap_alloc _ _ _ (by simp only [World.size_alloc]; omega)).trans s1))
    · exact (Below.heap_alloc _ _ _ (by simp only [World.size_alloc]; omega)).trans ((Below.heap_alloc _ _ _ (by simp only [World.size_alloc]; omega)).trans s2)
    · exact (Below.heap_alloc _ _ _ (by simp only [World.size_alloc]; omega)).trans s3
    · rw [(List.mem_replicate.1 (List.mem_of_getElem? ha)).2]; exact Mk.zero.of fun k => by simp
    · exact (List.mem_replicate.1 (List.mem_of_getElem? ha)).2
  have HI0 := Lib.hid hi0
  clear h hi0
  go_enter Try.func40, Try.ntmps40
  go_wp2_with fail
  go_loopw [18] (fun s18 wr => ∃ (i dn : Nat) (ah : List Nat), s18 = .int .i64 i ∧ i ≤ l.length ∧ Hid (BgI w wr (.slice al l.length cl) l i i 0 dn ah)) (fun s18 _ => l.length - (intOf s18).toNat)
  case atStart => exact ⟨0, 0, _, rfl, Nat.zero_le _, by have := HI0.out; rw [← hW0] at this; exact Lib.hid this⟩
  case round =>
    clear HI0 hW0 mk mk1 mk2
    obtain ⟨i, dn, ah, rfl, hi, HI⟩ := hrel
    rename World => wq
    by_cases hil : i < l.length
    · have q1 : (i : Int) < (l.length : Int) := by omega
      have q2 : IntKind.i64.wrap ((i : Int) + 1) = (i : Int) + 1 := IntWalk.i64_in _ (by omega)
      have q3 : (0 : Int) ≤ i := by omega
      have q4 : (i : Int) ≤ 32 := by omega
      have q5 := wrap_pow (i := i) (by omega)
      obtain ⟨o, hok⟩ : ∃ o, l[i]? = some o := ⟨_, List.getElem?_eq_getElem hil⟩
      obtain ⟨b, p, cap, hv, hblt, hwf, hc⟩ := OpsOf.at (H.out.on HI.out.bel) hok
      obtain rfl : al = some ⟨b, p, none⟩ := by cases hv; rfl
      have l1 := load_cellsO (p := p + i * 11) hc
      have HO := Lib.hid hok
      have st := store_op_new wq (#[Value.int .i64 0, Value.int .i64 0, Value.int .i64 0, Value.int .i64 0, Value.int .i64 0, Value.int .i64 0, Value.int .i64 0, Value.bool false, Value.int .i64 0, Value.int .i64 0, Value.int .i64 0]) rfl o
      have hbw : Below wq.heap.size wq (wq.alloc (.cells #[Value.int .i64 o.id, Value.int .i64 o.proc, Value.int .i64 o.obj, Value.int .i64 o.kind, Value.int .i64 o.meth, Value.int .i64 o.arg, Value.int .i64 o.sec, Value.bool o.done, Value.int .i64 o.res, Value.int .i64 o.inv, Value.int .i64 o.ret] 43)) := by go_grown
      have hop := OpAt.box wq o
      obtain ⟨W1, hW1⟩ : ∃ W, wq.alloc (.cells #[Value.int .i64 o.id, Value.int .i64 o.proc, Value.int .i64 o.obj, Value.int .i64 o.kind, Value.int .i64 o.meth, Value.int .i64 o.arg, Value.int .i64 o.sec, Value.bool o.done, Value.int .i64 o.res, Value.int .i64 o.inv, Value.int .i64 o.ret] 43) = W := ⟨_, rfl⟩
      rw [hW1] at hop st hbw
      have HI1 := Lib.hid (HI.out.on hbw)
      have HP := Lib.hid hop
      have k7 : W1.cell? ⟨wq.heap.size, 7, none⟩ = some (.bool o.done) := by rw [cell_of_row _ _ _ _ _ _ hop]; rfl
      have hlt1 := heap_inO hop
      have HBR := Lib.hid HI.out.bel.size
      have hne : w.heap.size + 1 + 1 + 1 ≠ wq.heap.size := by have := heap_inO HI.out.bs; omega
      have hne2 : w.heap.size ≠ wq.heap.size := by have := heap_inO HI.out.bs; omega
      clear hv hblt hwf hc hok hbw hop HI
      cases hdn : o.done with
      | false =>
        have hk7 : W1.cell? ⟨wq.heap.size, 7, none⟩ = some (.bool false) := by rw [k7, hdn]
        have HI2 := Lib.hid (HI1.out.skipD (show doneP l i = false by unfold doneP; rw [HO.out]; exact hdn))
        clear k7 hdn HI1
        have HP2 := HP
        go_wp2_with fail
        go_loopw [36] (fun s36 wr => ∃ (j : Nat) (ah2 : List Nat), s36 = .int .i64 j ∧ j ≤ l.length ∧ Hid (BgI w wr (.slice (some ⟨b, p, none⟩) l.length cl) l (i + 1) i j dn ah2) ∧ Hid (OpAt wr wq.heap.size o)) (fun s36 _ => l.length - (intOf s36).toNat)
        case atStart => exact ⟨0, ah, rfl, Nat.zero_le _, HI2, HP2⟩
        case round =>
          clear HI2 HP2
          obtain ⟨j, ah2, rfl, hj, HJ, HPJ⟩ := hrel
          by_cases hjl : j < l.length
          · have r1 : (j : Int) < (l.length : Int) := by omega
            have r2 : IntKind.i64.wrap ((j : Int) + 1) = (j : Int) + 1 := IntWalk.i64_in _ (by omega)
            have r3 : (0 : Int) ≤ j := by omega
            have r4 : (j : Int) ≤ 32 := by omega
            have r5 := wrap_pow (i := j) (by omega)
            obtain ⟨x, hxk⟩ : ∃ x, l[j]? = some x := ⟨_, List.getElem?_eq_getElem hjl⟩
            obtain ⟨b', p', cap', hv, _, _, hc⟩ := OpsOf.at (H.out.on HJ.out.bel) hxk
            obtain ⟨rfl, rfl⟩ : b = b' ∧ p = p' := by cases hv; exact ⟨rfl, rfl⟩
            have l2 := load_cellsO (p := p + j * 11) hc
            have st := store_op_new wr (#[Value.int .i64 0, Value.int .i64 0, Value.int .i64 0, Value.int .i64 0, Value.int .i64 0, Value.int .i64 0, Value.int .i64 0, Value.bool false, Value.int .i64 0, Value.int .i64 0, Value.int .i64 0]) rfl x
            have hbw : Below wr.heap.size wr (wr.alloc (.cells #[Value.int .i64 x.id, Value.int .i64 x.proc, Value.int .i64 x.obj, Value.int .i64 x.kind, Value.int .i64 x.meth, Value.int .i64 x.arg, Value.int .i64 x.sec, Value.bool x.done, Value.int .i64 x.res, Value.int .i64 x.inv, Value.int .i64 x.ret] 43)) := by go_grown
            have hop := OpAt.box wr x
            have hpj := HPJ.out.on hbw
            have hij := HJ.out.on hbw
            obtain ⟨W3, hW3⟩ : ∃ W, wr.alloc (.cells #[Value.int .i64 x.id, Value.int .i64 x.proc, Value.int .i64 x.obj, Value.int .i64 x.kind, Value.int .i64 x.meth, Value.int .i64 x.arg, Value.int .i64 x.sec, Value.bool x.done, Value.int .i64 x.res, Value.int .i64 x.inv, Value.int .i64 x.ret] 43) = W := ⟨_, rfl⟩
            rw [hW3] at hop st hbw hpj hij
            have l3 := hop.load
            have l4 := hpj.load
            have HIJ := Lib.hid hij
            have HPJ3 := Lib.hid hpj
            obtain ⟨a, hia⟩ : ∃ a, ah2[i]? = some a := ⟨_, List.getElem?_eq_getElem (by rw [hij.len]; exact hil)⟩
            have hba : befP l i j = befB x o := by unfold befP; rw [hxk, HO.out]
            have HIA := Lib.hid hia
            have hail : i < ah2.length := by rw [hij.len]; exact hil
            have hma := (hij.mid a hia).lt
            clear hv hc hxk hbw hop hpj hij HJ HPJ
            cases hb : befB x o with
            | false =>
              have HBA := Lib.hid (hba.trans hb)
              go_wp2_with fail
              refine (before_any x o _).mono ?_
              rintro _ w4 ⟨rfl, hb4⟩
              rw [hb]
              have HE := Lib.hid (BgI.skipJ (HIJ.out.on hb4) HBA.out)
              have HPE := Lib.hid (HPJ3.out.on hb4)
              clear hb4 hb hba hia l2 l3 l4 st
              go_wp2_with fail
              go_roundw
              case measure => simp [intOf] <;> omega
              case rel => exact ⟨j + 1, ah2, by simp, by omega, HE, HPE⟩
            | true =>
              have HBA := Lib.hid (hba.trans hb)
              go_wp2_with fail
              refine (before_any x o _).mono ?_
              rintro _ w4 ⟨rfl, hb4⟩
              rw [hb]
              have hI4 := HIJ.out.on hb4
              have hP4 := HPJ3.out.on hb4
              have d1 : w4.cell? ⟨w.heap.size + 1 + 1 + 1, 1, none⟩ = some (.slice (some ⟨w.heap.size, 0, none⟩) ah2.length ah2.length) := by rw [cell_of_row _ _ _ _ _ _ hI4.bs]; rfl
              have d2 : w4.cell? ⟨w.heap.size, i, none⟩ = some (.int .u32 (a : Int)) := by
                have := hI4.ba
                unfold ahO at this
                rw [cell_of_row _ _ _ _ _ _ this]
                simp [HIA.out]
              have d3 := cells_thaw hI4.ba i
              have e4 : bits .or .u32 (a : Int) ((2 : Int) ^ j) = ((a ||| 2 ^ j : Nat) : Int) := by rw [pow_int]; exact or_u32 _ _ (by omega) (pow_lt16 (by omega))
              have r6 : (i : Int) < (ah2.length : Int) := by omega
              have HE := Lib.hid (BgI.setJ (W := w4.drew) (hI4.on (Below.refl _ _).drew) HIA.out HBA.out (by omega))
              have HPE := Lib.hid (show OpAt (w4.drew.setCell ⟨w.heap.size, i, none⟩ (.int .u32 ((a ||| 2 ^ j : Nat) : Int))) wq.heap.size o from (heap_setCell_other _ _ _ _ (show wq.heap.size ≠ w.heap.size by omega)).trans hP4)
              clear hb4 hb hba hia l2 l3 l4 st hI4 hP4
              go_wp2_with fail
              go_region
              go_wp2_with fail
              go_roundw
              case measure => simp [intOf] <;> omega
              case rel => exact ⟨j + 1, _, by simp, by omega, HE, HPE⟩
          · obtain rfl : j = l.length := by omega
            have r1 : ¬ ((l.length : Int) < (l.length : Int)) := by omega
            have HN := Lib.hid HJ.out.next
            clear HJ HPJ
            go_wp2_with fail
            go_roundw
            case measure => simp [intOf] <;> omega
            case rel => exact ⟨i + 1, dn, ah2, by simp, by omega, HN⟩
      | true =>
        have hk7 : W1.cell? ⟨wq.heap.size, 7, none⟩ = some (.bool true) := by rw [k7, hdn]
        have c2 : W1.cell? ⟨w.heap.size + 1 + 1 + 1, 2, none⟩ = some (.int .u32 (dn : Int)) := by rw [cell_of_row _ _ _ _ _ _ HI1.out.bs]; rfl
        have f2 := cells_thaw HI1.out.bs 2
        have e3 : bits .or .u32 (dn : Int) ((2 : Int) ^ i) = ((dn ||| 2 ^ i : Nat) : Int) := by rw [pow_int]; exact or_u32 _ _ (by have := HI1.out.dn.lt; omega) (pow_lt16 (by omega))
        have HI2 := Lib.hid ((BgI.setD (W := W1) HI1.out (show doneP l i = true by unfold doneP; rw [HO.out]; exact hdn) (by omega)).on (Below.refl _ _).drew)
        have HP2 := Lib.hid (show OpAt (W1.setCell ⟨w.heap.size + 1 + 1 + 1, 2, none⟩ (.int .u32 ((dn ||| 2 ^ i : Nat) : Int))).drew wq.heap.size o from (heap_setCell_other _ _ _ _ (show wq.heap.size ≠ w.heap.size + 1 + 1 + 1 by omega)).trans HP.out)
        clear k7 hdn HI1
        go_wp2_with fail
        go_region
        obtain ⟨W2, hW2⟩ : ∃ W, (W1.setCell ⟨w.heap.size + 1 + 1 + 1, 2, none⟩ (.int .u32 ((dn ||| 2 ^ i : Nat) : Int))).drew = W := ⟨_, rfl⟩
        rw [hW2] at HI2 HP2 ⊢
        clear hW2 c2 f2 e3 hk7
        go_wp2_with fail
        go_loopw [36] (fun s36 wr => ∃ (j : Nat) (ah2 : List Nat), s36 = .int .i64 j ∧ j ≤ l.length ∧ Hid (BgI w wr (.slice (some ⟨b, p, none⟩) l.length cl) l (i + 1) i j (dn ||| 2 ^ i) ah2) ∧ Hid (OpAt wr wq.heap.size o)) (fun s36 _ => l.length - (intOf s36).toNat)
        case atStart => exact ⟨0, ah, rfl, Nat.zero_le _, HI2, HP2⟩
        case round =>
          clear HI2 HP2
          obtain ⟨j, ah2, rfl, hj, HJ, HPJ⟩ := hrel
          by_cases hjl : j < l.length
          · have r1 : (j : Int) < (l.length : Int) := by omega
            have r2 : IntKind.i64.wrap ((j : Int) + 1) = (j : Int) + 1 := IntWalk.i64_in _ (by omega)
            have r3 : (0 : Int) ≤ j := by omega
            have r4 : (j : Int) ≤ 32 := by omega
            have r5 := wrap_pow (i := j) (by omega)
            obtain ⟨x, hxk⟩ : ∃ x, l[j]? = some x := ⟨_, List.getElem?_eq_getElem hjl⟩
            obtain ⟨b', p', cap', hv, _, _, hc⟩ := OpsOf.at (H.out.on HJ.out.bel) hxk
            obtain ⟨rfl, rfl⟩ : b = b' ∧ p = p' := by cases hv; exact ⟨rfl, rfl⟩
            have l2 := load_cellsO (p := p + j * 11) hc
            have st := store_op_new wr (#[Value.int .i64 0, Value.int .i64 0, Value.int .i64 0, Value.int .i64 0, Value.int .i64 0, Value.int .i64 0, Value.int .i64 0, Value.bool false, Value.int .i64 0, Value.int .i64 0, Value.int .i64 0]) rfl x
            have hbw : Below wr.heap.size wr (wr.alloc (.cells #[Value.int .i64 x.id, Value.int .i64 x.proc, Value.int .i64 x.obj, Value.int .i64 x.kind, Value.int .i64 x.meth, Value.int .i64 x.arg, Value.int .i64 x.sec, Value.bool x.done, Value.int .i64 x.res, Value.int .i64 x.inv, Value.int .i64 x.ret] 43)) := by go_grown
            have hop := OpAt.box wr x
            have hpj := HPJ.out.on hbw
            have hij := HJ.out.on hbw
            obtain ⟨W3, hW3⟩ : ∃ W, wr.alloc (.cells #[Value.int .i64 x.id, Value.int .i64 x.proc, Value.int .i64 x.obj, Value.int .i64 x.kind, Value.int .i64 x.meth, Value.int .i64 x.arg, Value.int .i64 x.sec, Value.bool x.done, Value.int .i64 x.res, Value.int .i64 x.inv, Value.int .i64 x.ret] 43) = W := ⟨_, rfl⟩
            rw [hW3] at hop st hbw hpj hij
            have l3 := hop.load
            have l4 := hpj.load
            have HIJ := Lib.hid hij
            have HPJ3 := Lib.hid hpj
            obtain ⟨a, hia⟩ : ∃ a, ah2[i]? = some a := ⟨_, List.getElem?_eq_getElem (by rw [hij.len]; exact hil)⟩
            have hba : befP l i j = befB x o := by unfold befP; rw [hxk, HO.out]
            have HIA := Lib.hid hia
            have hail : i < ah2.length := by rw [hij.len]; exact hil
            have hma := (hij.mid a hia).lt
            clear hv hc hxk hbw hop hpj hij HJ HPJ
            cases hb : befB x o with
            | false =>
              have HBA := Lib.hid (hba.trans hb)
              go_wp2_with fail
              refine (before_any x o _).mono ?_
              rintro _ w4 ⟨rfl, hb4⟩
              rw [hb]
              have HE := Lib.hid (BgI.skipJ (HIJ.out.on hb4) HBA.out)
              have HPE := Lib.hid (HPJ3.out.on hb4)
              clear hb4 hb hba hia l2 l3 l4 st
              go_wp2_with fail
              go_roundw
              case measure => simp [intOf] <;> omega
              case rel => exact ⟨j + 1, ah2, by simp, by omega, HE, HPE⟩
            | true =>
              have HBA := Lib.hid (hba.trans hb)
              go_wp2_with fail
              refine (before_any x o _).mono ?_
              rintro _ w4 ⟨rfl, hb4⟩
              rw [hb]
              have hI4 := HIJ.out.on hb4
              have hP4 := HPJ3.out.on hb4
              have d1 : w4.cell? ⟨w.heap.size + 1 + 1 + 1, 1, none⟩ = some (.slice (some ⟨w.heap.size, 0, none⟩) ah2.length ah2.length) := by rw [cell_of_row _ _ _ _ _ _ hI4.bs]; rfl
              have d2 : w4.cell? ⟨w.heap.size, i, none⟩ = some (.int .u32 (a : Int)) := by
                have := hI4.ba
                unfold ahO at this
                rw [cell_of_row _ _ _ _ _ _ this]
                simp [HIA.out]
              have d3 := cells_thaw hI4.ba i
              have e4 : bits .or .u32 (a : Int) ((2 : Int) ^ j) = ((a ||| 2 ^ j : Nat) : Int) := by rw [pow_int]; exact or_u32 _ _ (by omega) (pow_lt16 (by omega))
              have r6 : (i : Int) < (ah2.length : Int) := by omega
              have HE := Lib.hid (BgI.setJ (W := w4.drew) (hI4.on (Below.refl _ _).drew) HIA.out HBA.out (by omega))
              have HPE := Lib.hid (show OpAt (w4.drew.setCell ⟨w.heap.size, i, none⟩ (.int .u32 ((a ||| 2 ^ j : Nat) : Int))) wq.heap.size o from (heap_setCell_other _ _ _ _ (show wq.heap.size ≠ w.heap.size by omega)).trans hP4)
              clear hb4 hb hba hia l2 l3 l4 st hI4 hP4
              go_wp2_with fail
              go_region
              go_wp2_with fail
              go_roundw
              case measure => simp [intOf] <;> omega
              case rel => exact ⟨j + 1, _, by simp, by omega, HE, HPE⟩
          · obtain rfl : j = l.length := by omega
            have r1 : ¬ ((l.length : Int) < (l.length : Int)) := by omega
            have HN := Lib.hid HJ.out.next
            clear HJ HPJ
            go_wp2_with fail
            go_roundw
            case measure => simp [intOf] <;> omega
            case rel => exact ⟨i + 1, (dn ||| 2 ^ i), ah2, by simp, by omega, HN⟩
    · obtain rfl : i = l.length := by omega
      have q1 : ¬ ((l.length : Int) < (l.length : Int)) := by omega
      go_wp2_with fail
      go_returns
      exact ⟨rfl, _, _, HI.out⟩
end Ln
end Go.Proofs.Ytppjmmdiglnkfaa
