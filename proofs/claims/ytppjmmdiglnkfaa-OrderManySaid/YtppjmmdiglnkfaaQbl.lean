/- Package order: Least. -/
import Derived.Test.YtppjmmdiglnkfaaQbk
namespace Go.Proofs.Ytppjmmdiglnkfaa
set_option maxRecDepth 100000
open Go.ChangeShapes Go.WideShapes Go.ChangeAt Go.RowKit Go.PlainAid Go.Deep
namespace Od
open Ln Cu
attribute [local go_sem ↓ high] load_op app_pc
/-- The pieces of segments: their operations by numbers. -/
structure PcsL (C P : List (List OpV)) : Prop where
  len : P.length = C.length
  each : ∀ (k : Nat) (l : List OpV), P[k]? = some l → ∃ c, C[k]? = some c ∧ l.Perm c ∧ l.Pairwise fun x y => ltO cfId y x = false
noncomputable def runO (lim : Int) (P : List (List OpV)) (kind : Int) : Stt × Bool := endsF lim P (muR P + 1) ⟨[], [], []⟩ (0, 0, firstC kind)
/-- What Least answers. -/
def LeastR (s : SegV) (lim : Int) (ids : List Int) (ok : Bool) (z : Int) : Prop := ∃ S, Sorted cfInv s.ops S ∧
  (((∃ c ∈ cutL S, 16 < c.length) ∧ z = 34 ∧ ids = [] ∧ ok = false) ∨
    ((∀ c ∈ cutL S, c.length ≤ 16) ∧ ∃ P, PcsL (cutL S) P ∧ ((lim < ((runO lim P s.kind).1.seen.length : Int) ∧ z = 35 ∧ ids = [] ∧ ok = false) ∨ (((runO lim P s.kind).1.seen.length : Int) ≤ lim ∧ z = 0 ∧ ids = (runO lim P s.kind).1.back.reverse ∧ ok = (runO lim P s.kind).2))))
theorem LsI.pcs {w : World} {bS bM : Nat} {lim : Int} {sc : Array Value} {vps : Value} {ps : List (SegV × Value)} {wr : World} {v : Value} {P : List (List OpV)} {s : SegV} {S : List OpV} (h : LsI w bS bM lim sc vps ps ps.length wr v P) (hm : ps.map Prod.fst = (cutL S).map (mkS s)) : PcsL (cutL S) P := by
  obtain ⟨cs, _, h3⟩ := h.row
  refine ⟨by rw [h.len, ← List.length_map (f := Prod.fst), hm, List.length_map], fun k l hk => ?_⟩
  obtain ⟨q, _, _, a, _, _, _, _, e, f⟩ := h3 k l hk
  have h1 : (ps.map Prod.fst)[k]? = some q.1 := by rw [List.getElem?_map, a]; rfl
  rw [hm, List.getElem?_map] at h1
  obtain ⟨c, hc, he⟩ := Option.map_eq_some_iff.1 h1
  refine ⟨c, hc, ?_, f⟩
  rw [← he] at e
  exact e
theorem LsI.wf {w : World} {bS bM : Nat} {lim : Int} {sc : Array Value} {vps : Value} {ps : List (SegV × Value)} {i : Nat} {wr : World} {v : Value} {P : List (List OpV)} (h : LsI w bS bM lim sc vps ps i wr v P) : ∀ l ∈ P, ∀ o ∈ l, o.Wf := fun l hl o ho => by
  obtain ⟨cs, _, h3⟩ := h.row
  obtain ⟨k, hk⟩ := List.getElem?_of_mem hl
  obtain ⟨q, _, _, _, _, _, _, e, _⟩ := h3 k l hk
  exact e.wf o ho
theorem muR_le : ∀ P : List (List OpV), (∀ l ∈ P, l.length ≤ 16) → muR P ≤ 17 * P.length
  | [], _ => Nat.le_refl _
  | l :: P, h => by
    have := muR_le P fun x hx => h x (List.mem_cons_of_mem _ hx)
    have := h l List.mem_cons_self
    rw [muR, List.length_cons]
    omega
theorem mu_le (P : List (List OpV)) (st : List Int) : mu P (0, 0, st) ≤ muR P := by
  unfold mu
  split
  · rename_i h
    simp only at h
    obtain ⟨l, R, rfl⟩ := List.exists_cons_of_length_pos h
    simp only [free_zero]
    show l.length + 1 + muR R ≤ _
    rw [muR]
    exact Nat.le_refl _
  · exact Nat.zero_le _
theorem first_okz (k : Int) : Okz (firstC k) := by
  unfold firstC
  split
  · exact ⟨by simp, by simp⟩
  · exact ⟨by simp, by simp⟩
theorem first_len (k : Int) : (firstC k).length ≤ 1 := by
  unfold firstC
  split <;> simp
theorem make_mapO (w : World) : (Instr.makeMap 63 none).run Try.prog w = .ok (.map (some w.heap.size)) (w.alloc (.map #[] 0)) := by
  simp [Instr.makeMap, Result.andThen]
def LePost (s : SegV) (lim : Int) (w : World) (e : Ending) (w' : World) : Prop := ∃ vi ok z, e = .returned (.tuple #[vi, .bool ok, .int .i64 z]) ∧ ∃ ids, LeastR s lim ids ok z ∧ OwnI w.heap.size w' vi ids ∧ Below w.heap.size w w'
set_option maxHeartbeats 8000000 in
theorem least_any {s : SegV} {vO : Value} {w : World} (h : OpsOf w vO s.ops) (hl : s.ops.length ≤ 1000) (budget : Int) (hbd : -9223372036854775808 ≤ budget ∧ budget ≤ 9223372036854775807) (lim : Int) (hlim : lim = min budget 32768) :
    Calls Try.prog 13 #[.agg #[.int .i64 s.obj, .int .i64 s.kind, vO], .int .i64 budget] w (LePost s lim w) := by
  subst hlim
  have hmin : min budget 32768 ≤ 32768 := by omega
  have hb3 : Below w.heap.size w (((w.alloc (.cells #[.int .i64 s.obj, .int .i64 s.kind, vO] 24)).alloc (.map #[] 0)).alloc (soO (.slice none 0 0) (w.heap.size + 1) 0 (min budget 32768) (.slice none 0 0))) := by unfold soO; go_grown
  have hx1 := heap_alloc_new w (.cells #[.int .i64 s.obj, .int .i64 s.kind, vO] 24)
  have hx2 := heap_alloc_new (w.alloc (.cells #[.int .i64 s.obj, .int .i64 s.kind, vO] 24)) (.map #[] 0)
  have hx3 := heap_alloc_new ((w.alloc (.cells #[.int .i64 s.obj, .int .i64 s.kind, vO] 24)).alloc (.map #[] 0)) (soO (.slice none 0 0) (w.heap.size + 1) 0 (min budget 32768) (.slice none 0 0))
  simp only [World.size_alloc] at hx2 hx3
  have y2 := (Below.heap_alloc _ (soO (.slice none 0 0) (w.heap.size + 1) 0 (min budget 32768) (.slice none 0 0)) _ (by simp only [World.size_alloc]; omega)).trans hx2
  have y1 := (Below.heap_alloc _ (soO (.slice none 0 0) (w.heap.size + 1) 0 (min budget 32768) (.slice none 0 0)) _ (by simp only [World.size_alloc]; omega)).trans ((Below.heap_alloc _ (.map #[] 0) _ (by simp only [World.size_alloc]; omega)).trans hx1)
  unfold soO at hx3 y1 y2 hb3
  rw [show ((0 : Nat) : Int) = 0 from rfl] at hx3 y1 y2 hb3
  obtain ⟨W3, hW3⟩ : ∃ W, ((w.alloc (.cells #[.int .i64 s.obj, .int .i64 s.kind, vO] 24)).alloc (.map #[] 0)).alloc (.cells #[.slice none 0 0, .map (some (w.heap.size + 1)), .int .i64 0, .int .i64 (min budget 32768), .slice none 0 0] 66 (0, 0)) = W := ⟨_, rfl⟩
  rw [hW3] at hb3 hx3 y1 y2
  have c0 : W3.cell? ⟨w.heap.size, 0, none⟩ = some (.int .i64 s.obj) := by rw [cell_of_row _ _ _ _ _ _ y1]; rfl
  have c1 : W3.cell? ⟨w.heap.size, 1, none⟩ = some (.int .i64 s.kind) := by rw [cell_of_row _ _ _ _ _ _ y1]; rfl
  have c2 : W3.cell? ⟨w.heap.size, 2, none⟩ = some vO := by rw [cell_of_row _ _ _ _ _ _ y1]; rfl
  have HS := Lib.hid (segments_any (s := s) (h.on hb3) (by omega))
  have HB := Lib.hid hb3
  have HY := Lib.hid (And.intro y1 (And.intro y2 hx3))
  have HW := Lib.hid hW3
  clear h hb3 hx1 hx2 hx3 y1 y2 hW3
  have mk := fun W => make_mapO W
  go_enter Try.func13, Try.ntmps13
  go_wp2_with fail
  rw [HW.out]
  refine HS.out.mono ?_
  rintro _ w1 ⟨vps, rfl, ps, S, hm, hs, hmap, hap⟩
  have hbw := hm.below.size
  have hsz := HB.out.size
  have hI0 : LsI w (w.heap.size + 1 + 1) (w.heap.size + 1) (min budget 32768) #[.int .i64 s.obj, .int .i64 s.kind, vO] vps ps 0 w1 (.slice none 0 0) [] := by
    obtain ⟨y1, y2, y3⟩ := HY.out
    exact ⟨HB.out.on hm.below, (hm.below.block _ (heap_inO y1)).trans y1, ownsRow_baseI hm.row hsz, (hm.below.block _ (heap_inO y3)).trans y3, (hm.below.block _ (heap_inO y2)).trans y2, ⟨[], World.ownsRow_nil _ _ _ _, fun k l hk => by simp at hk⟩, rfl, fun j q _ hq => (hap.own q (List.mem_of_getElem? hq)).base hsz, by omega, by omega⟩
  have hrd : ∀ q ∈ ps, ∀ o ∈ q.1.ops, o.Wf := fun q hq => (hm.rd q hq).1.2
  have HI0 := Lib.hid hI0
  have HPW := Lib.hid hap.pw
  have HST := Lib.hid (And.intro hs (And.intro hmap hrd))
  have hpl : ps.length ≤ 1000 := by
    have e : ps.length = (cutL S).length := by rw [← List.length_map (f := Prod.fst), hmap, List.length_map]
    have := cut_few (P := S)
    have := hs.1.length_eq
    omega
  obtain ⟨aps, cps, rfl, _⟩ := own_len hm.row
  clear hm hs hmap hap hI0 hrd HS c0 c1 c2 mk
  go_wp2_with fail
  go_loopw [19] (fun s19 wr => ∃ (i : Nat), s19 = .int .i64 i ∧ i ≤ ps.length ∧ Hid (∃ v P, LsI w (w.heap.size + 1 + 1) (w.heap.size + 1) (min budget 32768) #[.int .i64 s.obj, .int .i64 s.kind, vO] (.slice aps ps.length cps) ps i wr v P)) (fun s19 _ => ps.length - (intOf s19).toNat)
  case atStart => exact ⟨0, rfl, Nat.zero_le _, Lib.hid ⟨_, _, HI0.out⟩⟩
  case round =>
    clear HI0 HY HW HB
    obtain ⟨i, rfl, hi, HI⟩ := hrel
    obtain ⟨v, P, hI⟩ := HI.out
    have HI := Lib.hid hI
    rename World => wq
    by_cases hil : i < ps.length
    · have q3 : (i : Int) < (ps.length : Int) := by omega
      have q4 : (0 : Int) ≤ i := by omega
      have q5 : IntKind.i64.wrap ((i : Int) + 1) = (i : Int) + 1 := IntWalk.i64_in _ (by omega)
      obtain ⟨q, hq⟩ : ∃ q, ps[i]? = some q := ⟨_, List.getElem?_eq_getElem hil⟩
      have hqc : q.1.ops ∈ cutL S := by
        have h1 : q.1 ∈ ps.map Prod.fst := List.mem_map.2 ⟨q, List.mem_of_getElem? hq, rfl⟩
        rw [HST.out.2.1] at h1
        obtain ⟨c, hc, e⟩ := List.mem_map.1 h1
        rw [← e]; exact hc
      have hne : 0 < q.1.ops.length := List.length_pos_iff.2 ((cutL_ok S).ne _ hqc)
      have hqo := hI.olds i q (Nat.le_refl _) hq
      obtain ⟨b, p, cap, hv, hb, hr⟩ := (own_rd hI.segs).at (by omega)
      obtain ⟨rfl, _⟩ : p = 0 ∧ True := by
        have := hI.segs
        rw [hv] at this
        exact ⟨(own_cell this).1, trivial⟩
      obtain ⟨rfl, _, rfl⟩ := Value.slice.inj hv
      obtain ⟨⟨qo, qk, ql⟩, u⟩ := q
      simp only at hqc hne hqo
      have r0 := hr _ _ (flatS_at ps i _ hq 0 _ rfl)
      have r1 := hr _ _ (flatS_at ps i _ hq 1 _ rfl)
      have r2 := hr _ _ (flatS_at ps i _ hq 2 _ rfl)
      simp only [Nat.zero_add, Nat.add_zero] at r0 r1 r2
      obtain ⟨au, cu, rfl, _⟩ := own_len hqo
      have hql0 : ∀ o ∈ ql, o.Wf := HST.out.2.2 _ (List.mem_of_getElem? hq)
      have HQW := Lib.hid hql0
      obtain ⟨av, cv, rfl⟩ : ∃ av cv, v = .slice av P.length cv := by
        obtain ⟨cs, hrow, _⟩ := hI.row
        obtain ⟨av, cv, e, _⟩ := own_len hrow
        exact ⟨av, cv, e⟩
      have hbA : Below wq.heap.size wq (wq.alloc (.cells #[.int .i64 qo, .int .i64 qk, .slice au ql.length cu] 24)) := by go_grown
      have hbx := heap_alloc_new wq (.cells #[.int .i64 qo, .int .i64 qk, .slice au ql.length cu] 24)
      have HQ := Lib.hid (And.intro hq (And.intro hqc hne))
      clear hI hq hqc hne hqo hv hr hb hql0
      by_cases hmany : 16 < ql.length
      · have q6 : (16 : Int) < (ql.length : Int) := by omega
        have HLR := Lib.hid (show LeastR s (min budget 32768) [] false 34 from ⟨S, HST.out.1, .inl ⟨⟨_, HQ.out.2.1, hmany⟩, rfl, rfl, rfl⟩⟩)
        have HBE := Lib.hid (HI.out.bel.on hbA)
        clear hbA hbx hmany
        go_wp2_with fail
        go_returns
        exact ⟨_, _, _, rfl, [], HLR.out, OwnI.nil _ _ _, HBE.out⟩
      · have q6 : ¬ ((16 : Int) < (ql.length : Int)) := by omega
        have hql : ql.length ≤ 16 := by omega
        obtain ⟨W2, hW2⟩ : ∃ W, wq.alloc (.cells #[.int .i64 qo, .int .i64 qk, .slice au ql.length cu] 24) = W := ⟨_, rfl⟩
        rw [hW2] at hbA hbx
        have hd : Below W2.heap.size W2 W2.drew := (Below.refl _ _).drew
        have HI2 := Lib.hid ((HI.out.on hbA).on hd)
        have HW2 := Lib.hid hW2
        have HC := Lib.hid (show ∀ W, Below W2.drew.heap.size W2.drew W → W.cell? ⟨w.heap.size + 1 + 1, 0, none⟩ = some (.slice av P.length cv) ∧ W.cell? ⟨wq.heap.size, 2, none⟩ = some (.slice au ql.length cu) from fun W hb => by
          have e1 := (HI2.out.on hb).bs
          unfold soO at e1
          have e2 := (hb.block _ (heap_inO hbx)).trans hbx
          exact ⟨by rw [cell_of_row _ _ _ _ _ _ e1]; rfl, by rw [cell_of_row _ _ _ _ _ _ e2]; rfl⟩)
        obtain ⟨k0, k1⟩ := HC.out W2.drew (Below.refl _ _)
        have HBX := Lib.hid ((hd.block _ (heap_inO hbx)).trans hbx)
        have HK9 := Lib.hid (show ∀ w4, Keeps (fun k => (Value.slice au ql.length cu).ownBlock = some k) W2.drew w4 → w4.cell? ⟨wq.heap.size, 2, none⟩ = some (.slice au ql.length cu) from fun w4 hk4 => by
          have e9 := (hk4.block _ (heap_inO HBX.out) fun e2 => by
            obtain ⟨_, c', h'⟩ := own_ty (HI2.out.olds i _ (Nat.le_refl _) HQ.out.1) e2
            exact absurd (ty_ne HBX.out h') (by decide)).trans HBX.out
          rw [cell_of_row _ _ _ _ _ _ e9]
          rfl)
        clear hbA hbx hd hW2
        go_wp2_with fail
        rw [HW2.out]
        go_region_law (first
          | (go_simp; (with_reducible refine (arrange_any (HI2.out.olds i _ (Nat.le_refl _) HQ.out.1) HQ.out.2.2 HQW.out hql).mono ?_); rintro _ w4 ⟨va, vd, S4, rfl, hpm, hst, hpc, ho4, hk4⟩; obtain ⟨v', w5, c4, c4a, _, r5, ⟨a5, p5, rfl⟩, c5, f5, hN⟩ := HI2.out.next HPW.out HQ.out.1 (by omega) hk4 hpc hpm hst; have HN := Lib.hid hN; simp only at r5; have k9 := HK9.out w4 hk4; clear hN ho4 hk4 hpm hst hpc)
          | fail)
        all_goals
          clear c4 c4a r5 c5 f5 k9
          go_wp2_with fail
          go_roundw
          case measure => simp [intOf] <;> omega
          case rel => exact ⟨i + 1, by simp, by omega, Lib.hid ⟨_, _, HN.out⟩⟩
    · obtain rfl : i = ps.length := by omega
      have q3 : ¬ ((ps.length : Int) < (ps.length : Int)) := by omega
      have c1 : wq.cell? ⟨w.heap.size, 1, none⟩ = some (.int .i64 s.kind) := by rw [cell_of_row _ _ _ _ _ _ hI.seg0]; rfl
      have hPl : P.length ≤ 1000 := by rw [hI.len]; exact hpl
      have hfew := hI.so.pcs.few
      have hmr := muR_le P hfew
      have HP := Lib.hid (And.intro (hI.pcs HST.out.2.1) (And.intro hfew (And.intro hI.wf (And.intro hPl hmr))))
      have HSC := Lib.hid (show (∀ c ∈ cutL S, c.length ≤ 16) from fun c hc => by
        obtain ⟨hl1, he1⟩ := hI.pcs HST.out.2.1
        obtain ⟨k, hk⟩ := List.getElem?_of_mem hc
        have hkl : k < P.length := by rw [hl1]; exact (List.getElem?_eq_some_iff.1 hk).1
        obtain ⟨c', hc', hpm, _⟩ := he1 k _ (List.getElem?_eq_getElem hkl)
        rw [hk] at hc'
        rw [Option.some.inj hc', ← hpm.length_eq]
        exact hfew _ (List.getElem_mem hkl))
      clear hI hPl hfew hmr
      go_wp2_with fail
      refine (mfirst_any s.kind wq).mono ?_
      rintro _ w2 ⟨v2, rfl, hv2, hb2⟩
      obtain ⟨a2, c2, rfl⟩ : ∃ a c, v2 = .slice a (firstC s.kind).length c := by
        rcases hv2 with ⟨h0, ao, cap, rfl⟩ | ⟨b, o, cap, rfl, _⟩
        · exact ⟨ao, cap, by rw [h0]; rfl⟩
        · exact ⟨_, _, rfl⟩
      have HT := Lib.hid (mtext_any hv2 (by have := first_len s.kind; omega))
      have HI2 := Lib.hid (HI.out.on hb2)
      clear hv2 hb2 c1
      go_wp2_with fail
      refine HT.out.mono ?_
      rintro _ w3 ⟨rfl, hb3⟩
      have hI3 := HI2.out.on hb3
      obtain ⟨hpcs, hfew, hwfP, hPl, hmr⟩ := HP.out
      have HEC := Lib.hid (ends_all hwfP hmin (by omega) (muR P + 1) w3 ⟨[], [], []⟩ (0, 0, firstC s.kind) hI3.so ⟨Nat.zero_le _, by simp, first_okz s.kind, by have := first_len s.kind; simp only; omega⟩ (by have := mu_le P (firstC s.kind); omega) (by simp only [List.length_nil]; omega) (by simp only [List.length_nil]; omega))
      unfold soC at HEC
      have HB3 := Lib.hid hI3.bel
      clear hI3 hpcs hfew hwfP hPl hmr HT HI2
      go_wp2_with fail
      refine HEC.out.mono ?_
      rintro _ w4 ⟨rfl, hso4, hfr4⟩
      have hR : endsF (min budget 32768) P (muR P + 1) ⟨[], [], []⟩ (0, 0, firstC s.kind) = runO (min budget 32768) P s.kind := rfl
      rw [hR] at hso4 ⊢
      have HSO4 := Lib.hid hso4
      have HB4 := Lib.hid (HB3.out.trans (hfr4.below (Nat.le_refl _) (by omega) (by omega) HB3.out.size))
      have HBK := Lib.hid (show (runO (min budget 32768) P s.kind).1.back.length ≤ 1000000 by
        obtain ⟨_, _, _, hPl, hmr⟩ := HP.out
        have := (ends_back (min budget 32768) P (muR P + 1) ⟨[], [], []⟩ (0, 0, firstC s.kind)).2
        rw [hR] at this
        simp only [List.length_nil] at this
        omega)
      clear hso4 hfr4 HEC HB3 hR
      obtain ⟨R, hRR⟩ : ∃ R, runO (min budget 32768) P s.kind = R := ⟨_, rfl⟩
      have HRR := Lib.hid hRR
      rw [hRR] at HSO4 HBK ⊢
      clear hRR
      go_wp2_with fail
      refine (spent_any HSO4.out).mono ?_
      rintro _ w5 ⟨rfl, hb5⟩
      have HSO5 := Lib.hid (HSO4.out.on hb5)
      have HB5 := Lib.hid (HB4.out.on hb5)
      clear hb5 HSO4 HB4
      by_cases hov : min budget 32768 < (R.1.seen.length : Int)
      · rw [decide_eq_true hov]
        have HLR := Lib.hid (show LeastR s (min budget 32768) [] false 35 from ⟨S, HST.out.1, .inr ⟨HSC.out, P, HP.out.1, .inl ⟨by rw [HRR.out]; exact hov, rfl, rfl, rfl⟩⟩⟩)
        clear hov
        go_wp2_with fail
        go_returns
        exact ⟨_, _, _, rfl, [], HLR.out, OwnI.nil _ _ _, HB5.out⟩
      · rw [decide_eq_false hov]
        have HLR := Lib.hid (show LeastR s (min budget 32768) R.1.back.reverse R.2 0 from ⟨S, HST.out.1, .inr ⟨HSC.out, P, HP.out.1, .inr ⟨by rw [HRR.out]; omega, rfl, by rw [HRR.out], by rw [HRR.out]⟩⟩⟩)
        obtain ⟨vb, _, _, _, _, k4, hob, _⟩ := HSO5.out.rd
        have HRV := Lib.hid (rev_any hob HBK.out)
        obtain ⟨ab, cb, rfl⟩ := hob.len
        have HOB := Lib.hid hob
        clear hov hob
        go_wp2_with fail
        refine HRV.out.mono ?_
        rintro _ w6 ⟨rfl, ho6, hk6⟩
        have k6 : w6.cell? ⟨w.heap.size + 1 + 1, 4, none⟩ = some (.slice ab R.1.back.length cb) := by
          obtain ⟨vb', hb', _⟩ := HSO5.out.bs
          have e6 := (hk6.block _ (heap_inO hb') fun e => by
            obtain ⟨_, cur, hc⟩ := HOB.out.block e
            unfold soO at hb'
            exact absurd (ty_ne hb' hc) (by decide)).trans hb'
          unfold soO at e6 hb'
          rw [cell_of_row _ _ _ _ _ _ hb'] at k4
          rw [cell_of_row _ _ _ _ _ _ e6]
          exact k4
        have HO6 := Lib.hid ho6
        have HB6 := Lib.hid (HB5.out.trans (hk6.below (fun g e => (HOB.out.block e).1) HB5.out.size))
        clear ho6 hk6 k4
        go_wp2_with fail
        go_returns
        exact ⟨_, _, _, rfl, _, HLR.out, HO6.out, HB6.out⟩
end Od
end Go.Proofs.Ytppjmmdiglnkfaa
