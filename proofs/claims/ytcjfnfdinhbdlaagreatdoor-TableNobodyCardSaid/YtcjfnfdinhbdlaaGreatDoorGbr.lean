import Derived.Test.YtcjfnfdinhbdlaaGreatDoorGbq
import Derived.Test.YtcjfnfdinhbdlaaGreatDoorGaq
import Derived.Test.YtcjfnfdinhbdlaaGreatDoorGbk
import Derived.Test.YtcjfnfdinhbdlaaGreatDoorGbo
namespace Go.Proofs.YtcjfnfdinhbdlaaGreatDoor
set_option maxRecDepth 100000
open Go.ChangeShapes Go.WideShapes Go.ChangeAt Go.RowKit Go.PlainAid Go.Deep
def rowP (cur : Array Value) : Obj := .cells cur 32 (0, 0)
def OpR (lo : Nat) (L : List OpV) (v : Value) (Y : List (Nat × Obj)) : Prop :=
  (L = [] ∧ v = .slice none 0 0 ∧ Y = []) ∨ ∃ g cap cur, v = .slice (some ⟨g, 0, none⟩) L.length cap ∧ Y = [(g, rowP cur)] ∧ lo ≤ g ∧ L.length ≤ cap ∧ cap ≤ maxLen ∧ cur.size = cap * 11 ∧ cur.toList.take (L.length * 11) = flatO L
def boxO (v : Value) : Obj := .cells #[v] 28 (0, 0)
theorem boxO_cell {w : World} {b : Nat} {v : Value} (h : w.heap[b]? = some (boxO v)) : w.cell? ⟨b, 0, none⟩ = some v ∧ w.frozen? ⟨b, 0, none⟩ = false := by
  unfold boxO at h
  refine ⟨?_, frozen_of_row _ _ _ _ _ h⟩
  rw [cell_of_row _ _ _ _ _ _ h]
  rfl
section
variable {w0 w w' : World} {pp n c tt : Nat} {tb : Nat → Nat} {V : Int → ByteArray} {R : List (Nat × Obj)} {u0 : Nat} {RR : Nat → List Pr} {QQ : Nat → List Int} {l : List OpV}
theorem OpR.own {L : List OpV} {v : Value} {Y Y' : List (Nat × Obj)} (h : OpR w0.heap.size L v Y) (H : PV w0 pp n c V Y' w) (hs : ∀ y ∈ Y, y ∈ Y') : OpsOwn w0.heap.size w v L := by
  refine ⟨flatO_len L, ?_⟩
  rcases h with ⟨rfl, rfl, rfl⟩ | ⟨g, cap, cur, rfl, rfl, h1, h2, h3, h4, h5⟩
  · exact .inl ⟨rfl, rfl⟩
  · exact .inr ⟨g, cap, cur, rfl, h1, H.mem (x := (g, rowP cur)) (hs _ (by simp)), h2, h3, h4, h5⟩
set_option maxHeartbeats 1000000 in
/-- An operation more. -/
theorem op_pushR {L : List OpV} {v : Value} {Rw Y : List (Nat × Obj)} (H : PV w0 pp n c V (Rw ++ Y) w) (hr : OpR w0.heap.size L v Rw) (hap : ∀ y ∈ Rw, ∀ z ∈ Y, z.1 ≠ y.1) (x : OpV) (hlen : L.length ≤ 65536) :
    ∃ g cap cur w2, (appOO #[v, .slice (some ⟨w.heap.size, 0, none⟩) 1 1]).run Tryz.prog (w.alloc (opO x)) = .ok (.slice (some ⟨g, 0, none⟩) (L.length + 1) cap) w2 ∧
      PV w0 pp n c V ((g, rowP cur) :: Y) w2 ∧ OpR w0.heap.size (L ++ [x]) (.slice (some ⟨g, 0, none⟩) (L.length + 1) cap) [(g, rowP cur)] ∧ ∀ z ∈ Y, z.1 ≠ g := by
  have hown : w.ownsRow w0.heap.size 32 11 v L.length (flatO L) := hr.own H fun y hy => List.mem_append_left _ hy
  have hn := H.below.size
  have hlt := fun (z : Nat × Obj) (hz : z ∈ Y) => H.lt (x := z) (List.mem_append_right _ hz)
  obtain ⟨i0, hi, hz0, hz1, hz2⟩ := info_parts info_op
  have hq := heap_alloc_new w (opO x)
  have hba : Below w.heap.size w (w.alloc (opO x)) := by go_grown
  have hfx : flatO [x] = cellsO x := by unfold flatO; simp
  obtain ⟨g, cap, w2, hrn, h2, h3, h4, _⟩ := run_append_lies (P := Tryz.prog) (w := w.alloc (opO x)) 28 28 w0.heap.size 32 i0 _ 11 88 Tryz.underlying28 hi hz0 hz1 hz2 (by simp [Value.cells]) (by decide) v L.length (flatO L) (World.ownsRow.alloc hown _) ⟨w.heap.size, 0, none⟩ 1 1 (cellsO x) rfl
    (World.news_of_block hq) (fun u hu => flatO_one [x] u (by rw [hfx]; exact hu)) (by decide) (by unfold maxLen; omega) (by omega) (by rw [World.size_alloc]; omega) _ rfl
  have hbel : Below w0.heap.size w0 w2 := H.below.trans ((hba.mono hn).grown h3 (by rw [World.size_alloc]; omega) (fun k e => (hown.lt k e).1))
  obtain ⟨_, hh⟩ := h2
  rcases hh with ⟨hz, h00⟩ | ⟨g2, cap2, cur2, hv, hlo, hgb, k1, k2, k3, k4⟩
  · omega
  · cases hv
    have hsz : w.heap.size ≤ w2.heap.size := Nat.le_trans hba.size h3.size
    have hoth : ∀ k, k < w.heap.size → v.ownBlock ≠ some k → w2.heap[k]? = w.heap[k]? := fun k hk hne => (h3.block k (Nat.lt_of_lt_of_le hk hba.size) (fun e => hne e.symm)).trans (hba.block k hk)
    have hrow : cur2.toList.take ((L ++ [x]).length * 11) = flatO (L ++ [x]) := by
      rw [List.length_append, show flatO (L ++ [x]) = flatO L ++ cellsO x by unfold flatO; rw [List.flatMap_append]; simp]
      exact k4
    refine ⟨g, cap, cur2, w2, hrn, ?_, .inr ⟨g, cap, cur2, by simp, rfl, hlo, by simpa using k1, k2, k3, hrow⟩, ?_⟩
    · rcases hr with ⟨rfl, rfl, rfl⟩ | ⟨g1, cap1, cur1, rfl, rfl, _⟩
      · have hg2 : w.heap.size ≤ g := by
          rcases h4 with h | h
          · cases h
          · rw [h, World.size_alloc]; omega
        exact PV.add (R := Y) H ⟨h3.os.trans hba.os, h3.tape.trans hba.tape, h3.output.trans hba.output, hsz, fun k hk => hoth k hk (by simp [Value.ownBlock])⟩ hg2 hgb
      · have hne : pp ≠ g1 := PV.ne (x := (g1, rowP cur1)) H (by simp) rfl (by decide)
        have hg2 : g = g1 ∨ w.heap.size ≤ g := by
          rcases h4 with h | h
          · exact .inl (Option.some.inj (by simpa [Value.ownBlock] using h)).symm
          · exact .inr (by rw [h, World.size_alloc]; omega)
        exact PV.swap (R := Y) H (fun z hz => hap (g1, rowP cur1) (by simp) z hz) hne hsz (fun k hk hkb => hoth k hk (by simp [Value.ownBlock]; omega)) hg2 hgb hbel
    · intro z hz e
      rcases h4 with h | h
      · rcases hr with ⟨rfl, rfl, rfl⟩ | ⟨g1, cap1, cur1, rfl, rfl, _⟩
        · cases h
        · have h : some g1 = some g := by simpa [Value.ownBlock] using h
          cases h
          exact hap (_, rowP cur1) List.mem_cons_self z hz e
      · have := hlt z hz
        rw [World.size_alloc] at h
        omega
theorem rdO_own {o : OpV} (h : checkZ o = 0) : rdO (wayS 0 o) (recS o) = some o := by
  unfold rdO
  rw [dec_enc h]
  exact if_pos rfl
theorem getL_own {o : OpV} (hk : OpsK l) (ho : o ∈ l) : Hs.getL TL l o.id = some o := Hs.get_is TL hk.rise ho
attribute [local go_sem ↓ high] load_op store_o
def undO (k : Nat) (l : List OpV) (key s : ByteArray) : Option OpV := if k = 0 then rdO key s else match (splitL key).getLast? with
  | none => none
  | some id => match Hs.getL TL l id with
    | none => none
    | some o => if wayS (k : Int) o = key then some o else none
theorem und_own {o : OpV} (hk : OpsK l) (ho : o ∈ l) (k : Nat) : undO k l (wayS (k : Int) o) (recW (k : Int) o) = some o := by
  unfold undO
  by_cases h0 : k = 0
  · subst h0
    rw [if_pos rfl]
    exact rdO_own (hk.chk o ho)
  · rw [if_neg h0]
    have hlen := wayI_len (k : Int) o
    have hsp := (split_key (wayI (k : Int) o) (by omega) (hk.inI ho _)).2
    show (match (splitL (keyS (wayI (k : Int) o))).getLast? with | none => none | some id => _) = _
    rw [hsp, wayI_last]
    show (match Hs.getL TL l o.id with | none => none | some o => _) = _
    rw [getL_own hk ho]
    exact if_pos rfl
set_option maxHeartbeats 4000000 in
theorem under_any3 (H : PV w0 pp n c V R w) (hR : TabR pp tt tb R) (hn : 1 < n) (hT : TabV V n u0 l RR QQ) (hRu : RulesAt w0) (k : Nat) (key s : ByteArray) (hsk : key.size ≤ 65536) (hss : s.size ≤ 65536) :
    Calls Tryz.prog 97 #[.pointer (some ⟨tt, 0, none⟩), .int .i64 k, .string key, .string s] w fun e w' => e = .returned (gotV (undO k l key s)) ∧ PV w0 pp n c V R w' := by
  have H0 := H.push (opO zeroV)
  have hf0 := H.fresh
  have hlo := H.below.size
  obtain ⟨W0, hW0⟩ : ∃ W, w.alloc (.cells #[Value.int .i64 0, Value.int .i64 0, Value.int .i64 0, Value.int .i64 0, Value.int .i64 0, Value.int .i64 0, Value.int .i64 0, Value.bool false, Value.int .i64 0, Value.int .i64 0, Value.int .i64 0] 32) = W := ⟨_, rfl⟩
  have hW0' : w.alloc (opO zeroV) = W0 := hW0
  rw [hW0'] at H0
  obtain ⟨b, hb⟩ : ∃ b, w.heap.size = b := ⟨_, rfl⟩
  rw [hb] at H0 hf0 hlo
  by_cases h0 : k = 0
  · subst h0
    have HRD := Lib.hid (tread_any key s W0 (hRu.on H0.below) (by omega))
    have HZ := Lib.hid (And.intro H0 (And.intro hf0 (And.intro hlo hb)))
    have HU := Lib.hid (show undO 0 l key s = rdO key s by unfold undO; rw [if_pos rfl])
    clear H H0 hf0 hlo hR hT hRu hW0' hb hsk hss
    go_enter Tryz.func97, Tryz.ntmps97
    go_wp2_with fail
    rw [HZ.out.2.2.2]
    clear hW0
    refine HRD.out.mono ?_
    rintro e w1 ⟨rfl, hb1⟩
    have H1 := HZ.out.1.on hb1
    cases ho : rdO key s with
    | none =>
      obtain ⟨W5, hs5, H5⟩ := H1.storeO HZ.out.2.1 HZ.out.2.2.1 zeroV
      dsimp only [zeroV] at hs5
      have H5' := Lib.hid H5
      have HE := Lib.hid (HU.out.trans ho)
      clear H1 H5 hb1 HRD ho
      unfold gotV
      go_wp2_with fail
      have q6 := cells11 (H5'.out.opAt List.mem_cons_self)
      refine bodyPost_ret (v := .tuple #[Value.agg #[Value.int .i64 zeroV.id, Value.int .i64 zeroV.proc, Value.int .i64 zeroV.obj, Value.int .i64 zeroV.kind, Value.int .i64 zeroV.meth, Value.int .i64 zeroV.arg, Value.int .i64 zeroV.sec, Value.bool zeroV.done, Value.int .i64 zeroV.res, Value.int .i64 zeroV.inv, Value.int .i64 zeroV.ret], .int .i64 6]) (by simp [results, Tryz.results97, go_sem, q6]) rfl ?_
      exact ⟨by rw [HE.out]; rfl, H5'.out.drop⟩
    | some o =>
      obtain ⟨W5, hs5, H5⟩ := H1.storeO HZ.out.2.1 HZ.out.2.2.1 o
      have H5' := Lib.hid H5
      have HE := Lib.hid (HU.out.trans ho)
      clear H1 H5 hb1 HRD ho
      unfold gotV
      go_wp2_with fail
      have q6 := cells11 (H5'.out.opAt List.mem_cons_self)
      refine bodyPost_ret (v := .tuple #[Value.agg #[Value.int .i64 o.id, Value.int .i64 o.proc, Value.int .i64 o.obj, Value.int .i64 o.kind, Value.int .i64 o.meth, Value.int .i64 o.arg, Value.int .i64 o.sec, Value.bool o.done, Value.int .i64 o.res, Value.int .i64 o.inv, Value.int .i64 o.ret], .int .i64 0]) (by simp [results, Tryz.results97, go_sem, q6]) rfl ?_
      exact ⟨by rw [HE.out]; rfl, H5'.out.drop⟩
  · have f0 : ((k : Int) == 0) = false := beq_eq_false_iff_ne.2 (by omega)
    have HSP := Lib.hid (split9_any key W0 (by omega))
    have hU : undO k l key s = match (splitL key).getLast? with
        | none => none
        | some id => match Hs.getL TL l id with
          | none => none
          | some o => if wayS (k : Int) o = key then some o else none := by unfold undO; rw [if_neg h0]
    have HZ := Lib.hid (And.intro H0 (And.intro hf0 (And.intro hlo (And.intro hb (And.intro hR (And.intro hT (And.intro hRu hU)))))))
    clear H H0 hf0 hlo hR hT hRu hW0' hb hU hsk hss h0
    go_enter Tryz.func97, Tryz.ntmps97
    go_wp2_with fail
    clear hW0
    refine HSP.out.mono ?_
    rintro e w1 ⟨v, rfl, hI, hb1⟩
    obtain ⟨H0, hf0, hlo, hb, hR, hT, hRu, hU⟩ := HZ.out
    obtain ⟨ez, hez⟩ : ∃ ez : Int, (if splitOk key = true then (0 : Int) else 22) = ez := ⟨_, rfl⟩
    rw [hez]
    obtain ⟨ao, cap, rfl, hm, hx⟩ := hI.parts
    have hl4 := splitL_len key
    have H1 := H0.on hb1
    by_cases hl0 : (splitL key).length = 0
    · have HE := Lib.hid (show undO k l key s = none by
        rw [hU, List.length_eq_zero_iff.1 hl0]
        rfl)
      have f1 : (((splitL key).length : Int) == 0) = true := by rw [hl0]; rfl
      obtain ⟨W5, hs5, H5⟩ := H1.storeO hf0 hlo zeroV
      dsimp only [zeroV] at hs5
      have H5' := Lib.hid H5
      rw [hb]
      clear H0 hf0 hlo hR hT hRu hU hI hm hx hl4 H1 H5 hl0 hb1 HSP hez
      go_wp2_with fail
      have q6 := cells11 (H5'.out.opAt List.mem_cons_self)
      refine bodyPost_ret (v := .tuple #[Value.agg #[Value.int .i64 zeroV.id, Value.int .i64 zeroV.proc, Value.int .i64 zeroV.obj, Value.int .i64 zeroV.kind, Value.int .i64 zeroV.meth, Value.int .i64 zeroV.arg, Value.int .i64 zeroV.sec, Value.bool zeroV.done, Value.int .i64 zeroV.res, Value.int .i64 zeroV.inv, Value.int .i64 zeroV.ret], .int .i64 6]) (by simp [results, Tryz.results97, go_sem, q6]) rfl ?_
      exact ⟨by rw [HE.out]; rfl, H5'.out.drop⟩
    · obtain ⟨m, hmm⟩ : ∃ m, (splitL key).length = m + 1 := ⟨(splitL key).length - 1, by omega⟩
      obtain ⟨id, hid⟩ : ∃ id, (splitL key)[m]? = some id := ⟨_, List.getElem?_eq_getElem (by omega)⟩
      have hlast : (splitL key).getLast? = some id := by
        rw [List.getLast?_eq_getElem?, hmm]
        exact hid
      obtain ⟨bb, oo, rfl, hbl, hbd, hcell⟩ := hx m id hid
      have hg := tabget_any H1 (hR.more fun y hy => List.mem_cons_of_mem _ hy) hn hT.trees hRu id hbd
      rw [getO_is (hT.is 0 (by omega)) hT.ok id hbd] at hg
      have HG := Lib.hid hg
      rw [hlast] at hU
      have HU2 := Lib.hid hU
      rw [hmm]
      have f1 : (((m + 1 : Nat) : Int) == 0) = false := beq_eq_false_iff_ne.2 (by omega)
      have f2 : IntKind.i64.wrap (((m + 1 : Nat) : Int) - 1) = (m : Int) := by rw [IntWalk.i64_in _ (by omega)]; omega
      have f3 : (m : Int) < ((m + 1 : Nat) : Int) := by omega
      have f4 : m < m + 1 := by omega
      have hm3 : m ≤ 3 := by omega
      rw [hb]
      clear H0 hf0 hlo hR hT hRu hU hI hm hx hlast hbl hbd H1 hg hb1 HSP hmm hl0 hl4 hid hez
      go_wp2_with fail
      refine HG.out.mono ?_
      rintro e w2 ⟨rfl, H2⟩
      clear HG hcell
      cases hgl : Hs.getL TL l id with
      | none =>
        have HE := Lib.hid (show undO k l key s = none by
          rw [HU2.out]
          show (match Hs.getL TL l id with | none => none | some o => _) = none
          rw [hgl])
        have hst := store_op_new w2 #[Value.int .i64 0, Value.int .i64 0, Value.int .i64 0, Value.int .i64 0, Value.int .i64 0, Value.int .i64 0, Value.int .i64 0, Value.bool false, Value.int .i64 0, Value.int .i64 0, Value.int .i64 0] rfl zeroV
        have H3 := H2.push (opO zeroV)
        have l3 := (H3.opAt (b := w2.heap.size) (x := zeroV) List.mem_cons_self).load
        obtain ⟨W5, hs5, H5⟩ := (H3.turn).storeO (fun z hz => by
          rcases List.mem_cons.1 hz with rfl | hz
          · have := H2.fresh (b, opO zeroV) List.mem_cons_self
            exact fun e => this e.symm
          · exact HZ.out.2.1 z hz) HZ.out.2.2.1 zeroV
        unfold opO at l3 hs5
        dsimp only [zeroV] at hst hs5 l3
        have H5' := Lib.hid H5
        clear H2 H3 H5 hgl
        unfold gotV
        go_wp2_with fail
        have q6 := cells11 (H5'.out.opAt List.mem_cons_self)
        refine bodyPost_ret (v := .tuple #[Value.agg #[Value.int .i64 zeroV.id, Value.int .i64 zeroV.proc, Value.int .i64 zeroV.obj, Value.int .i64 zeroV.kind, Value.int .i64 zeroV.meth, Value.int .i64 zeroV.arg, Value.int .i64 zeroV.sec, Value.bool zeroV.done, Value.int .i64 zeroV.res, Value.int .i64 zeroV.inv, Value.int .i64 zeroV.ret], .int .i64 6]) (by simp [results, Tryz.results97, go_sem, q6]) rfl ?_
        exact ⟨by rw [HE.out]; rfl, H5'.out.drop.drop⟩
      | some o =>
        have hU3 : undO k l key s = if wayS (k : Int) o = key then some o else none := by
          rw [HU2.out]
          show (match Hs.getL TL l id with | none => none | some o => _) = _
          rw [hgl]
        have ho := (Hs.get_some TL hgl).1
        have hst := store_op_new w2 #[Value.int .i64 0, Value.int .i64 0, Value.int .i64 0, Value.int .i64 0, Value.int .i64 0, Value.int .i64 0, Value.int .i64 0, Value.bool false, Value.int .i64 0, Value.int .i64 0, Value.int .i64 0] rfl o
        have H3 := H2.push (opO o)
        have l3 := (H3.opAt (b := w2.heap.size) (x := o) List.mem_cons_self).load
        have HK := Lib.hid (wayKey_any (k : Int) o (w2.alloc (opO o)) (HZ.out.2.2.2.2.2.1.ok.inI ho _))
        obtain ⟨tk, htk⟩ : ∃ tk, wayS (k : Int) o = tk := ⟨_, rfl⟩
        rw [htk] at HK hU3
        have hte := texts_same tk key
        have HU3 := Lib.hid hU3
        have H3' := Lib.hid H3
        have HFR := Lib.hid H2.fresh
        unfold opO at HK l3
        clear H2 H3 hgl ho hU3 htk
        unfold gotV
        go_wp2_with fail
        refine HK.out.mono ?_
        rintro e w4 ⟨rfl, hb4⟩
        have H4 := H3'.out.on hb4
        have hap : ∀ z ∈ (w2.heap.size, opO o) :: R, z.1 ≠ b := fun z hz => by
          rcases List.mem_cons.1 hz with rfl | hz
          · have := HFR.out (b, opO zeroV) List.mem_cons_self
            exact fun e => this e.symm
          · exact HZ.out.2.1 z hz
        by_cases he : tk = key
        · rw [decide_eq_true he] at hte
          have HE := Lib.hid (show undO k l key s = some o by rw [HU3.out, if_pos he])
          have l4 := (H4.opAt (b := w2.heap.size) (x := o) List.mem_cons_self).load
          obtain ⟨W5, hs5, H5⟩ := (H4.turn).storeO hap HZ.out.2.2.1 o
          have H5' := Lib.hid H5
          clear H4 H5 hb4 HK l3 hst he
          go_wp2_with fail
          have q6 := cells11 (H5'.out.opAt List.mem_cons_self)
          refine bodyPost_ret (v := .tuple #[Value.agg #[Value.int .i64 o.id, Value.int .i64 o.proc, Value.int .i64 o.obj, Value.int .i64 o.kind, Value.int .i64 o.meth, Value.int .i64 o.arg, Value.int .i64 o.sec, Value.bool o.done, Value.int .i64 o.res, Value.int .i64 o.inv, Value.int .i64 o.ret], .int .i64 0]) (by simp [results, Tryz.results97, go_sem, q6]) rfl ?_
          exact ⟨by rw [HE.out]; rfl, H5'.out.drop.drop⟩
        · rw [decide_eq_false he] at hte
          have HE := Lib.hid (show undO k l key s = none by rw [HU3.out, if_neg he])
          obtain ⟨W5, hs5, H5⟩ := (H4.turn).storeO hap HZ.out.2.2.1 zeroV
          dsimp only [zeroV] at hs5
          have H5' := Lib.hid H5
          clear H4 H5 hb4 HK l3 hst he
          go_wp2_with fail
          have q6 := cells11 (H5'.out.opAt List.mem_cons_self)
          refine bodyPost_ret (v := .tuple #[Value.agg #[Value.int .i64 zeroV.id, Value.int .i64 zeroV.proc, Value.int .i64 zeroV.obj, Value.int .i64 zeroV.kind, Value.int .i64 zeroV.meth, Value.int .i64 zeroV.arg, Value.int .i64 zeroV.sec, Value.bool zeroV.done, Value.int .i64 zeroV.res, Value.int .i64 zeroV.inv, Value.int .i64 zeroV.ret], .int .i64 6]) (by simp [results, Tryz.results97, go_sem, q6]) rfl ?_
          exact ⟨by rw [HE.out]; rfl, H5'.out.drop.drop⟩
end
end Go.Proofs.YtcjfnfdinhbdlaaGreatDoor
