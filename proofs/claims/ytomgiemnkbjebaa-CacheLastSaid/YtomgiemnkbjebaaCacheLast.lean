/- What was put last under a key is got, as long as it is kept, and at most as much is kept as may be; and the chapter's example holds: for every number and every list of acts. Conditions: none. -/
import Derived.Test.YtomgiemnkbjebaaCacL
import Derived.Test.YtomgiemnkbjebaaCActs
import Derived.Test.YtomgiemnkbjebaaLaw
import Derived.BigQuiet
import Derived.Deep.QuietTactic
import Derived.Lib.QuietBelow
import Derived.Deep.DeepCutAuto
import Derived.Deep.CutBlock
namespace Go.Proofs.Ytomgiemnkbjebaa.cacheLast
open Go.ChangeShapes Go.WideShapes Go.ChangeAt Go.RowKit Go.PlainAid
open Go.ChangeMaps (open_string)
open Go.Sort (grow)

theorem own : ownKnob Try.prog.godebug = none := by kernel_rfl
theorem laidOut : laidOutB Try.prog = true := by kernel_rfl
set_option maxRecDepth 100000
open Go.MapKept Go.ChangeMaps
/-- A cache and the map of what was put last. -/
structure LastInv (w0 : World) (p bm most c : Nat) (L : List KA.E) (T : Int → Option ByteArray) (w : World) : Prop where
  cat : ∃ es clock, MS.Is es clock c T ∧ KA.CaT w0 p most L [(bm, .map es clock)] w
  once : Once L
  zero : ∀ e ∈ L, e.pins = 0
  len : L.length ≤ most
  last : ∀ e ∈ L, T e.key = some e.val
set_option maxRecDepth 100000 in
set_option maxHeartbeats 4000000 in
theorem walk (w : World) (a0 : Int) (w0 : (Lit.int .u8 a0).wf = true) (v1 : Value) (l1 : List ActV) (h1 : ActsIn w v1 l1) :
    Calls Try.prog 4 #[.int .u8 a0, v1] w fun e w' => e = .returned (.bool true) ∧ Below w.heap.size w w' := by
  obtain ⟨b0, c0⟩ := bounds_u8 w0
  obtain ⟨n, hn1, hn2, hmod⟩ : ∃ n : Nat, 1 ≤ n ∧ n ≤ 9 ∧ a0 % 9 + 1 = (n : Int) := ⟨(a0 % 9 + 1).toNat, by omega, by omega, by omega⟩
  have hv : ∃ ao cap, v1 = .slice ao l1.length cap := by
    rcases h1 with ⟨rfl, ao, cap, rfl⟩ | ⟨b, o, cap, rfl, _⟩
    · exact ⟨_, _, rfl⟩
    · exact ⟨_, _, rfl⟩
  obtain ⟨ao, cap, rfl⟩ := hv
  have hlen : (l1.length : Int) ≤ 9223372036854775807 := by
    rcases h1 with ⟨rfl, _⟩ | ⟨_, _, _, _, _, _, hm, _⟩
    · decide
    · exact hm
  have H0 := Lib.hid h1
  clear h1
  have hmm := @run_makeMap Try.prog
  go_enter Try.func4, Try.ntmps4
  go_wp2_with fail
  refine (KA.new_ok n hn1 (by omega) _).mono ?_
  rintro e _ ⟨rfl, rfl⟩
  have H1 := Lib.hid (KA.new_cat w w (n : Int) [] (Below.refl _ _) (fun _ _ h => by cases h))
  have hb1 : Below w.heap.size w (w.alloc (.cells #[.int .i64 (n : Int), .slice none 0 0] 65)) := by go_grown
  have hs1 : (w.alloc (.cells #[.int .i64 (n : Int), .slice none 0 0] 65)).heap.size = w.heap.size + 1 := by simp
  generalize w.alloc (.cells #[.int .i64 (n : Int), .slice none 0 0] 65) = w1 at *
  go_wp2_with fail
  have hbm : Below w1.heap.size w1 (w1.alloc (.map #[] 0)) := by go_grown
  have H2 := Lib.hid (H1.out.add (g := w1.heap.size) (o := .map #[] 0) hbm (Nat.le_refl _) (heap_alloc_new _ _))
  have hb2 : Hid (Below w.heap.size w (w1.alloc (.map #[] 0))) := Lib.hid (hb1.on hbm)
  rw [hs1] at *
  generalize w1.alloc (.map #[] 0) = w2 at *
  clear hbm hb1 hs1 H1
  go_loopw [9] (fun i wr => ∃ (k : Nat) (L : List KA.E) (T : Int → Option ByteArray), k ≤ l1.length ∧ k ≤ 100 ∧ i = .int .i64 k ∧ LastInv w w.heap.size (w.heap.size + 1) n k L T wr) (fun i _ => l1.length - (intOf i).toNat)
  case atStart => exact ⟨0, [], fun _ => none, Nat.zero_le _, by omega, rfl, ⟨⟨_, _, MS.empty 0 0, H2.out⟩, List.nodup_nil, fun e h => absurd h List.not_mem_nil, Nat.zero_le _, fun e h => absurd h List.not_mem_nil⟩⟩
  case round =>
    obtain ⟨k, L, T, hk, hk100, rfl, ⟨⟨es, clock, hT, hC⟩, hO, hZ, hL, hla⟩⟩ := hrel
    have HC := Lib.hid hC
    have HO := Lib.hid hO
    have HZ := Lib.hid hZ
    have HT := Lib.hid hT
    have HLA := Lib.hid hla
    clear hC hO hZ hT hla
    by_cases hlt : k < l1.length ∧ k < 100
    · obtain ⟨hlt1, hlt2⟩ := hlt
      obtain ⟨x, hx⟩ : ∃ x, l1[k]? = some x := ⟨_, List.getElem?_eq_getElem hlt1⟩
      rcases H0.out with ⟨rfl, _⟩ | ⟨b, o, cap', hvv, hbl, _, _, hr⟩
      · simp at hlt1
      · cases hvv
        obtain ⟨hxw, hxr⟩ := hr k x hx
        have hxr2 := rangeAt_keep hxr (HC.out.below.block b hbl)
        have HXW := Lib.hid hxw
        have e0 := hxr2 0 _ rfl
        have e1 := hxr2 1 _ rfl
        have e2 := hxr2 2 _ rfl
        rw [Nat.add_zero] at e0
        clear hr hxr hxr2 hx hxw
        go_wp2_with fail
        have hA := (HC.out.add (show Below wr.heap.size wr (wr.alloc (.cells #[.int .i64 x.kind, .int .i64 x.key, .string x.val] 35)) by go_grown) (Nat.le_refl _) (heap_alloc_new _ _)).sub (R' := [(w.heap.size + 1, .map es clock), (wr.heap.size, .cells #[.int .i64 x.kind, .int .i64 x.key, .string x.val] 35 (0, 0))]) (fun b o h => by simpa [or_comm] using h)
        have hq : wr.heap.size ≠ w.heap.size + 1 := by
          have := heap_in (HC.out.mem (x := (w.heap.size + 1, .map es clock)) List.mem_cons_self)
          show _ ≠ _
          intro e
          simp only at this
          omega
        generalize wr.heap.size = q at *
        generalize wr.alloc (.cells #[.int .i64 x.kind, .int .i64 x.key, .string x.val] 35) = wa at *
        have HA := Lib.hid hA
        have HQ := Lib.hid hq
        obtain ⟨hE, M, hM, hMm⟩ := put_zero HO.out HZ.out hn1 x.key x.val
        have HLN := Lib.hid (put_len hL x.key x.val)
        have HON := Lib.hid (once_put HO.out n x.key x.val)
        have HMm := Lib.hid hMm
        have HM := Lib.hid hM
        have HPE := Lib.hid hE
        clear hA hq e0 e1 e2 hE hM hMm HC
        refine (KA.put_any HA.out x.key x.val hn1 (by omega) hL).mono ?_
        rintro e w3 ⟨rfl, h3⟩
        rw [HPE.out]
        rw [HM.out] at h3 HLN HON
        generalize (putK n x.key L).getD 0 = gk at *
        generalize (putK n x.key L).isSome = gb at *
        have hx3 := h3.mem (x := (q, .cells #[.int .i64 x.kind, .int .i64 x.key, .string x.val] 35 (0, 0))) (by simp)
        have c31 : w3.cell? ⟨q, 1, none⟩ = some (.int .i64 x.key) := by rw [cell_of_row _ _ _ _ _ _ hx3]; rfl
        have c32 : w3.cell? ⟨q, 2, none⟩ = some (.string x.val) := by rw [cell_of_row _ _ _ _ _ _ hx3]; rfl
        obtain ⟨es', clock', hrun, hT'⟩ := HT.out.put (h3.mem (x := (w.heap.size + 1, .map es clock)) (by simp)) (by omega) x.key HXW.out.key x.val
        have h4 := h3.block (by omega) (by simpa using HQ.out) (.map es' clock')
        have HT' := Lib.hid hT'
        clear hT' HA hx3 h3
        generalize setBlock w3 (w.heap.size + 1) (.map es' clock') = w4 at *
        have hx4 := h4.mem (x := (q, .cells #[.int .i64 x.kind, .int .i64 x.key, .string x.val] 35 (0, 0))) (by simp)
        have c41 : w4.cell? ⟨q, 1, none⟩ = some (.int .i64 x.key) := by rw [cell_of_row _ _ _ _ _ _ hx4]; rfl
        have H4 := Lib.hid h4
        clear hx4 h4
        go_wp2_with fail
        clear c31 c32 c41 hrun
        refine (KA.get_is (Nat.le_trans HLN.out (by omega)) x.val true (congrArg (fun y : Option ByteArray => y.getD ⟨#[]⟩) (getV_head ⟨x.key, x.val, 0⟩ M)) (congrArg Option.isSome (getV_head ⟨x.key, x.val, 0⟩ M)) (getL_head ⟨x.key, x.val, 0⟩ M) _ H4.out).mono ?_
        rintro e w5 ⟨rfl, h5⟩
        have hx5 := h5.mem (x := (q, .cells #[.int .i64 x.kind, .int .i64 x.key, .string x.val] 35 (0, 0))) (by simp)
        have c52 : w5.cell? ⟨q, 2, none⟩ = some (.string x.val) := by rw [cell_of_row _ _ _ _ _ _ hx5]; rfl
        have H5 := Lib.hid h5
        have hlm : ((((⟨x.key, x.val, 0⟩ : KA.E) :: M).length : Nat) : Int) ≤ (n : Int) := by have := HLN.out; omega
        have HLEN := Lib.hid (KA.len_any H5.out)
        generalize ((((⟨x.key, x.val, 0⟩ : KA.E) :: M).length : Nat) : Int) = ml at *
        clear hx5 h5
        go_wp2_with fail
        refine HLEN.out.mono ?_
        rintro e _ ⟨rfl, rfl⟩
        clear HLEN c52
        go_wp2_with fail
        go_roundw
        case rel =>
          refine ⟨k + 1, ⟨x.key, x.val, 0⟩ :: M, MS.put T x.key x.val, by omega, by omega, by go_num, ⟨⟨_, _, HT'.out, H5.out.sub fun b o h => by
            rcases List.mem_cons.1 h with h | h
            · exact List.mem_cons.2 (.inl h)
            · cases h⟩, HON.out, fun e he => ?_, HLN.out, fun e he => ?_⟩⟩
          · rcases List.mem_cons.1 he with rfl | he
            · rfl
            · exact HZ.out e (HMm.out e he).1
          · rcases List.mem_cons.1 he with rfl | he
            · simp [MS.put]
            · have h2 := HMm.out e he
              unfold MS.put
              rw [if_neg h2.2]
              exact HLA.out e h2.1
        case measure => simp [intOf]; omega
    · have hout : (k < l1.length ∧ k = 100) ∨ k = l1.length := by omega
      rcases hout with ⟨hlt1, rfl⟩ | rfl
      all_goals
        go_wp2_with fail
        go_loopw [16] (fun i wr2 => ∃ (j : Nat) (L2 : List KA.E), j ≤ l1.length ∧ j ≤ 100 ∧ i = .int .i64 j ∧ KA.CaT w w.heap.size n L2 [(w.heap.size + 1, .map es clock)] wr2 ∧ (∀ e ∈ L2, T e.key = some e.val) ∧ L2.length ≤ n) (fun i _ => l1.length - (intOf i).toNat)
        case atStart => exact ⟨0, L, Nat.zero_le _, by omega, rfl, HC.out, HLA.out, hL⟩
        case round =>
          clear HC HO HZ HLA hL
          obtain ⟨j, L2, hj, hj100, rfl, hC2, hla2, hL2⟩ := hrel
          rename_i wr2 _
          have HC2 := Lib.hid hC2
          have HLA2 := Lib.hid hla2
          clear hC2 hla2
          by_cases hlt : j < l1.length ∧ j < 100
          · obtain ⟨hlt1, hlt2⟩ := hlt
            obtain ⟨x, hx⟩ : ∃ x, l1[j]? = some x := ⟨_, List.getElem?_eq_getElem hlt1⟩
            rcases H0.out with ⟨rfl, _⟩ | ⟨b, o, cap', hvv, hbl, _, _, hr⟩
            · simp at hlt1
            · cases hvv
              obtain ⟨hxw, hxr⟩ := hr j x hx
              have hxr2 := rangeAt_keep hxr (HC2.out.below.block b hbl)
              have HXW := Lib.hid hxw
              have e1 := hxr2 1 _ rfl
              have HB := Lib.hid (And.intro hbl hxr)
              clear hr hxr hxr2 hx hxw hbl
              go_wp2_with fail
              cases hg : getV x.key L2 with
              | none =>
                refine (KA.get_is (Nat.le_trans hL2 (by omega)) ⟨#[]⟩ false (congrArg (fun y : Option ByteArray => y.getD ⟨#[]⟩) hg) (congrArg Option.isSome hg) rfl _ HC2.out).mono ?_
                rintro e w5 ⟨rfl, h5⟩
                have H5 := Lib.hid h5
                have HG := Lib.hid (get_perm (k := x.key) (L := L2))
                generalize getL x.key L2 = L3 at *
                clear h5 hg HC2 e1
                go_wp2_with fail
                go_roundw
                case rel => exact ⟨j + 1, L3, by omega, by omega, by go_num, H5.out, fun e he => HLA2.out e (HG.out.mem_iff.1 he), by rw [HG.out.length_eq]; exact hL2⟩
                case measure => simp [intOf]; omega
              | some v =>
                obtain ⟨en, hen, hk1, hv1⟩ := getV_some hg
                have hTx : T x.key = some v := by rw [← hk1, ← hv1]; exact HLA2.out en hen
                refine (KA.get_is (Nat.le_trans hL2 (by omega)) v true (congrArg (fun y : Option ByteArray => y.getD ⟨#[]⟩) hg) (congrArg Option.isSome hg) rfl _ HC2.out).mono ?_
                rintro e w5 ⟨rfl, h5⟩
                have hlk := HT.out.look (h5.mem (x := (w.heap.size + 1, .map es clock)) List.mem_cons_self) x.key HXW.out.key
                have hxr5 := rangeAt_keep HB.out.2 (h5.below.block b HB.out.1)
                have e1' := hxr5 1 _ rfl
                obtain hlk : ∀ ok, (Instr.lookup 41 (.map (some (w.heap.size + 1))) (.int .i64 x.key) ok).run Try.prog w5 = .ok (if ok then .tuple #[.string v, .bool true] else .string v) w5 := by
                  rcases hlk with ⟨h, _⟩ | ⟨s, h, h2⟩
                  · rw [hTx] at h
                    cases h
                  · rw [hTx] at h
                    cases h
                    exact h2
                have hlk2 := hlk false
                simp only [Bool.false_eq_true, if_false] at hlk2
                have H5 := Lib.hid h5
                have HG := Lib.hid (get_perm (k := x.key) (L := L2))
                generalize getL x.key L2 = L3 at *
                clear h5 hg HC2 e1 hlk hxr5 hen hk1 hv1 hTx
                go_wp2_with fail
                go_roundw
                case rel => exact ⟨j + 1, L3, by omega, by omega, by go_num, H5.out, fun e he => HLA2.out e (HG.out.mem_iff.1 he), by rw [HG.out.length_eq]; exact hL2⟩
                case measure => simp [intOf]; omega
          · have hout : (j < l1.length ∧ j = 100) ∨ j = l1.length := by omega
            rcases hout with ⟨hlt1, rfl⟩ | rfl
            all_goals try (exfalso; omega)
            all_goals
              go_wp2_with fail
              refine (KA.awake_any _).mono ?_
              rintro e w6 ⟨rfl, hb6⟩
              have HB6 := Lib.hid (HC2.out.below.on hb6)
              clear hb6
              go_wp2
              go_returns
              exact ⟨rfl, HB6.out⟩

set_option maxRecDepth 100000 in
theorem lifted (os : Os) (started : os.Started) (H : Type) (enc : TypeId × Value → H) :
    ReturnsInHanded {} Try.checked os 4 .any (Rows.cacheLastSpec.pre6 enc Try.prog Try.f4 Rows.cacheLastRow.domain false) (Rows.cacheLastSpec.post enc Try.prog Try.f4 false true false false) := by
  refine law_lift (C := Try.checked) own started (by kernel_rfl) Try.func4 laidOut (by kernel_rfl) rfl Try.underlying4 rfl
    (fun ds h => match ds, h with | [_, _], _ => rfl)
    (ChangeSpec.witness6 (enc := enc) (C := Try.checked) false ⟨#[], #[.int .u8 0, .slice none 0 0], []⟩ 8 (by kernel_rfl) (by kernel_rfl) (by kernel_rfl) (by kernel_rfl)) ?_
  intro W base args ds ps hval hA hsz
  rw [Try.params4] at hA hval hsz
  obtain ⟨v0, vs0, d0, ds0, p0, q0, hargs, rfl, rfl, h0, r0⟩ := trodAll_cons hA
  obtain ⟨v1, vs1, d1, ds1, p1, q1, rfl, rfl, rfl, h1, r1⟩ := trodAll_cons r0
  obtain ⟨rfl, rfl, rfl⟩ := trodAll_nil r1
  obtain rfl : args = #[v0, v1] := by cases args; simp_all
  obtain ⟨a0, rfl, rfl, rfl, w0⟩ := open_int Try.underlying5 (hval 0 5 v0 rfl rfl) h0
  obtain ⟨l1, hl1⟩ := acts_open (hval 1 22 v1 rfl rfl) h1
  exact walk W a0 w0 v1 l1 hl1

theorem over : Rows.cacheLastRow.holds Try.pinned (OpenSpec.ofChange Rows.cacheLastSpec) :=
  OpenClaim.holds_of_wide 4 Try.f4 rfl rfl rfl rfl rfl rfl rfl ⟨rfl, rfl, rfl, rfl, rfl⟩ rfl rfl rfl rfl rfl (by kernel_rfl) Try.func4 (by kernel_rfl)
    (of_decide_eq_true (by kernel_rfl)) (by unfold Func.isWrapper; first | (rw [if_pos (by decide +kernel)]; kernel_rfl) | (rw [if_neg (by decide +kernel)]; exact ⟨rfl, rfl⟩))
    (fun os started H enc _ => lifted os started H enc)

theorem proved : Rows.CacheLastSaid :=
  over
end Go.Proofs.Ytomgiemnkbjebaa.cacheLast
