/- Caches of other keys and values do as the one of numbers and texts; and the chapter's example holds: for every list of texts and every number. Conditions: none. -/
import Derived.Test.YtomgiemnkbjebaaCacS
import Derived.Test.YtomgiemnkbjebaaCActs
import Derived.Test.YtomgiemnkbjebaaLaw
import Derived.BigQuiet
import Derived.Deep.QuietTactic
import Derived.Lib.QuietBelow
import Derived.Deep.DeepCutAuto
import Derived.Deep.CutBlock
namespace Go.Proofs.Ytomgiemnkbjebaa.cacheOthers
open Go.ChangeShapes Go.WideShapes Go.ChangeAt Go.RowKit Go.PlainAid
open Go.ChangeMaps (open_string)
open Go.Sort (grow)

theorem own : ownKnob Try.prog.godebug = none := by kernel_rfl
theorem laidOut : laidOutB Try.prog = true := by kernel_rfl
set_option maxRecDepth 100000
open Go.MapKept Go.ChangeMaps
theorem is_more {es : Array MapEntry} {clock c : Nat} {T : ByteArray → Option Int} (h : MI.Is es clock c T) : MI.Is es clock (c + 1) T := ⟨h.fit, Nat.le_succ_of_le h.size, h.has, h.get⟩
/-- Both caches and the numbers of the texts. -/
def Oth (w0 : World) (p q bm n k : Nat) (L : List KB.E) (T : ByteArray → Option Int) (w : World) : Prop :=
  ∃ es clock, MI.Is es clock k T ∧ DuoB w0 p q n L (L.map (entN T)) [(bm, .map es clock)] w ∧ OthInv T k n L
theorem drew_on {w : World} : Below w.heap.size w w.drew := ⟨rfl, rfl, rfl, Nat.le_refl _, fun _ _ => rfl⟩
theorem text_cell {w0 w : World} {b o k cap : Nat} {l : List ByteArray} {x : ByteArray} (h : TextsOf w0 (.slice (some ⟨b, o, none⟩) l.length cap) l) (hx : l[k]? = some x) (hb : Below w0.heap.size w0 w) : w.cell? ⟨b, o + k, none⟩ = some (.string x) := by
  rcases h with ⟨rfl, _⟩ | ⟨b', o', cap', hv, hlt, _, _, hr⟩
  · simp at hx
  · cases hv
    exact (hb.cell (p := ⟨b, o + k, none⟩) hlt).trans (hr k x hx).2
theorem look_is {es : Array MapEntry} {clock c b : Nat} {T : ByteArray → Option Int} (h : MI.Is es clock c T) {w : World} (hb : w.heap[b]? = some (.map es clock)) {x : ByteArray} {m : Int} (sx : (x.size : Int) ≤ 9223372036854775807) (hx : T x = some m) :
    (Instr.lookup 57 (.map (some b)) (.string x) false).run Try.prog w = .ok (.int .i64 m) w := by
  rcases h.look hb x sx with ⟨h1, _⟩ | ⟨s, h1, h2⟩
  · rw [hx] at h1
    cases h1
  · rw [hx] at h1
    cases h1
    exact h2 false
set_option maxRecDepth 100000 in
set_option maxHeartbeats 6000000 in
theorem walk (w : World) (v0 : Value) (l0 : List ByteArray) (h0 : TextsOf w v0 l0) (a1 : Int) (w1 : (Lit.int .u8 a1).wf = true) :
    Calls Try.prog 7 #[v0, .int .u8 a1] w fun e w' => e = .returned (.bool true) ∧ Below w.heap.size w w' := by
  obtain ⟨b1, c1⟩ := bounds_u8 w1
  obtain ⟨n, hn1, hn2, hmod⟩ : ∃ n : Nat, 1 ≤ n ∧ n ≤ 9 ∧ a1 % 9 + 1 = (n : Int) := ⟨(a1 % 9 + 1).toNat, by omega, by omega, by omega⟩
  have hv : ∃ ao cap, v0 = .slice ao l0.length cap := by
    rcases h0 with ⟨rfl, ao, cap, rfl⟩ | ⟨b, o, cap, rfl, _⟩
    · exact ⟨_, _, rfl⟩
    · exact ⟨_, _, rfl⟩
  obtain ⟨ao, cap, rfl⟩ := hv
  have hlen : (l0.length : Int) ≤ 9223372036854775807 := by
    rcases h0 with ⟨rfl, _⟩ | ⟨_, _, _, _, _, _, hm, _⟩
    · decide
    · exact hm
  have H0 := Lib.hid h0
  have hmm := @run_makeMap Try.prog
  clear h0
  go_enter Try.func7, Try.ntmps7
  go_wp2_with fail
  refine (KB.new_ok n hn1 (by omega) _).mono ?_
  rintro e _ ⟨rfl, rfl⟩
  have H1 := Lib.hid (KB.new_cat w w (n : Int) [] (Below.refl _ _) (fun _ _ h => by cases h))
  have hb1 : Below w.heap.size w (w.alloc (.cells #[.int .i64 (n : Int), .slice none 0 0] 89)) := by go_grown
  have hs1 : (w.alloc (.cells #[.int .i64 (n : Int), .slice none 0 0] 89)).heap.size = w.heap.size + 1 := by simp
  generalize w.alloc (.cells #[.int .i64 (n : Int), .slice none 0 0] 89) = w1 at *
  go_wp2_with fail
  refine (KA.new_ok n hn1 (by omega) _).mono ?_
  rintro e _ ⟨rfl, rfl⟩
  have hg1 : Below w1.heap.size w1 (w1.alloc (.cells #[.int .i64 (n : Int), .slice none 0 0] 65)) := by go_grown
  have hq1 := heap_alloc_new w1 (.cells #[.int .i64 (n : Int), .slice none 0 0] 65)
  have H2 := Lib.hid (H1.out.add (g := w1.heap.size) hg1 (Nat.le_refl _) hq1)
  have hs2 : (w1.alloc (.cells #[.int .i64 (n : Int), .slice none 0 0] 65)).heap.size = w.heap.size + 1 + 1 := by simp [hs1]
  generalize w1.alloc (.cells #[.int .i64 (n : Int), .slice none 0 0] 65) = w2 at *
  rw [hs1] at *
  go_wp2_with fail
  have hbm : Below w2.heap.size w2 (w2.alloc (.map #[] 0)) := by go_grown
  have H3 := Lib.hid (H2.out.add (g := w2.heap.size) (o := .map #[] 0) hbm (Nat.le_refl _) (heap_alloc_new _ _))
  rw [hs2] at *
  generalize w2.alloc (.map #[] 0) = wm at *
  have HD0 : Hid (DuoB w w.heap.size (w.heap.size + 1) n [] [] [(w.heap.size + 1 + 1, .map #[] 0)] wm) := by
    refine Lib.hid ⟨[(w.heap.size + 1, .cells #[.int .i64 (n : Int), .slice none 0 0] 65 (0, 0))], ⟨.slice none 0 0, List.mem_singleton.2 rfl, fun b o hb => ?_, by simp [Value.ownBlock], fun b hb => by simp [Value.ownBlock] at hb, by omega, fun w' _ => ⟨rfl, .inl ⟨rfl, rfl⟩⟩⟩, H3.out, fun b o o' hb hc => ?_⟩
    · rw [List.mem_singleton] at hb
      cases hb
      exact .inl rfl
    · rw [List.mem_singleton] at hb hc
      cases hb
      injection hc with h _
      omega
  clear H1 H2 H3 hq1 hb1 hg1 hs1 hs2 hbm
  go_loopw [10] (fun i wr => ∃ (k : Nat) (L : List KB.E) (T : ByteArray → Option Int), k ≤ l0.length ∧ k ≤ 60 ∧ i = .int .i64 k ∧ Oth w w.heap.size (w.heap.size + 1) (w.heap.size + 1 + 1) n k L T wr) (fun i _ => l0.length - (intOf i).toNat)
  case atStart => exact ⟨0, [], fun _ => none, Nat.zero_le _, by omega, rfl, _, _, MI.empty 0 0, HD0.out, oth_empty n⟩
  case round =>
    clear HD0
    obtain ⟨k, L, T, hk, hk60, rfl, es, clock, hT, hD, hI⟩ := hrel
    have HT := Lib.hid hT
    have HD := Lib.hid hD
    have HI := Lib.hid hI
    clear hT hD hI
    by_cases hlt : k < l0.length ∧ k < 60
    · obtain ⟨hlt1, hlt2⟩ := hlt
      obtain ⟨x, hx⟩ : ∃ x, l0[k]? = some x := ⟨_, List.getElem?_eq_getElem hlt1⟩
      obtain ⟨b, o, rfl, sx⟩ : ∃ b o, ao = some ⟨b, o, none⟩ ∧ (x.size : Int) ≤ 9223372036854775807 := by
        rcases H0.out with ⟨rfl, _⟩ | ⟨b, o, cap', hvv, hbl, _, _, hr⟩
        · simp at hlt1
        · cases hvv
          exact ⟨b, o, rfl, (hr k x hx).1⟩
      have HX : Hid (∀ w', Below w.heap.size w w' → w'.cell? ⟨b, o + k, none⟩ = some (.string x)) := Lib.hid fun w' hb => text_cell H0.out hx hb
      have c0 := HX.out wr HD.out.below
      clear hx
      have hways := HT.out.look (HD.out.mem (x := (w.heap.size + 1 + 1, .map es clock)) (List.mem_singleton.2 rfl)) x sx
      have hgo : (∃ (T1 : ByteArray → Option Int) (m : Int) (es1 : Array MapEntry) (clock1 : Nat) (w1 : World), (Instr.mapUpdate 57 (.map (some (w.heap.size + 1 + 1))) (.string x) (.int .i64 ((k : Int) + 1))).run Try.prog wr = .ok () w1 ∧
          (Instr.lookup 57 (.map (some (w.heap.size + 1 + 1))) (.string x) true).run Try.prog wr = .ok (.tuple #[.int .i64 0, .bool false]) wr ∧ MI.Is es1 clock1 (k + 1) T1 ∧ DuoB w w.heap.size (w.heap.size + 1) n L (L.map (entN T1)) [(w.heap.size + 1 + 1, .map es1 clock1)] w1 ∧ OthInv T1 (k + 1) n L ∧ T1 x = some m) ∨
          (∃ (m : Int), (Instr.lookup 57 (.map (some (w.heap.size + 1 + 1))) (.string x) true).run Try.prog wr = .ok (.tuple #[.int .i64 m, .bool true]) wr ∧ T x = some m) := by
        rcases hways with ⟨hno, hlk⟩ | ⟨m, hm, hlk⟩
        · obtain ⟨es', clock', hrun, hT'⟩ := HT.out.put (HD.out.mem (x := (w.heap.size + 1 + 1, .map es clock)) (List.mem_singleton.2 rfl)) (by omega) x sx ((k : Int) + 1)
          obtain ⟨hI', hM'⟩ := HI.out.number hno sx
          exact .inl ⟨_, (k : Int) + 1, es', clock', _, hrun, hlk true, hT', by rw [hM']; exact HD.out.block (by omega) _, hI', by unfold MI.put; rw [if_pos rfl]⟩
        · exact .inr ⟨m, hlk true, hm⟩
      clear hways
      have hgo2 : ∃ (T1 : ByteArray → Option Int) (m : Int) (es1 : Array MapEntry) (clock1 : Nat) (w1 : World) (z : Int) (okb : Bool), (okb = false → (Instr.mapUpdate 57 (.map (some (w.heap.size + 1 + 1))) (.string x) (.int .i64 ((k : Int) + 1))).run Try.prog wr = .ok () w1) ∧
          (okb = true → w1 = wr) ∧ (Instr.lookup 57 (.map (some (w.heap.size + 1 + 1))) (.string x) true).run Try.prog wr = .ok (.tuple #[.int .i64 z, .bool okb]) wr ∧ MI.Is es1 clock1 (k + 1) T1 ∧ DuoB w w.heap.size (w.heap.size + 1) n L (L.map (entN T1)) [(w.heap.size + 1 + 1, .map es1 clock1)] w1 ∧ OthInv T1 (k + 1) n L ∧ T1 x = some m := by
        rcases hgo with ⟨T1, m, es1, clock1, wa, hrun, hlk, hT1, hD1, hI1, hx1⟩ | ⟨m, hlk, hx1⟩
        · exact ⟨T1, m, es1, clock1, wa, 0, false, fun _ => hrun, (fun h => by cases h), hlk, hT1, hD1, hI1, hx1⟩
        · exact ⟨T, m, es, clock, wr, m, true, (fun h => by cases h), fun _ => rfl, hlk, is_more HT.out, HD.out, HI.out.next, hx1⟩
      clear hgo
      obtain ⟨T1, m, es1, clock1, wa, z, okb, hrun, hsame0, hlk, hT1, hD1, hI1, hx1⟩ := hgo2
      have HRUN := Lib.hid hrun
      have HSAME := Lib.hid hsame0
      have HT1 := Lib.hid hT1
      have HD1 := Lib.hid hD1
      have HI1 := Lib.hid hI1
      have HTX := Lib.hid hx1
      have c1 := HX.out wa hD1.below
      clear hT1 hD1 hI1 hx1 HT HD HI hrun hsame0
      obtain ⟨hputs, hE, hI2, ⟨M0, hM0⟩, hgone⟩ := HI1.out.put HTX.out (x.size : Int) hn1
      obtain ⟨g, gb, b2, hg, hgb, hg2, hgb2, hsame⟩ : ∃ (g : ByteArray) (gb : Bool) (b2 : Int), (putK n x L).getD ⟨#[]⟩ = g ∧ (putK n x L).isSome = gb ∧ (putK n m (L.map (entN T1))).getD 0 = b2 ∧ (putK n m (L.map (entN T1))).isSome = gb ∧ (gb = true → T1 g = some b2 ∧ (g.size : Int) ≤ 9223372036854775807) := by
        rw [hputs.2.2]
        cases hpk : putK n x L with
        | none => exact ⟨_, _, _, rfl, rfl, rfl, rfl, fun h => by cases h⟩
        | some a =>
          obtain ⟨m', hm'⟩ := hgone a hpk
          refine ⟨_, _, _, rfl, rfl, rfl, rfl, fun _ => ⟨?_, ?_⟩⟩
          · show T1 a = some (numT T1 a)
            unfold numT
            rw [hm']
            rfl
          · exact HI1.out.siz a m' hm'
      have HI2 := Lib.hid hI2
      have HM0 := Lib.hid hM0
      have HP1 := Lib.hid ((HD1.out.on drew_on).putB (k := x) (v := (x.size : Int)) hn1 (by omega) HI1.out.len g gb 0 hg hgb hE rfl)
      have HP2 := Lib.hid (fun (w' : World) (h : DuoB w w.heap.size (w.heap.size + 1) n (putL n x (x.size : Int) L) (L.map (entN T1)) [(w.heap.size + 1 + 1, .map es1 clock1)] w') => (h.on drew_on).putA (k := m) (v := x) hn1 (by omega) (by rw [List.length_map]; exact HI1.out.len) b2 gb 0 hg2 hgb2 (hputs.2.1.trans hE) hputs.1)
      have HGS := Lib.hid hsame
      clear hputs hE hI2 hM0 hgone hg hgb hg2 hgb2 hsame
      go_upto_if 65 with fail
      go_cut [12] (fun s12 wx => s12 = .bool okb ∧ wx = wa)
      case first =>
        cases okb with
        | false =>
          have hrun := HRUN.out rfl
          go_wp2_with fail
          all_goals go_meet
          all_goals exact ⟨rfl, rfl⟩
        | true =>
          have hsame0 := HSAME.out rfl
          go_wp2_with fail
          all_goals go_meet
          all_goals exact ⟨rfl, hsame0.symm⟩
      case rest =>
        obtain ⟨rfl, rfl⟩ := hcut
        clear hlk HRUN HSAME
        go_upto_region 12 with fail
        go_cut [13, 14, 15] (fun s13 s14 s15 wx => s13 = .string g ∧ s14 = .bool gb ∧ s15 = .int .i64 0 ∧ DuoB w w.heap.size (w.heap.size + 1) n (putL n x (x.size : Int) L) (L.map (entN T1)) [(w.heap.size + 1 + 1, .map es1 clock1)] wx)
        case first =>
          go_region_with (first
            | (go_at_call 20; (with_reducible refine HP1.out.mono ?_); rintro e w3 ⟨rfl, h3⟩))
          all_goals go_wp2_with fail
          all_goals go_simp
          all_goals go_meet
          all_goals exact ⟨rfl, rfl, rfl, by assumption⟩
        case rest =>
          obtain ⟨rfl, rfl, rfl, h3⟩ := hcut
          have c2 := HX.out _ h3.below
          have HL2 := Lib.hid (fun (w' : World) (h : DuoB w w.heap.size (w.heap.size + 1) n (putL n x (x.size : Int) L) (L.map (entN T1)) [(w.heap.size + 1 + 1, .map es1 clock1)] w') => look_is HT1.out (h.mem (x := (w.heap.size + 1 + 1, .map es1 clock1)) (List.mem_singleton.2 rfl)) sx HTX.out)
          have hlk2 := HL2.out _ (h3.on drew_on)
          have HP3 := Lib.hid (HP2.out _ h3)
          clear h3 HP1 HL2
          go_upto_region 13 with fail
          go_cut [16, 17, 18] (fun s16 s17 s18 wx => s16 = .int .i64 b2 ∧ s17 = .bool gb ∧ s18 = .int .i64 0 ∧ DuoB w w.heap.size (w.heap.size + 1) n (putL n x (x.size : Int) L) ((putL n x (x.size : Int) L).map (entN T1)) [(w.heap.size + 1 + 1, .map es1 clock1)] wx)
          case first =>
            go_region_with (first
              | (go_at_call 16; (with_reducible refine HP3.out.mono ?_); rintro e w3 ⟨rfl, h3⟩))
            all_goals go_wp2_with fail
            all_goals go_simp
            all_goals go_meet
            all_goals exact ⟨rfl, rfl, rfl, by assumption⟩
          case rest =>
            obtain ⟨rfl, rfl, rfl, h4⟩ := hcut
            have c3 := HX.out _ h4.below
            obtain ⟨ln, hln⟩ : ∃ ln, (putL n x (x.size : Int) L).length = ln := ⟨_, rfl⟩
            have HLB := Lib.hid (h4.lenB ln hln)
            have HLA := Lib.hid (h4.lenA ln ((List.length_map _).trans hln))
            have HL4 := Lib.hid (fun (hgb : gb = true) => look_is HT1.out (h4.mem (x := (w.heap.size + 1 + 1, .map es1 clock1)) (List.mem_singleton.2 rfl)) (HGS.out hgb).2 (HGS.out hgb).1)
            have HD4 := Lib.hid h4
            clear h4 hlk2 HP2 HP3 HGS c1 c2
            go_upto_region 14 with fail
            clear hln
            go_cut [14, 17, 128] (fun s14 s17 s128 wx => s14 = .bool gb ∧ s17 = .bool gb ∧ s128 = .bool false ∧ DuoB w w.heap.size (w.heap.size + 1) n (putL n x (x.size : Int) L) ((putL n x (x.size : Int) L).map (entN T1)) [(w.heap.size + 1 + 1, .map es1 clock1)] wx)
            case first =>
              cases gb with
              | false =>
                go_wp2_with fail
                refine HLB.out.mono ?_
                rintro e _ ⟨rfl, rfl⟩
                go_wp2_with fail
                refine HLA.out.mono ?_
                rintro e _ ⟨rfl, rfl⟩
                go_wp2_with fail
                go_meet
                exact ⟨rfl, rfl, rfl, HD4.out⟩
              | true =>
                have hlk4 := HL4.out rfl
                go_wp2_with fail
                refine HLB.out.mono ?_
                rintro e _ ⟨rfl, rfl⟩
                go_wp2_with fail
                refine HLA.out.mono ?_
                rintro e _ ⟨rfl, rfl⟩
                go_wp2_with fail
                go_meet
                exact ⟨rfl, rfl, rfl, HD4.out⟩
            case rest =>
              obtain ⟨rfl, rfl, rfl, h4⟩ := hcut
              have c4 := HX.out _ h4.below
              have HG4 := Lib.hid (h4.getB (k := x) (L2 := putL n x (x.size : Int) L) (Nat.le_trans HI2.out.len (by omega)) (x.size : Int) true (by rw [HM0.out]; exact congrArg (fun y : Option Int => y.getD 0) (getV_head ⟨x, (x.size : Int), 0⟩ M0)) (by rw [HM0.out]; exact congrArg Option.isSome (getV_head ⟨x, (x.size : Int), 0⟩ M0)) (by rw [HM0.out]; exact getL_head ⟨x, (x.size : Int), 0⟩ M0))
              clear h4 HL4 HLA HLB HD4
              go_wp2_with fail
              refine HG4.out.mono ?_
              rintro e w5 ⟨rfl, h5⟩
              have c5 := HX.out _ h5.below
              have H5 := Lib.hid h5
              clear h5 HG4
              go_wp2_with fail
              go_roundw
              case rel => exact ⟨k + 1, _, T1, by omega, by omega, by go_num, es1, clock1, HT1.out, H5.out, HI2.out⟩
              case measure => simp [intOf]; omega
    · have hout : (k < l0.length ∧ k = 60) ∨ k = l0.length := by omega
      rcases hout with ⟨hlt1, rfl⟩ | rfl
      all_goals
        go_wp2_with fail
        refine (KA.awake_any _).mono ?_
        rintro e w6 ⟨rfl, hb6⟩
        have HB6 := Lib.hid (HD.out.below.on hb6)
        clear hb6
        go_wp2
        go_returns
        exact ⟨rfl, HB6.out⟩

set_option maxRecDepth 100000 in
theorem lifted (os : Os) (started : os.Started) (H : Type) (enc : TypeId × Value → H) :
    ReturnsInHanded {} Try.checked os 7 .any (Rows.cacheOthersSpec.pre6 enc Try.prog Try.f7 Rows.cacheOthersRow.domain false) (Rows.cacheOthersSpec.post enc Try.prog Try.f7 false true false false) := by
  refine law_lift (C := Try.checked) own started (by kernel_rfl) Try.func7 laidOut (by kernel_rfl) rfl Try.underlying4 rfl
    (fun ds h => match ds, h with | [_, _], _ => rfl)
    (ChangeSpec.witness6 (enc := enc) (C := Try.checked) false ⟨#[], #[.slice none 0 0, .int .u8 0], []⟩ 8 (by kernel_rfl) (by kernel_rfl) (by kernel_rfl) (by kernel_rfl)) ?_
  intro W base args ds ps hval hA hsz
  rw [Try.params7] at hA hval hsz
  obtain ⟨v0, vs0, d0, ds0, p0, q0, hargs, rfl, rfl, h0, r0⟩ := trodAll_cons hA
  obtain ⟨v1, vs1, d1, ds1, p1, q1, rfl, rfl, rfl, h1, r1⟩ := trodAll_cons r0
  obtain ⟨rfl, rfl, rfl⟩ := trodAll_nil r1
  obtain rfl : args = #[v0, v1] := by cases args; simp_all
  obtain ⟨l0, hl0⟩ := texts_open (hval 0 53 v0 rfl rfl) h0
  obtain ⟨a1, rfl, rfl, rfl, w1⟩ := open_int Try.underlying5 (hval 1 5 v1 rfl rfl) h1
  exact walk W v0 l0 hl0 a1 w1

theorem over : Rows.cacheOthersRow.holds Try.pinned (OpenSpec.ofChange Rows.cacheOthersSpec) :=
  OpenClaim.holds_of_wide 7 Try.f7 rfl rfl rfl rfl rfl rfl rfl ⟨rfl, rfl, rfl, rfl, rfl⟩ rfl rfl rfl rfl rfl (by kernel_rfl) Try.func7 (by kernel_rfl)
    (of_decide_eq_true (by kernel_rfl)) (by unfold Func.isWrapper; first | (rw [if_pos (by decide +kernel)]; kernel_rfl) | (rw [if_neg (by decide +kernel)]; exact ⟨rfl, rfl⟩))
    (fun os started H enc _ => lifted os started H enc)

theorem proved : Rows.CacheOthersSaid :=
  over
end Go.Proofs.Ytomgiemnkbjebaa.cacheOthers
