/- A disk takes just as many writes and flushes as its limit says, and then nothing, till a crash; and the chapter's example holds: for every limit and list of acts. Conditions: none. -/
import Derived.Test.YtlmjecmlppkkiaaBlkG
import Derived.Test.YtlmjecmlppkkiaaActs
import Derived.Test.YtlmjecmlppkkiaaLaw
import Derived.BigQuiet
import Derived.Deep.QuietTactic
import Derived.Lib.QuietBelow
namespace Go.Proofs.Ytlmjecmlppkkiaa.blockLimits
open Go.ChangeShapes Go.WideShapes Go.ChangeAt Go.RowKit Go.PlainAid
open Go.ChangeMaps (open_string)
open Go.Sort (grow)

theorem own : ownKnob Try.prog.godebug = none := by kernel_rfl
theorem laidOut : laidOutB Try.prog = true := by kernel_rfl
def exX : ByteArray := ⟨#[120]⟩
/-- Behind k writes under the limit n. -/
structure LimInv (n k : Nat) (d : D) : Prop where
  six : d.n = 6
  safe : d.safe = fun _ => zeroText
  late : d.late.length ≤ k
  lim : (k ≤ n ∧ d.limit = (n : Int) - k ∧ d.dark = false) ∨ (n < k ∧ d.dark = true)
theorem lim_start (n : Nat) : LimInv n 0 ((newD 6).limited n) := by
  have e : (newD 6).limited n = { newD 6 with limit := (n : Int) } := by unfold D.limited; rw [show max (n : Int) (-1) = n by omega]
  rw [e]
  exact ⟨rfl, rfl, Nat.le_refl _, .inl ⟨Nat.zero_le _, by show (n : Int) = n - ((0 : Nat) : Int); omega, rfl⟩⟩
theorem lim_in {n k : Nat} {d : D} (h : LimInv n k d) (c : k < n) : writeE d 2 exX = 0 ∧ reachE (d.write 2 exX) 2 = 0 ∧ LimInv n (k + 1) (d.write 2 exX) := by
  obtain ⟨h6, hs, hl, hm⟩ := h
  rcases hm with ⟨_, hlim, hd⟩ | ⟨c2, _⟩
  · have hr : reachE d 2 = 0 := by unfold reachE; rw [hd, h6, if_neg (by decide), if_neg (by decide)]
    have hne : ¬ d.limit = 0 := by omega
    have hsp : spendE d = 0 := by unfold spendE; rw [if_neg hne]
    have hz : ¬ 256 < exX.size := by decide
    have hst : d.spent = { d with limit := d.limit - 1 } := by unfold D.spent; rw [if_neg hne, if_pos (by omega)]
    have hw : d.write 2 exX = { d with limit := d.limit - 1, late := d.late ++ [(2, filled exX)] } := by
      unfold D.write
      rw [hr, if_pos rfl, if_neg hz, hsp, if_pos rfl, hst]
      rfl
    refine ⟨by unfold writeE; rw [hr, if_pos rfl, if_neg hz, hsp], ?_, ?_⟩
    · rw [hw]
      unfold reachE
      show (if d.dark = true then (11 : Int) else if (2 : Int) < 0 ∨ (d.n : Int) ≤ 2 then 10 else 0) = 0
      rw [hd, h6, if_neg (by decide), if_neg (by decide)]
    · rw [hw]
      refine ⟨h6, hs, ?_, .inl ⟨by omega, ?_, hd⟩⟩
      · show (d.late ++ [(2, filled exX)]).length ≤ k + 1
        rw [List.length_append]
        exact Nat.succ_le_succ hl
      · show d.limit - 1 = _
        omega
  · omega
theorem lim_out {n k : Nat} {d : D} (h : LimInv n k d) (c : n ≤ k) : writeE d 2 exX = 11 ∧ reachE (d.write 2 exX) 2 = 11 ∧ LimInv n (k + 1) (d.write 2 exX) := by
  obtain ⟨h6, hs, hl, hm⟩ := h
  rcases hm with ⟨_, hlim, hd⟩ | ⟨c2, hd⟩
  · have hr : reachE d 2 = 0 := by unfold reachE; rw [hd, h6, if_neg (by decide), if_neg (by decide)]
    have hze : d.limit = 0 := by omega
    have hsp : spendE d = 11 := by unfold spendE; rw [if_pos hze]
    have hz : ¬ 256 < exX.size := by decide
    have hst : d.spent = { d with dark := true } := by unfold D.spent; rw [if_pos hze]
    have hw : d.write 2 exX = { d with dark := true } := by
      unfold D.write
      rw [hr, if_pos rfl, if_neg hz, hsp, if_neg (by decide), hst]
    exact ⟨by unfold writeE; rw [hr, if_pos rfl, if_neg hz, hsp], by rw [hw]; rfl, by rw [hw]; exact ⟨h6, hs, Nat.le_succ_of_le hl, .inr ⟨by omega, rfl⟩⟩⟩
  · have hr : reachE d 2 = 11 := by unfold reachE; rw [hd]; rfl
    have hw : d.write 2 exX = d := by unfold D.write; rw [hr, if_neg (by decide)]
    exact ⟨by unfold writeE; rw [hr, if_neg (by decide)], by rw [hw]; exact hr, by rw [hw]; exact ⟨h6, hs, Nat.le_succ_of_le hl, .inr ⟨by omega, hd⟩⟩⟩
theorem crash_none (d : D) (t c : Int) : ∀ k, d.crashTo 0 t c k = d.safe
  | 0 => rfl
  | k + 1 => by
    have hb : bitB 0 k = false := by
      unfold bitB
      simp
    cases hx : d.late[k]? with
    | none => rw [D.crashTo_none hx]; exact crash_none d t c k
    | some x => rw [D.crashTo_lost hx hb]; exact crash_none d t c k
theorem filled_none : filled ⟨#[]⟩ = zeroText := text_ext (by rw [filled_size, zeroText_size]) fun k hk => by
  rw [filled_size] at hk
  rw [filled_bt _ hk, zeroText_bt]
  exact bt_end _ (Nat.zero_le _)
set_option maxRecDepth 100000 in
set_option maxHeartbeats 400000 in
theorem walk (w : World) (a0 : Int) (w0 : (Lit.int .i64 a0).wf = true) (v1 : Value) (l1 : List ActV) (h1 : ActsIn w v1 l1) :
    Calls Try.prog 7 #[.int .i64 a0, v1] w fun e w' => e = .returned (.bool true) ∧ Below w.heap.size w w' := by
  obtain ⟨b0, c0⟩ := bounds_i64 w0
  rcases Int.lt_or_le a0 0 with c | c
  · go_enter Try.func7, Try.ntmps7
    go_wp2_with fail
    refine (some_any _).mono ?_
    rintro e w1 ⟨p, rfl, H1⟩
    go_wp2_with fail
    refine (awake_any _).mono ?_
    rintro e w3 ⟨rfl, hb3⟩
    go_wp2
    go_returns
    exact ⟨rfl, H1.below.on hb3⟩
  · obtain ⟨n, rfl⟩ := Int.eq_ofNat_of_zero_le c
    have hv : ∃ ao cap, v1 = .slice ao l1.length cap := by
      rcases h1 with ⟨rfl, ao, cap, rfl⟩ | ⟨b, o, cap, rfl, _⟩
      · exact ⟨_, _, rfl⟩
      · exact ⟨_, _, rfl⟩
    obtain ⟨ao, cap, rfl⟩ := hv
    have hlen : (l1.length : Int) ≤ 9223372036854775807 := by
      rcases h1 with ⟨rfl, _⟩ | ⟨_, _, _, _, _, _, hm, _⟩
      · decide
      · exact hm
    have H0 := Lib.hid h1
    clear h1
    go_enter Try.func7, Try.ntmps7
    go_wp2_with fail
    refine (some_any _).mono ?_
    rintro e w1 ⟨p, rfl, H1⟩
    go_wp2_with fail
    refine (o_limit H1 n (by omega) (by omega)).mono ?_
    rintro e w2 ⟨rfl, H2⟩
    have hst := lim_start n
    generalize (newD 6).limited n = d2 at *
    have HS := Lib.hid hst
    clear hst H1
    go_wp2_with fail
    go_loopw [6] (fun i wr => ∃ (k : Nat) (d : D), k ≤ l1.length ∧ k ≤ 80 ∧ i = .int .i64 k ∧ OwnAt w p d wr ∧ LimInv n k d) (fun i _ => l1.length - (intOf i).toNat)
    case atStart => exact ⟨0, d2, Nat.zero_le _, by omega, rfl, H2, HS.out⟩
    case round =>
      obtain ⟨k, d, hk, hk80, rfl, Hd, hinv⟩ := hrel
      by_cases hlt : k < l1.length ∧ k < 80
      · obtain ⟨hlt1, hlt2⟩ := hlt
        obtain ⟨x, hx⟩ : ∃ x, l1[k]? = some x := ⟨_, List.getElem?_eq_getElem hlt1⟩
        rcases H0.out with ⟨rfl, _⟩ | ⟨b, o, cap', hvv, hbl, _, _, hr⟩
        · simp at hlt1
        · cases hvv
          obtain ⟨hxw, hxr⟩ := hr k x hx
          have hl2 : d.late.length < 4294967296 := by have := hinv.late; omega
          clear hr
          by_cases hn : k < n
          · obtain ⟨q1, q2, q3⟩ := lim_in hinv hn
            have Q1 := Lib.hid q1
            have Q2 := Lib.hid q2
            have Q3 := Lib.hid q3
            have hb1 : decide (n ≤ k) = false := by simp; omega
            have hb2 : decide (k < n) = true := by simp; omega
            clear q1 q2 q3 hinv
            go_wp2_with fail
            refine (o_write Hd 2 exX (by decide) (by decide) hl2).mono ?_
            rintro e w3 ⟨rfl, H3⟩
            rw [Q1.out]
            have hcell : w3.cell? ⟨b, o + k * 6, none⟩ = some (.int .i64 x.kind) := rangeAt_keep hxr (H3.below.block b hbl) 0 _ rfl
            by_cases hk1 : x.kind = 1
            · have hkb : (x.kind == 1) = true := by simpa using hk1
              have HK := Lib.hid hk1
              clear hk1
              go_wp2_with fail
              refine (o_read H3 2 (by decide) (by decide)).mono ?_
              rintro e _ ⟨rfl, rfl⟩
              rw [Q2.out]
              go_wp2
              go_roundw
              case rel => exact ⟨k + 1, d.write 2 exX, by omega, by omega, by go_num, H3, Q3.out⟩
              case measure => simp [intOf]; omega
            · have hkb : (x.kind == 1) = false := by simpa using hk1
              have HK := Lib.hid hk1
              clear hk1
              go_wp2
              go_roundw
              case rel => exact ⟨k + 1, d.write 2 exX, by omega, by omega, by go_num, H3, Q3.out⟩
              case measure => simp [intOf]; omega
          · obtain ⟨q1, q2, q3⟩ := lim_out hinv (by omega)
            have Q1 := Lib.hid q1
            have Q2 := Lib.hid q2
            have Q3 := Lib.hid q3
            have hb1 : decide (n ≤ k) = true := by simp; omega
            have hb2 : decide (k < n) = false := by simp; omega
            clear q1 q2 q3 hinv
            go_wp2_with fail
            refine (o_write Hd 2 exX (by decide) (by decide) hl2).mono ?_
            rintro e w3 ⟨rfl, H3⟩
            rw [Q1.out]
            have hcell : w3.cell? ⟨b, o + k * 6, none⟩ = some (.int .i64 x.kind) := rangeAt_keep hxr (H3.below.block b hbl) 0 _ rfl
            by_cases hk1 : x.kind = 1
            · have hkb : (x.kind == 1) = true := by simpa using hk1
              have HK := Lib.hid hk1
              clear hk1
              go_wp2_with fail
              refine (o_read H3 2 (by decide) (by decide)).mono ?_
              rintro e _ ⟨rfl, rfl⟩
              rw [Q2.out]
              go_wp2
              go_roundw
              case rel => exact ⟨k + 1, d.write 2 exX, by omega, by omega, by go_num, H3, Q3.out⟩
              case measure => simp [intOf]; omega
            · have hkb : (x.kind == 1) = false := by simpa using hk1
              have HK := Lib.hid hk1
              clear hk1
              go_wp2
              go_roundw
              case rel => exact ⟨k + 1, d.write 2 exX, by omega, by omega, by go_num, H3, Q3.out⟩
              case measure => simp [intOf]; omega
      · have hl2 : d.late.length < 4294967296 := by have := hinv.late; omega
        have hfree : D.free (d.crash 0 0 0) := ⟨rfl, rfl⟩
        have hsix : (2 : Int) < ((d.crash 0 0 0).n : Int) := by show (2 : Int) < (d.n : Int); rw [hinv.six]; decide
        have hlast : (d.crash 0 0 0).last (Int.toNat 2) = filled ⟨#[]⟩ := by
          show d.crashTo 0 0 0 d.late.length 2 = _
          rw [crash_none, hinv.safe, filled_none]
        have HL := Lib.hid hlast
        have hq : ((filled ⟨#[]⟩).toList == (filled ⟨#[]⟩).toList) = true := by simp
        clear hlast hinv
        by_cases hlt1 : k < l1.length
        · have hlt2 : ¬ k < 80 := by omega
          have hb3 : decide ((k : Int) < 80) = false := by simp; omega
          go_wp2_with fail
          refine (o_crash Hd 0 0 0 hl2 (by decide) (by decide) (by decide) (by decide) (by decide) (by decide)).mono ?_
          rintro e w4 ⟨rfl, H4⟩
          go_wp2_with fail
          refine (f_read H4 hfree 2 (by decide) hsix).mono ?_
          rintro e _ ⟨rfl, rfl⟩
          rw [HL.out]
          go_wp2_with fail
          refine (filled_any ⟨#[]⟩ _ (by decide)).mono ?_
          rintro e w5 ⟨rfl, hb5⟩
          go_wp2_with fail
          refine (f_flush (H4.on hb5) hfree (show 0 < 4294967296 by decide)).mono ?_
          rintro e w6 ⟨rfl, H6⟩
          go_wp2_with fail
          refine (awake_any _).mono ?_
          rintro e w7 ⟨rfl, hb7⟩
          go_wp2
          go_returns
          exact ⟨rfl, H6.below.on hb7⟩
        · go_wp2_with fail
          refine (o_crash Hd 0 0 0 hl2 (by decide) (by decide) (by decide) (by decide) (by decide) (by decide)).mono ?_
          rintro e w4 ⟨rfl, H4⟩
          go_wp2_with fail
          refine (f_read H4 hfree 2 (by decide) hsix).mono ?_
          rintro e _ ⟨rfl, rfl⟩
          rw [HL.out]
          go_wp2_with fail
          refine (filled_any ⟨#[]⟩ _ (by decide)).mono ?_
          rintro e w5 ⟨rfl, hb5⟩
          go_wp2_with fail
          refine (f_flush (H4.on hb5) hfree (show 0 < 4294967296 by decide)).mono ?_
          rintro e w6 ⟨rfl, H6⟩
          go_wp2_with fail
          refine (awake_any _).mono ?_
          rintro e w7 ⟨rfl, hb7⟩
          go_wp2
          go_returns
          exact ⟨rfl, H6.below.on hb7⟩

set_option maxRecDepth 100000 in
theorem lifted (os : Os) (started : os.Started) (H : Type) (enc : TypeId × Value → H) :
    ReturnsInHanded {} Try.checked os 7 .any (Rows.blockLimitsSpec.pre6 enc Try.prog Try.f7 Rows.blockLimitsRow.domain false) (Rows.blockLimitsSpec.post enc Try.prog Try.f7 false true false false) := by
  refine law_lift (C := Try.checked) own started (by kernel_rfl) Try.func7 laidOut (by kernel_rfl) rfl Try.underlying4 rfl
    (fun ds h => match ds, h with | [_, _], _ => rfl)
    (ChangeSpec.witness6 (enc := enc) (C := Try.checked) false ⟨#[], #[.int .i64 0, .slice none 0 0], []⟩ 8 (by kernel_rfl) (by kernel_rfl) (by kernel_rfl) (by kernel_rfl)) ?_
  intro W base args ds ps hval hA hsz
  rw [Try.params7] at hA hval hsz
  obtain ⟨v0, vs0, d0, ds0, p0, q0, hargs, rfl, rfl, h0, r0⟩ := trodAll_cons hA
  obtain ⟨v1, vs1, d1, ds1, p1, q1, rfl, rfl, rfl, h1, r1⟩ := trodAll_cons r0
  obtain ⟨rfl, rfl, rfl⟩ := trodAll_nil r1
  obtain rfl : args = #[v0, v1] := by cases args; simp_all
  obtain ⟨a0, rfl, rfl, rfl, w0⟩ := open_int Try.underlying3 (hval 0 3 v0 rfl rfl) h0
  obtain ⟨l1, hl1⟩ := acts_open (hval 1 22 v1 rfl rfl) h1
  exact walk W a0 w0 v1 l1 hl1

theorem over : Rows.blockLimitsRow.holds Try.pinned (OpenSpec.ofChange Rows.blockLimitsSpec) :=
  OpenClaim.holds_of_wide 7 Try.f7 rfl rfl rfl rfl rfl rfl rfl ⟨rfl, rfl, rfl, rfl, rfl⟩ rfl rfl rfl rfl rfl (by kernel_rfl) Try.func7 (by kernel_rfl)
    (of_decide_eq_true (by kernel_rfl)) (by unfold Func.isWrapper; first | (rw [if_pos (by decide +kernel)]; kernel_rfl) | (rw [if_neg (by decide +kernel)]; exact ⟨rfl, rfl⟩))
    (fun os started H enc _ => lifted os started H enc)

theorem proved : Rows.BlockLimitsSaid :=
  over
end Go.Proofs.Ytlmjecmlppkkiaa.blockLimits
