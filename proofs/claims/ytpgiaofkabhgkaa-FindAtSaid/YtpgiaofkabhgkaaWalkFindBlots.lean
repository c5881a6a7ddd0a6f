/-
  The walk of nunciolaw03.FindBlots.
-/
import Derived.Test.YtpgiaofkabhgkaaFindFew
import Derived.Test.YtpgiaofkabhgkaaWalkFindNobody
import Derived.Test.YtpgiaofkabhgkaaWalkFindFits
import Derived.Test.YtpgiaofkabhgkaaRefBlot
namespace Go.Proofs.Ytpgiaofkabhgkaa
set_option linter.unusedVariables false
set_option linter.unusedSimpArgs false
open Go.RowKit Go.Shelf

/-- No byte of the texts is the replacing one: no hit is left. -/
theorem blot_clean {l : List ByteArray} {s : ByteArray} {u : UInt8} (h : ∀ p ∈ l, ∀ b ∈ wordOf p, b ≠ u) : ¬ HasHit l ⟨(blotBytes l s u).toArray⟩ := by
  rintro ⟨a, i, e, p, h1, h2, h3, h4, h5⟩
  have hw : wordOf ⟨(blotBytes l s u).toArray⟩ = blotBytes l s u := by unfold wordOf; simp
  have hsz : (⟨(blotBytes l s u).toArray⟩ : ByteArray).size = s.size := by
    rw [← wordOf_len, hw, blotBytes_len]
  rw [hw] at h5
  rw [hsz] at h4
  obtain ⟨t, ht⟩ := h5
  have hpl := wordOf_len p
  have htl : t.length = a := by
    have := congrArg List.length ht
    rw [List.length_append, List.length_take, blotBytes_len, hpl] at this
    omega
  have hat : ∀ k, k < p.size → (blotBytes l s u)[a + k]? = (wordOf p)[k]? := fun k hk => by
    have := congrArg (fun z : List UInt8 => z[a + k]?) ht
    rw [List.getElem?_append_right (by omega), htl, Nat.add_sub_cancel_left, List.getElem?_take_of_lt (by omega)] at this
    exact this.symm
  have hnc : ∀ k, k < p.size → covB l s (a + k) = false := fun k hk => by
    cases hc : covB l s (a + k) with
    | false => rfl
    | true =>
      have h6 := hat k hk
      rw [blotBytes_at l s u (a + k) (by omega), hc, if_pos rfl] at h6
      exact absurd rfl (h p (List.mem_of_getElem? h1) u (List.mem_of_getElem? h6.symm))
  have hhit : HitE l s a i e := by
    refine ⟨p, h1, h2, h3, h4, ⟨(wordOf s).take a, ?_⟩⟩
    apply List.ext_getElem?
    intro k
    by_cases hk : k < e
    · rw [List.getElem?_take_of_lt hk]
      by_cases hka : k < a
      · rw [List.getElem?_append_left (by rw [List.length_take, wordOf_len]; omega), List.getElem?_take_of_lt hka]
      · have hl : ((wordOf s).take a).length = a := by rw [List.length_take, wordOf_len]; omega
        rw [List.getElem?_append_right (by omega), hl]
        have h6 := hat (k - a) (by omega)
        rw [show a + (k - a) = k from by omega] at h6
        rw [← h6, blotBytes_at l s u k (by omega)]
        have h7 := hnc (k - a) (by omega)
        rw [show a + (k - a) = k from by omega] at h7
        rw [h7, if_neg (by decide)]
        have hks : k < (wordOf s).length := by rw [wordOf_len]; omega
        rw [List.getElem?_eq_getElem hks]
        rfl
    · rw [List.getElem?_eq_none (by rw [List.length_append, List.length_take, wordOf_len, hpl]; omega), List.getElem?_eq_none (by rw [List.length_take]; omega)]
  have := hnc 0 h2
  rw [Nat.add_zero, covB_iff.2 ⟨a, i, e, hhit, Nat.le_refl _, by omega⟩] at this
  cases this

theorem rem_few (l : List ByteArray) (h1 : l.length ≤ 12) (h2 : ∀ x ∈ l, x.size ≤ 40) : rem l 0 ≤ 480 := by
  have : ∀ (l : List ByteArray), (∀ x ∈ l, x.size ≤ 40) → rem l 0 ≤ 40 * l.length := by
    intro l
    induction l with
    | nil => intro _; simp [rem]
    | cons a l ih =>
      intro h
      have h3 := ih (fun x hx => h x (List.mem_cons_of_mem _ hx))
      have h4 := h a List.mem_cons_self
      unfold rem at *
      rw [List.map_cons, List.sum_cons, List.length_cons]
      omega
  have := this l h2
  omega
/-- New takes what few leaves. -/
theorem new_few (w : World) (l : List ByteArray) (lv : Value) (hv : IsStrs w lv l) (h1 : l.length ≤ 12) (h2 : ∀ x ∈ l, x.size ≤ 40) :
    Calls Try.prog 10 #[lv] w fun e w' => ∃ mp, e = .returned (.tuple #[.pointer (some ⟨mp, 0, none⟩), .int .i64 0]) ∧ IsMany w' w.heap.size mp l ∧ Below w.heap.size w w' := by
  refine (new_any w l lv hv (by omega) (fun x hx => by have := h2 x hx; omega)).mono ?_
  rintro e w' ⟨r, rfl, hB, h⟩
  have hr := rem_few l h1 h2
  rcases h with ⟨h, _⟩ | ⟨_, h, _⟩ | ⟨_, _, mp, rfl, hM⟩
  · omega
  · omega
  · exact ⟨mp, rfl, hM, hB⟩

set_option maxRecDepth 100000 in
set_option maxHeartbeats 4000000 in
theorem findBlots_walk (w : World) (lv : Value) (l0 : List ByteArray) (s0 : ByteArray) (u0 : Int) (w0 : ArgStrs w lv l0) (w1 : s0.size ≤ maxLen) (w2 : (Lit.int .u8 u0).wf = true) :
    Calls Try.prog 4 #[lv, .string s0, .int .u8 u0] w fun e w' => e = .returned (.bool true) ∧ Below w.heap.size w w' := by
  have hu := bounds_u8 w2
  obtain ⟨u, rfl⟩ : ∃ x : UInt8, u0 = (x.toNat : Int) := ⟨UInt8.ofNat u0.toNat, by simp; omega⟩
  have kfew := few_any w l0 lv w0
  have hfl := fewL_len l0
  have hfs := fewL_size l0
  generalize fewL l0 = l at kfew hfl hfs
  obtain ⟨s, hs⟩ : ∃ t, t = s0.extract 0 (min s0.size 120) := ⟨_, rfl⟩
  have hss : s.size ≤ 120 := by rw [hs]; simp; omega
  have kS := fun W => short_any s0 W w1
  rw [← hs] at kS
  clear hs w0 w1 w2
  have Hfs := Lib.hid hfs
  clear hfs
  go_enter Try.func4, Try.ntmps4
  go_wp2_with fail
  refine kfew.mono ?_
  rintro e wa ⟨v, rfl, hrow, hBa⟩
  have hSa := IsStrs.of_owns hrow rfl
  clear hrow kfew
  go_wp2_with fail
  refine (kS _).mono ?_
  rintro e w' ⟨rfl, rfl⟩
  go_wp2_with fail
  refine (new_few _ l v hSa hfl Hfs.out).mono ?_
  rintro e wb ⟨mp, rfl, hMb, hbb⟩
  have hSb := hSa.below hbb
  have hBb := hBa.trans (hbb.mono hBa.size)
  clear hSa hBa hbb
  go_wp2_with fail
  obtain ⟨xs, hX⟩ := isMany_src hMb s
  have hmul : (s.size + 2) * (l.length + 1) ≤ 1000000000000 := by
    have : (s.size + 2) * (l.length + 1) ≤ 122 * 13 := Nat.mul_le_mul (by omega) (by omega)
    omega
  refine (blot_any _ s u xs l wb (by omega) hmul hX).mono ?_
  rintro e wc ⟨rfl, hbc⟩
  have hMc := hMb.below hbc
  have hSc := hSb.below hbc
  have hBc := hBb.trans (hbc.mono hBb.size)
  clear hMb hSb hBb hbc hX
  go_wp2_with fail
  refine (refBlot_any wc l s u v hSc (by omega) (by omega) (fun x hx => by have := Hfs.out x hx; omega)).mono ?_
  rintro e wd ⟨rfl, hbd⟩
  have hMd := hMc.below hbd
  have hSd := hSc.below hbd
  have hBd := hBc.trans (hbd.mono hBc.size)
  clear hMc hSc hBc hbd
  obtain ⟨x, hx⟩ : ∃ x : ByteArray, x = ⟨(blotBytes l s u).toArray⟩ := ⟨_, rfl⟩
  have hxs : x.size = s.size := by rw [hx, ← blotBytes_len l s u]; rfl
  rw [← hx]
  have hclean := fun h => blot_clean (l := l) (s := s) (u := u) h
  rw [← hx] at hclean
  have Hclean := Lib.hid hclean
  have hxq := eq_self x
  clear hclean hx
  generalize blotN l s = bn
  obtain ⟨ao, cap, rfl⟩ := hSd.form
  have HSd := Lib.hid hSd
  have HMd := Lib.hid hMd
  have HBd := Lib.hid hBd
  clear hSd hMd hBd kS hmul
  go_wp2_with fail
  go_loopw [13] (fun iv wr => ∃ i : Nat, i ≤ l.length ∧ iv = .int .i64 (i : Int) ∧ Hid (∀ p ∈ l.take i, ∀ b ∈ wordOf p, b ≠ u) ∧ wr = wd) (fun iv wr => l.length - (intOf iv).toNat)
  case atStart => exact ⟨0, Nat.zero_le _, rfl, Lib.hid (fun p hp => by simp at hp), rfl⟩
  case round =>
    obtain ⟨i, hi, rfl, Hno, rfl⟩ := hrel
    by_cases hil : i < l.length
    · have hp := List.getElem?_eq_getElem hil
      obtain ⟨p, hp'⟩ : ∃ p, p = l[i] := ⟨_, rfl⟩
      rw [← hp'] at hp
      have hps := Hfs.out p (List.mem_of_getElem? hp)
      obtain ⟨b, off, rfl, hc⟩ : ∃ b off, ao = some ⟨b, off, none⟩ ∧ wr.cell? ⟨b, off + i, none⟩ = some (.string p) := by
        rcases HSd.out with ⟨ao', cap', h, h0⟩ | ⟨b, off, cap', h, _, hc⟩
        · rw [h0] at hil; simp at hil
        · cases h
          exact ⟨b, off, rfl, by rw [hp']; exact hc i hil⟩
      have Hp := Lib.hid hp
      clear hp hp'
      go_wp2
      go_loopw [14] (fun cv wi => ∃ c : Nat, c ≤ p.size ∧ cv = .int .i64 (c : Int) ∧ Hid (∀ b ∈ (wordOf p).take c, b ≠ u) ∧ wi = wr) (fun cv wi => p.size - (intOf cv).toNat)
      case atStart => exact ⟨0, Nat.zero_le _, rfl, Lib.hid (fun b hb => by simp at hb), rfl⟩
      case round =>
        obtain ⟨c, hcl, rfl, Hcn, rfl⟩ := hrel
        by_cases hcs : c < p.size
        · have u0 : p[c].toNat ≤ 255 := by have := p[c].toNat_lt; omega
          by_cases hq : p[c].toNat = u.toNat
          · have eq1 : ((p[c].toNat : Int) == (u.toNat : Int)) = true := by rw [hq]; simp
            clear hq
            go_wp2_with (go_at_call 17; refine (awake_any _).mono ?_; rintro e w9 ⟨rfl, hb9⟩)
            go_ret
            exact ⟨rfl, HBd.out.trans (hb9.mono HBd.out.size)⟩
          · have eq1 : ((p[c].toNat : Int) == (u.toNat : Int)) = false := by rw [beq_eq_false_iff_ne]; omega
            have hne : p[c] ≠ u := fun e => hq (by rw [e])
            have hpw : (wordOf p)[c]? = some p[c] := List.getElem?_eq_getElem (by rw [wordOf_len]; exact hcs)
            have hsn := take_snoc hpw
            have Hne := Lib.hid hne
            have Hsn := Lib.hid hsn
            clear hq hne hpw hsn
            go_wp2
            go_roundw
            case rel => exact ⟨c + 1, by omega, by go_num, Lib.hid (fun b hb => by
              rw [Hsn.out] at hb
              rcases List.mem_append.1 hb with hb | hb
              · exact Hcn.out b hb
              · rw [List.mem_singleton.1 hb]; exact Hne.out), trivial⟩
            case measure => simp [intOf]; omega
        · obtain rfl : c = p.size := by omega
          have hno2 : ∀ p' ∈ l.take (i + 1), ∀ b ∈ wordOf p', b ≠ u := fun p' hp' => by
            rw [take_snoc Hp.out] at hp'
            rcases List.mem_append.1 hp' with hp' | hp'
            · exact Hno.out p' hp'
            · rw [List.mem_singleton.1 hp']
              have h := Hcn.out
              rw [List.take_of_length_le (by rw [wordOf_len]; exact Nat.le_refl _)] at h
              exact h
          have Hno2 := Lib.hid hno2
          clear hno2
          go_wp2
          go_roundw
          case rel => exact ⟨i + 1, by omega, by go_num, Hno2, trivial⟩
          case measure => simp [intOf]; omega
    · obtain rfl : i = l.length := by omega
      have hno := Hno.out
      rw [List.take_length] at hno
      have hcl := Hclean.out hno
      obtain ⟨xs2, hX2⟩ := isMany_src HMd.out x
      have kHas : Calls Try.prog 14 #[.pointer (some ⟨mp, 0, none⟩), .string x] wr fun e w' => e = .returned (.bool false) ∧ Below wr.heap.size wr w' := by
        refine (has_any _ x xs2 l wr (by omega) hX2).mono ?_
        rintro e w' ⟨b, rfl, hb, hB⟩
        refine ⟨?_, hB⟩
        cases b with
        | false => rfl
        | true => exact absurd (hb.1 rfl) hcl
      have hB9 := HBd.out
      clear hno hcl hX2
      go_wp2_with (first | (go_at_call 14; refine kHas.mono ?_; rintro e w8 ⟨rfl, hb8⟩) | (go_at_call 17; refine (awake_any _).mono ?_; rintro e w9 ⟨rfl, hb9⟩))
      go_ret
      have hB10 := hB9.trans (hb8.mono hB9.size)
      exact ⟨rfl, hB10.trans (hb9.mono hB10.size)⟩
end Go.Proofs.Ytpgiaofkabhgkaa
