/- Facts of no program. Facts of no program. The document's NoBreaks. The document's Pairs of layer 1. The document's Pairs of layer 1, Long and Plain of layer 19. -/
import Derived.Test.YtmnpnpmopbkabaaJpn1
import Derived.Test.YtmnpnpmopbkabaaJpn12

namespace Go.Proofs.Ytmnpnpmopbkabaa
open Go.RowKit
theorem ret_bool {a b : Bool} (h : a = b) : Ending.returned (.bool a) = .returned (.bool b) := by rw [h]
end Go.Proofs.Ytmnpnpmopbkabaa

namespace Go.Proofs.Ytmnpnpmopbkabaa
open Go.RowKit
/-- The types of bytes, of slices of bytes and of texts. -/
structure ByteTypes (P : Program) (t e st : TypeId) : Prop where
  sl : P.underlying t = some (.slice e)
  el : P.underlying e = some (.int .u8)
  str : P.underlying st = some .string
  info : (P.info? e).map (fun i => (i.zero, i.size, i.bytes)) = some (some (.int .u8 0), 1, 1)
theorem strOfNums_bytes (l : List UInt8) : strOfNums (l.map fun c => (c.toNat : Int)) = txt l := by
  unfold strOfNums txt
  rw [List.map_map]
  have : ((fun n : Int => UInt8.ofNat n.toNat) ∘ fun c : UInt8 => (c.toNat : Int)) = id := by
    funext c; simp
  rw [this, List.map_id]
/-- 'string(b)' of such a slice. -/
theorem OwnsB.text {P : Program} {t e st : TypeId} (bt : ByteTypes P t e st) {base : Nat} {w : World} {v : Value} {l : List UInt8} (h : OwnsB e base w v l) :
    (convert t st v).run P w = .ok (.string (txt l)) w := by
  rcases h.2 with ⟨rfl, hn⟩ | ⟨g, cap, cur, rfl, hg, hh, r⟩
  · have : l = [] := List.eq_nil_of_length_eq_zero hn
    subst this
    exact run_convert_bytes_nil (P := P) w t e bt.sl bt.el 0 0 st bt.str
  · have hl : (l.map fun c => (c.toNat : Int)).length = l.length := by simp
    have := run_convert_bytes_arg (P := P) w t e bt.sl bt.el g 0 l.length cap _ hl (fun i hi => by
      rw [Nat.zero_add, World.ownsRow.cellAt h i (by omega)]
      simp [cellB, hi]) st bt.str
    rw [this, strOfNums_bytes]
/-- 'out = append(out, c)': the byte was laid in a block of its own first. -/
theorem wpList_append_byte {P : Program} {t e st : TypeId} (bt : ByteTypes P t e st) {ops : Array Oper} {rest : List Oper} {o : Oper} {a : Act} {Q : Exit → Act → World → Prop} (w : World) (y : Int)
    (hgd : o.guard = none) (s x : Operand) (ho : o.op = .call { callee := .builtin .append, args := #[s, x], argTypes := #[t, t] })
    (base : Nat) (v : Value) (l : List UInt8) (c : UInt8) (hy : y = (c.toNat : Int)) (hs : a.eval s = v) (hown : OwnsB e base w v l)
    (hx : a.eval x = .slice (some ⟨w.heap.size, 0, none⟩) 1 1) (hlen : l.length ≤ 70368744177664) (hbase : base ≤ w.heap.size)
    (h : ∀ v' w', OwnsB e base w' v' (l ++ [c]) → Below base w w' → wpList P ops Q rest (a.put o.dst v') w') : wpList P ops Q (o :: rest) a (w.alloc (.cells #[.int .u8 y] e)) := by
  subst hy
  obtain ⟨i, hi, hz0, hz1, hz2⟩ := info_parts bt.info
  have hown' : (w.alloc (.cells #[.int .u8 (c.toNat : Int)] e)).ownsRow base e 1 v l.length (l.map cellB) := World.ownsRow.alloc hown _
  refine wpList_append_own (P := P) _ hgd s x t ho base e i (.int .u8 0) 1 1 bt.sl hi hz0 hz1 hz2 rfl (by decide) v l.length (l.map cellB) hs hown' ⟨w.heap.size, 0, none⟩ 1 1 [cellB c] hx rfl (cell_one_new _ _ _) (fun u hu => by simp at hu; subst hu; rfl) (by unfold maxLen; omega) (by omega) (by simp; omega) ?_
  intro v' w' h1 h2 _
  refine h v' w' ?_ (((Below.refl base w).alloc hbase _).trans (grown_below hown' h2 (by simp; omega)))
  simpa [OwnsB] using h1
/-- 'out = append(out, s...)', s a text. -/
theorem wpList_append_text {P : Program} {t e st : TypeId} (bt : ByteTypes P t e st) {ops : Array Oper} {rest : List Oper} {o : Oper} {a : Act} {Q : Exit → Act → World → Prop} (w : World)
    (hgd : o.guard = none) (sl x : Operand) (ho : o.op = .call { callee := .builtin .append, args := #[sl, x], argTypes := #[t, st] })
    (base : Nat) (v : Value) (l : List UInt8) (s : ByteArray) (hs : a.eval sl = v) (hown : OwnsB e base w v l)
    (hx : a.eval x = .string s) (hlen : l.length + s.size ≤ 70368744177664) (hbase : base ≤ w.heap.size)
    (h : ∀ v' w', OwnsB e base w' v' (l ++ s.data.toList) → Below base w w' → wpList P ops Q rest (a.put o.dst v') w') : wpList P ops Q (o :: rest) a w := by
  obtain ⟨i, hi, hz0, hz1, hz2⟩ := info_parts bt.info
  refine Lib.wpList_append_own_string (P := P) w hgd sl x t st ho base e i bt.sl bt.str hi hz0 hz1 hz2 v l.length (l.map cellB) hs hown s hx (by unfold maxLen; omega) (by omega) hbase ?_
  intro v' w' h1 h2 _
  refine h v' w' ?_ (grown_below hown h2 hbase)
  have e1 : Lib.strCells s = s.data.toList.map cellB := by simp [Lib.strCells, cellB]
  have e2 : s.size = s.data.toList.length := by simp
  rw [e1, e2, ← List.map_append, ← List.length_append] at h1
  exact h1
end Go.Proofs.Ytmnpnpmopbkabaa

namespace Go.Proofs.Ytmnpnpmopbkabaa
open Go.RowKit
set_option maxRecDepth 100000
theorem byteTypesE : ByteTypes Try.prog 34 5 9 := ⟨Try.underlying34, Try.underlying5, Try.underlying9, by kernel_rfl⟩
set_option maxHeartbeats 400000 in
theorem refEnds_any (s e : ByteArray) (w : World) (hs : s.size ≤ 1099511627776) (he : e.size ≤ 2) :
    Calls Try.prog 25 #[.string s, .string e] w fun r w' => r = .returned (.string (endsS e s)) ∧ Below w.heap.size w w' := by
  go_enter Try.func25, Try.ntmps25
  go_wp2
  go_loopw [5, 6] (fun v i wr => ∃ k : Nat, k ≤ s.size ∧ i = .int .i64 k ∧ OwnsB 5 w.heap.size wr v (endsP e.data.toList 0 (s.data.toList.take k)) ∧ (k < s.size → ¬ (byteAt s k = 10 ∧ prevAt s k = 13)) ∧ Below w.heap.size w wr) (fun _ i _ => s.size - (intOf i).toNat)
  case atStart => exact ⟨0, Nat.zero_le _, rfl, OwnsB.nil _ _ _, fun _ h => absurd h.2 (prevAt_zero s), Below.refl _ _⟩
  case round =>
    obtain ⟨k, hk, rfl, hown, hn, hb⟩ := hrel
    by_cases hlt : k < s.size
    · have hle := endsP_take_le e s k he
      have HT := hide (endsP_take e.data.toList s k hlt)
      have hsz := hb.size
      have HN := hide (hn hlt)
      clear hn
      have HE := hide (byteAt_eq s k hlt)
      have HB : Hid ((s[k].toNat : Int) = ((byteAt s k).toNat : Int)) := by rw [byteAt_eq s k hlt]; rfl
      by_cases h10 : (s[k].toNat : Int) = 10
      · have q1 : ((s[k].toNat : Int) != 10) = false := by simp [h10]
        have q2 : ((s[k].toNat : Int) == 13) = false := by simp [h10]
        have hc := (b10 (byteAt s k)).2 (by rw [← HB.out]; exact h10)
        have HP := hide (piece_end (e := e.data.toList) (p := prevAt s k) (c := byteAt s k) HN.out (.inl hc))
        have HX := hide (fun h : k + 1 < s.size => next_free s k (fun h13 => absurd (hc.symm.trans h13) (by decide)) h)
        clear h10 hc HE
        go_wp2_with (at_builtin; refine wpList_append_text byteTypesE wr rfl _ _ rfl w.heap.size _ _ e rfl hown rfl (by omega) (by omega) ?_; intro v' w' hown' hb')
        go_roundw
        case rel => exact ⟨k + 1, by omega, by go_num, by rw [HT.out, HP.out]; exact hown', fun h => HX.out h, hb.trans hb'⟩
        case measure => simp [intOf]; omega
      · by_cases h13 : (s[k].toNat : Int) = 13
        · have q1 : ((s[k].toNat : Int) != 10) = true := by simp [h13]
          have q2 : ((s[k].toNat : Int) != 13) = false := by simp [h13]
          have q3 : ((s[k].toNat : Int) == 13) = true := by simp [h13]
          have hc := (b13 (byteAt s k)).2 (by rw [← HB.out]; exact h13)
          have HP := hide (piece_end (e := e.data.toList) (p := prevAt s k) (c := byteAt s k) HN.out (.inr hc))
          by_cases hn1 : k + 1 < s.size
          · have hi1 : (k : Int) + 1 < (s.size : Int) := by omega
            by_cases hx : ((s[k + 1]'hn1).toNat : Int) = 10
            · have q4 : (((s[k + 1]'hn1).toNat : Int) == 10) = true := by simp [hx]
              have hc1 := (b10 (byteAt s (k + 1))).2 (by rw [← byteAt_eq s (k + 1) hn1]; exact hx)
              have hp1 : prevAt s (k + 1) = 13 := by unfold prevAt; rw [if_neg (by omega)]; exact hc
              have HT2 : Hid (endsP e.data.toList 0 (s.data.toList.take (k + 1 + 1)) = endsP e.data.toList 0 (s.data.toList.take k) ++ e.data.toList) := by
                show _ = _
                rw [endsP_take _ _ _ hn1, piece_none hc1 hp1, List.append_nil, HT.out, HP.out]
              have HX := hide (fun h : k + 1 + 1 < s.size => next_free s (k + 1) (fun h13 => absurd (hc1.symm.trans h13) (by decide)) h)
              clear h10 h13 hc HE hx hc1 hp1
              go_wp2_with (at_builtin; refine wpList_append_text byteTypesE wr rfl _ _ rfl w.heap.size _ _ e rfl hown rfl (by omega) (by omega) ?_; intro v' w' hown' hb')
              go_roundw
              case rel => exact ⟨k + 1 + 1, by omega, by go_num, by rw [HT2.out]; exact hown', fun h => HX.out h, hb.trans hb'⟩
              case measure => simp [intOf]; omega
            · have q4 : (((s[k + 1]'hn1).toNat : Int) == 10) = false := by simp [hx]
              have HX := hide (fun _ : k + 1 < s.size => fun h : byteAt s (k + 1) = 10 ∧ prevAt s (k + 1) = 13 => hx (by rw [byteAt_eq s (k + 1) hn1]; exact (b10 _).1 h.1))
              clear h10 h13 hc HE hx
              go_wp2_with (at_builtin; refine wpList_append_text byteTypesE wr rfl _ _ rfl w.heap.size _ _ e rfl hown rfl (by omega) (by omega) ?_; intro v' w' hown' hb')
              go_roundw
              case rel => exact ⟨k + 1, by omega, by go_num, by rw [HT.out, HP.out]; exact hown', fun h => HX.out h, hb.trans hb'⟩
              case measure => simp [intOf]; omega
          · have hi1 : ¬ (k : Int) + 1 < (s.size : Int) := by omega
            clear h10 h13 hc HE
            go_wp2_with (at_builtin; refine wpList_append_text byteTypesE wr rfl _ _ rfl w.heap.size _ _ e rfl hown rfl (by omega) (by omega) ?_; intro v' w' hown' hb')
            go_roundw
            case rel => exact ⟨k + 1, by omega, by go_num, by rw [HT.out, HP.out]; exact hown', fun h => absurd h hn1, hb.trans hb'⟩
            case measure => simp [intOf]; omega
        · have q1 : ((s[k].toNat : Int) != 10) = true := by simp [h10]
          have q2 : ((s[k].toNat : Int) != 13) = true := by simp [h13]
          have g10 := fun h => h10 (HB.out.trans ((b10 (byteAt s k)).1 h))
          have g13 := fun h => h13 (HB.out.trans ((b13 (byteAt s k)).1 h))
          have HP := hide (piece_byte (e := e.data.toList) (p := prevAt s k) (c := byteAt s k) g10 g13)
          have HX := hide (fun h : k + 1 < s.size => next_free s k g13 h)
          clear h10 h13 HE g10 g13
          go_wp2_with (at_builtin; refine wpList_append_byte byteTypesE wr _ rfl _ _ rfl w.heap.size _ _ (byteAt s k) HB.out rfl hown rfl (by omega) (by omega) ?_; intro v' w' hown' hb')
          go_roundw
          case rel => exact ⟨k + 1, by omega, by go_num, by rw [HT.out, HP.out]; exact hown', fun h => HX.out h, hb.trans hb'⟩
          case measure => simp [intOf]; omega
    · have e : k = s.size := by omega
      subst e
      rw [take_all] at hown
      have hend := hown.text byteTypesE
      go_wp2
      go_ret
      exact ⟨rfl, hb⟩
end Go.Proofs.Ytmnpnpmopbkabaa

namespace Go.Proofs.Ytmnpnpmopbkabaa
open Go.RowKit
set_option maxRecDepth 100000
set_option maxHeartbeats 4000000 in
theorem refPairs_any (s : ByteArray) (w : World) (hs : s.size ≤ 1099511627776) :
    Calls Try.prog 20 #[.string s] w fun r w' => r = .returned (.string (pairsS s)) ∧ Below w.heap.size w w' := by
  go_enter Try.func20, Try.ntmps20
  go_wp2_with fail
  refine (refEnds_any s ⟨#[13, 10]⟩ _ hs (by decide)).mono ?_
  rintro r w1 ⟨rfl, b1⟩
  go_wp2_with fail
  go_ret
  exact ⟨rfl, b1⟩
end Go.Proofs.Ytmnpnpmopbkabaa

namespace Go.Proofs.Ytmnpnpmopbkabaa
open Go.RowKit
set_option maxRecDepth 100000
/-- More entries, or longer texts, than a statement takes. -/
def bigE (e : En) : Bool := decide (2000 < e.name.size) || (decide (2000 < e.val.size) || (decide (2000 < e.fname.size) || decide (2000 < e.typ.size)))
def longU (l : List En) : Bool := decide (60 < l.length) || l.any bigE
theorem long_ok {l : List En} (h : longU l = false) : l.length ≤ 60 ∧ EnsOK 2000 l := by
  unfold longU at h
  rw [Bool.or_eq_false_iff, decide_eq_false_iff_not] at h
  have hl : l.length ≤ 60 := by omega
  refine ⟨hl, by omega, fun e he => ?_⟩
  have := List.any_eq_false.1 h.2 e he
  unfold bigE at this
  have this : (decide (2000 < e.name.size) || (decide (2000 < e.val.size) || (decide (2000 < e.fname.size) || decide (2000 < e.typ.size)))) = false := by simpa using this
  rw [Bool.or_eq_false_iff, Bool.or_eq_false_iff, Bool.or_eq_false_iff] at this
  simp only [decide_eq_false_iff_not] at this
  omega
theorem any_take {α : Type} (f : α → Bool) (l : List α) {k : Nat} (h : k < l.length) : (l.take (k + 1)).any f = ((l.take k).any f || f l[k]) := by
  rw [List.take_succ_eq_append_getElem h, List.any_append]; simp
theorem any_hit {α : Type} {f : α → Bool} {l : List α} {k : Nat} (h : k < l.length) (hf : f l[k] = true) : l.any f = true := List.any_eq_true.2 ⟨l[k], List.getElem_mem h, hf⟩
set_option maxHeartbeats 4000000 in
theorem refLong_any (v : Value) (l : List En) (w : World) (hv : FilesV w v l) (hl : l.length ≤ 4398046511104) :
    Calls Try.prog 7 #[v] w fun e w' => e = .returned (.bool (longU l)) ∧ w' = w := by
  obtain ⟨p, c, rfl, hv⟩ := hv
  by_cases h60 : 60 < l.length
  · have E : Hid (longU l = true) := by show _ = _; unfold longU; rw [decide_eq_true h60]; rfl
    have d : decide (60 < (l.length : Int)) = true := decide_eq_true (by omega)
    clear hv
    go_enter Try.func7, Try.ntmps7
    go_wp2_with fail
    go_ret
    exact ⟨ret_bool E.out.symm, rfl⟩
  · have E : Hid (longU l = l.any bigE) := by show _ = _; unfold longU; rw [decide_eq_false h60]; rfl
    have d : decide (60 < (l.length : Int)) = false := decide_eq_false (by omega)
    have HV := hide hv
    clear hv
    go_enter Try.func7, Try.ntmps7
    go_wp2_with fail
    go_loop [3] (fun iv => ∃ k : Nat, k ≤ l.length ∧ iv = .int .i64 k ∧ Hid ((l.take k).any bigE = false)) (fun iv => l.length - (intOf iv).toNat)
    case atStart => exact ⟨0, Nat.zero_le _, rfl, rfl⟩
    case round =>
      obtain ⟨k, hk, rfl, hn⟩ := hrel
      by_cases g : k < l.length
      · have k1 : (k : Int) < (l.length : Int) := by omega
        have k0 : (0 : Int) ≤ (k : Int) := by omega
        obtain ⟨b, o, rfl, hc⟩ : ∃ b o, p = some ⟨b, o, none⟩ ∧ ∀ i (h : i < l.length), EnAt w b (o + i * 5) l[i] := by
          rcases HV.out with t | t
          · rw [t] at g; simp at g
          · exact t
        have EA := hc k g
        have a0 := EA.c0
        have a1 := EA.c1
        have a3 := EA.c3
        have a4 := EA.c4
        have NX : Hid (bigE l[k] = false → (l.take (k + 1)).any bigE = false) := fun t => by rw [any_take bigE l g, hn.out, t]; rfl
        have HT : Hid (bigE l[k] = true → longU l = true) := fun t => by rw [E.out]; exact any_hit g t
        have EB : Hid (bigE l[k] = (decide (2000 < l[k].name.size) || (decide (2000 < l[k].val.size) || (decide (2000 < l[k].fname.size) || decide (2000 < l[k].typ.size))))) := rfl
        clear hc EA HV hn E
        generalize bigE l[k] = B at *
        generalize l[k].name = t0 at *
        generalize l[k].val = t1 at *
        generalize l[k].fname = t2 at *
        generalize l[k].typ = t3 at *
        by_cases q0 : 2000 < t0.size
        · have R1 := hide (HT.out (by rw [EB.out, decide_eq_true q0]; simp))
          have d0 : decide (2000 < (t0.size : Int)) = true := decide_eq_true (by omega)
          clear EB HT NX
          go_wp2_with fail
          go_ret
          exact ⟨ret_bool R1.out.symm, rfl⟩
        · skip
          by_cases q1 : 2000 < t1.size
          · have R1 := hide (HT.out (by rw [EB.out, decide_eq_false q0, decide_eq_true q1]; simp))
            have d0 : decide (2000 < (t0.size : Int)) = false := decide_eq_false (by omega)
            have d1 : decide (2000 < (t1.size : Int)) = true := decide_eq_true (by omega)
            clear EB HT NX
            go_wp2_with fail
            go_ret
            exact ⟨ret_bool R1.out.symm, rfl⟩
          · skip
            by_cases q2 : 2000 < t2.size
            · have R1 := hide (HT.out (by rw [EB.out, decide_eq_false q0, decide_eq_false q1, decide_eq_true q2]; simp))
              have d0 : decide (2000 < (t0.size : Int)) = false := decide_eq_false (by omega)
              have d1 : decide (2000 < (t1.size : Int)) = false := decide_eq_false (by omega)
              have d2 : decide (2000 < (t2.size : Int)) = true := decide_eq_true (by omega)
              clear EB HT NX
              go_wp2_with fail
              go_ret
              exact ⟨ret_bool R1.out.symm, rfl⟩
            · skip
              by_cases q3 : 2000 < t3.size
              · have R1 := hide (HT.out (by rw [EB.out, decide_eq_false q0, decide_eq_false q1, decide_eq_false q2, decide_eq_true q3]; simp))
                have d0 : decide (2000 < (t0.size : Int)) = false := decide_eq_false (by omega)
                have d1 : decide (2000 < (t1.size : Int)) = false := decide_eq_false (by omega)
                have d2 : decide (2000 < (t2.size : Int)) = false := decide_eq_false (by omega)
                have d3 : decide (2000 < (t3.size : Int)) = true := decide_eq_true (by omega)
                clear EB HT NX
                go_wp2_with fail
                go_ret
                exact ⟨ret_bool R1.out.symm, rfl⟩
              · have R1 := hide (NX.out (by rw [EB.out, decide_eq_false q0, decide_eq_false q1, decide_eq_false q2, decide_eq_false q3]; rfl))
                have d0 : decide (2000 < (t0.size : Int)) = false := decide_eq_false (by omega)
                have d1 : decide (2000 < (t1.size : Int)) = false := decide_eq_false (by omega)
                have d2 : decide (2000 < (t2.size : Int)) = false := decide_eq_false (by omega)
                have d3 : decide (2000 < (t3.size : Int)) = false := decide_eq_false (by omega)
                clear EB HT NX
                go_wp2_with fail
                go_round
                case rel => exact ⟨k + 1, by omega, by go_num, R1⟩
                case measure => simp [intOf]; omega
      · obtain rfl : k = l.length := by omega
        have R1 : Hid (longU l = false) := by show _ = _; rw [E.out, ← hn.out, List.take_length]
        clear HV hn E
        go_wp2_with fail
        go_ret
        exact ⟨ret_bool R1.out.symm, rfl⟩
set_option maxHeartbeats 4000000 in
theorem refPlain19_any (n : Nat) (v : Value) (l : List En) (w : World) (hv : FilesV w v l) (hn : n ≤ 10000000) (hl : EnsOK n l) :
    Calls Try.prog 13 #[v] w fun e w' => ∃ v', e = .returned v' ∧ OwnR w.heap.size w' v' (plainU l) ∧ Below w.heap.size w w' := by
  obtain ⟨p, c, rfl, hv⟩ := hv
  have HV := hide hv
  have h60 := hl.len
  have HL := hide hl
  clear hv hl
  go_enter Try.func13, Try.ntmps13
  go_wp2_with fail
  go_loopw [3, 4] (fun ov iv wr => ∃ (k : Nat) (q : Option Addr) (cp : Nat), k ≤ l.length ∧ iv = .int .i64 k ∧ ov = .slice q k cp ∧ Hid (OwnR w.heap.size wr (.slice q k cp) (plainU (l.take k))) ∧ Hid (Below w.heap.size w wr)) (fun _ iv _ => l.length - (intOf iv).toNat)
  case atStart => exact ⟨0, none, 0, Nat.zero_le _, rfl, rfl, OwnR.nil _ _, Below.refl _ _⟩
  case round =>
    rename World => wr
    obtain ⟨k, q, cp, hk, rfl, rfl, OW, BW⟩ := hrel
    by_cases g : k < l.length
    · have k1 : (k : Int) < (l.length : Int) := by omega
      have k0 : (0 : Int) ≤ (k : Int) := by omega
      obtain ⟨b, o, rfl, hc⟩ : ∃ b o, p = some ⟨b, o, none⟩ ∧ ∀ i (h : i < l.length), EnAt w b (o + i * 5) l[i] := by
        rcases HV.out with t | t
        · rw [t] at g; simp at g
        · exact t
      have EA := (hc k g).below BW.out
      have a0 := EA.c0
      have a1 := EA.c1
      have a2 := EA.c2
      have a3 := EA.c3
      have sz := HL.out.ent _ (List.getElem_mem g)
      have TK := hide (plain_take l g)
      have PL := hide (plain_len l k hk)
      have s0 := sz.1
      have s1 := sz.2.1
      have s2 := sz.2.2.1
      have EP : Hid (plE l[k] = ⟨pairsS l[k].name, pairsS (if l[k].file = true then l[k].fname else l[k].val), false, ⟨#[]⟩, ⟨#[]⟩⟩) := rfl
      have H0 := hide (fun W => refPairs_any l[k].name W (by omega))
      have H1 := hide (fun W => refPairs_any l[k].val W (by omega))
      have H2 := hide (fun W => refPairs_any l[k].fname W (by omega))
      clear hc EA HV HL sz s0 s1 s2
      generalize plE l[k] = pe at *
      generalize l[k].name = t0 at *
      generalize l[k].val = t1 at *
      generalize l[k].fname = t2 at *
      generalize l[k].file = fb at *
      cases fb with
      | true =>
        rw [if_pos rfl] at EP
        clear H1
        go_wp2_with fail
        refine (H0.out _).mono ?_
        rintro e w1 ⟨rfl, b1⟩
        have B1 := hide (chain BW.out b1)
        have O1 := hide (OW.out.below b1)
        clear b1 a0 a1 a2 a3
        go_wp2_with fail
        refine (H2.out _).mono ?_
        rintro e w2 ⟨rfl, b2⟩
        have B2 := hide (chain B1.out b2)
        have O2 := hide (O1.out.below b2)
        clear b2 B1 O1 H0 H2
        generalize pairsS t0 = u0 at *
        generalize pairsS t2 = u1 at *
        have F1 := hide (files_one w2 ⟨u0, u1, false, ⟨#[]⟩, ⟨#[]⟩⟩)
        have AL : Hid (Below w2.heap.size w2 (w2.alloc (.cells #[.string u0, .string u1, .bool false, .string ⟨#[]⟩, .string ⟨#[]⟩] 32))) := (Below.refl _ w2).alloc (Nat.le_refl _) _
        have B3 := hide (chain B2.out AL.out)
        have O3 := hide (O2.out.below AL.out)
        have SZ := hide (Nat.le_trans B2.out.size AL.out.size)
        clear AL B2 O2
        go_wp2_with (at_builtin; refine wpList_append_en rfl _ _ rfl w.heap.size _ (plainU (l.take k)) rfl O3.out _ [⟨u0, u1, false, ⟨#[]⟩, ⟨#[]⟩⟩] rfl F1.out (by rw [PL.out]; show (k + 1) * 72 ≤ _; omega) SZ.out ?_; intro q8 c8 w8 o8 b8)
        have O8 : Hid (OwnR w.heap.size w8 (.slice q8 (k + 1) c8) (plainU (l.take (k + 1)))) := by
          show OwnR _ _ _ _
          rw [TK.out, EP.out]
          have := o8
          rw [PL.out] at this
          exact this
        have B8 := hide (B3.out.trans b8)
        clear o8 b8 F1 O3 B3 SZ TK EP
        rw [PL.out]
        clear PL
        go_roundw
        case rel => exact ⟨k + 1, q8, c8, by omega, by go_num, rfl, O8, B8⟩
        case measure => simp [intOf]; omega
      | false =>
        rw [if_neg (by decide)] at EP
        clear H2
        go_wp2_with fail
        refine (H0.out _).mono ?_
        rintro e w1 ⟨rfl, b1⟩
        have B1 := hide (chain BW.out b1)
        have O1 := hide (OW.out.below b1)
        clear b1 a0 a1 a2 a3
        go_wp2_with fail
        refine (H1.out _).mono ?_
        rintro e w2 ⟨rfl, b2⟩
        have B2 := hide (chain B1.out b2)
        have O2 := hide (O1.out.below b2)
        clear b2 B1 O1 H0 H1
        generalize pairsS t0 = u0 at *
        generalize pairsS t1 = u1 at *
        have F1 := hide (files_one w2 ⟨u0, u1, false, ⟨#[]⟩, ⟨#[]⟩⟩)
        have AL : Hid (Below w2.heap.size w2 (w2.alloc (.cells #[.string u0, .string u1, .bool false, .string ⟨#[]⟩, .string ⟨#[]⟩] 32))) := (Below.refl _ w2).alloc (Nat.le_refl _) _
        have B3 := hide (chain B2.out AL.out)
        have O3 := hide (O2.out.below AL.out)
        have SZ := hide (Nat.le_trans B2.out.size AL.out.size)
        clear AL B2 O2
        go_wp2_with (at_builtin; refine wpList_append_en rfl _ _ rfl w.heap.size _ (plainU (l.take k)) rfl O3.out _ [⟨u0, u1, false, ⟨#[]⟩, ⟨#[]⟩⟩] rfl F1.out (by rw [PL.out]; show (k + 1) * 72 ≤ _; omega) SZ.out ?_; intro q8 c8 w8 o8 b8)
        have O8 : Hid (OwnR w.heap.size w8 (.slice q8 (k + 1) c8) (plainU (l.take (k + 1)))) := by
          show OwnR _ _ _ _
          rw [TK.out, EP.out]
          have := o8
          rw [PL.out] at this
          exact this
        have B8 := hide (B3.out.trans b8)
        clear o8 b8 F1 O3 B3 SZ TK EP
        rw [PL.out]
        clear PL
        go_roundw
        case rel => exact ⟨k + 1, q8, c8, by omega, by go_num, rfl, O8, B8⟩
        case measure => simp [intOf]; omega
    · obtain rfl : k = l.length := by omega
      rw [List.take_length] at OW
      clear HV HL
      go_wp2_with fail
      go_ret
      exact ⟨_, rfl, OW.out, BW.out⟩

end Go.Proofs.Ytmnpnpmopbkabaa
