/- The program's reader: 'time', 'local'. Conditions: as for 'date'. -/
import Derived.Test.YtekcbkicfoaheaaGreatDoorMomRd5
namespace Go.Proofs.YtekcbkicfoaheaaGreatDoor
open Go.RowKit

theorem secP_none {n : Int} {l : List UInt8} (h : signP isCol l = none) : secP n l = some (n, l) := by unfold secP; rw [h]
theorem secP_some {n v : Int} {l k : List UInt8} (h : signP isCol l = some (v, k)) : secP n l = (belowP 60 k).bind fun s => fracP (n + s.1 * 1000) s.2 := by unfold secP; rw [h]
theorem fracP_none {n : Int} {l : List UInt8} (h : signP isPt l = none) : fracP n l = some (n, l) := by unfold fracP; rw [h]
theorem fracP_some {n v : Int} {l k : List UInt8} (h : signP isPt l = some (v, k)) : fracP n l = (thP k).bind fun f => some (n + f.1, f.2) := by unfold fracP; rw [h]
theorem time_tell {l k1 k2 k3 k4 : List UInt8} {b b1 b2 b3 b4 : Bool} {x m v : Int} (T1 : Tell b (belowP 24 l) x k1 b1) (S1 : Tell b1 (signP isCol k1) 0 k2 b2) (T2 : Tell b2 (belowP 60 k2) m k3 b3) (h : Tell b3 (secP (x * 3600000 + m * 60000) k3) v k4 b4) : Tell b (timeP l) v k4 b4 := by
  unfold timeP
  refine Tell.bind (f := fun x l1 => (signP isCol l1).bind fun s => (belowP 60 s.2).bind fun m => secP (x * 3600000 + m.1 * 60000) m.2) T1 ?_
  refine Tell.bind (f := fun _ l1 => (belowP 60 l1).bind fun m => secP (x * 3600000 + m.1 * 60000) m.2) S1 ?_
  exact Tell.bind (f := fun m l1 => secP (x * 3600000 + m * 60000) l1) T2 h
theorem sign_zero {p : UInt8 → Bool} {l k : List UInt8} {v : Int} (h : signP p l = some (v, k)) : signP p l = some (0, k) := by
  cases l with
  | nil => cases h
  | cons c r =>
    rw [sign_cons] at h ⊢
    split at h
    · rename_i e; cases h; exact if_pos e
    · cases h

set_option maxHeartbeats 1000000 in
set_option maxRecDepth 100000 in
theorem time_any (w0 : World) (R : Nat) (l : List UInt8) (b : Bool) (w : World) (h : Rd w0 w R l b) (hl : l.length ≤ 1000000) (hT : Errs w0) :
    Calls Tryz.prog 17 #[.pointer (some ⟨R, 0, none⟩)] w fun e w' => ∃ v k b', e = .returned (.int .i64 v) ∧ Rd w0 w' R k b' ∧ 0 ≤ v ∧ v ≤ 1000000000000 ∧ Hid (Tell b (timeP l) v k b') := by
  have H24 := hide (below_any w0 R l b 24 w h hl (by omega) hT)
  have HS := hide (fun l b w h hl => sign_any w0 R l b ⟨#[58]⟩ isCol w h hl signs_col)
  have H60 := hide (fun l b w h hl => below_any w0 R l b 60 w h hl (by omega) hT)
  have HTH := hide (fun l b w h hl => thousandths_any w0 R l b w h hl hT)
  have HNN := hide (fun l b w h hl hn => next_no w0 R l b ⟨#[58]⟩ isCol w h hl signs_col hn)
  have HNY := hide (fun l k b w h hl hn => next_yes w0 R l k b ⟨#[58]⟩ isCol w h hl signs_col hn)
  have HPN := hide (fun l b w h hl hn => next_no w0 R l b ⟨#[46]⟩ isPt w h hl signs_pt hn)
  have HPY := hide (fun l k b w h hl hn => next_yes w0 R l k b ⟨#[46]⟩ isPt w h hl signs_pt hn)
  clear h hT
  go_enter Tryz.func17, Tryz.ntmps17
  go_wp2_with fail
  refine H24.out.mono ?_
  rintro e v1 ⟨x, k1, b1, rfl, h1, hk1, x1, x2, T1⟩
  go_wp2_with fail
  refine (HS.out _ _ _ h1 hk1).mono ?_
  rintro e v2 ⟨k2, b2, rfl, h2, hk2, S1⟩
  have S1 := hide S1
  clear h1 hk1
  go_wp2_with fail
  refine (H60.out _ _ _ h2 hk2).mono ?_
  rintro e v3 ⟨m, k3, b3, rfl, h3, hk3, m1, m2, T2⟩
  clear h2 hk2
  have FIN := hide (fun (v : Int) (k4 : List UInt8) (b4 : Bool) => time_tell (v := v) (k4 := k4) (b4 := b4) T1.out S1.out T2.out)
  clear T1 S1 T2
  cases hn : signP isCol k3 with
  | none =>
    have HN := hide (HNN.out _ _ _ h3 hk3 hn)
    rw [secP_none hn] at FIN
    clear hn
    go_wp2_with fail
    refine HN.out.mono ?_
    rintro e v4 ⟨rfl, rfl⟩
    go_wp2_with fail
    go_ret
    exact ⟨_, k3, b3, rfl, h3, by omega, by omega, FIN.out _ _ _ Tell.pure⟩
  | some y =>
    obtain ⟨yv, k4⟩ := y
    have HN := hide (HNY.out _ _ _ _ h3 hk3 (sign_zero hn))
    have hk4 : k4.length ≤ 1000000 := Nat.le_trans (sign_len hn) hk3
    rw [secP_some hn] at FIN
    clear hn h3 hk3
    go_wp2_with fail
    refine HN.out.mono ?_
    rintro e v4 ⟨rfl, h4⟩
    go_wp2_with fail
    refine (H60.out _ _ _ h4 hk4).mono ?_
    rintro e v5 ⟨s, k5, b5, rfl, h5, hk5, s1, s2, T3⟩
    clear h4 hk4 HN
    have FIN2 := hide (fun (v : Int) (k : List UInt8) (b' : Bool) (hh : Tell b5 (fracP (x * 3600000 + m * 60000 + s * 1000) k5) v k b') => FIN.out v k b' (Tell.bind (f := fun s l1 => fracP (x * 3600000 + m * 60000 + s * 1000) l1) T3.out hh))
    clear FIN T3
    cases hp : signP isPt k5 with
    | none =>
      have HN := hide (HPN.out _ _ _ h5 hk5 hp)
      rw [fracP_none hp] at FIN2
      clear hp
      go_wp2_with fail
      refine HN.out.mono ?_
      rintro e v6 ⟨rfl, rfl⟩
      go_wp2_with fail
      go_ret
      exact ⟨_, k5, b5, rfl, h5, by omega, by omega, FIN2.out _ _ _ Tell.pure⟩
    | some y =>
      obtain ⟨yv, k6⟩ := y
      have HN := hide (HPY.out _ _ _ _ h5 hk5 (sign_zero hp))
      have hk6 : k6.length ≤ 1000000 := Nat.le_trans (sign_len hp) hk5
      rw [fracP_some hp] at FIN2
      clear hp h5 hk5
      go_wp2_with fail
      refine HN.out.mono ?_
      rintro e v6 ⟨rfl, h6⟩
      go_wp2_with fail
      refine (HTH.out _ _ _ h6 hk6).mono ?_
      rintro e v7 ⟨f, k7, b7, rfl, h7, hk7, f1, f2, T4⟩
      clear h6 hk6 HN
      have FIN3 := hide (FIN2.out _ _ _ (Tell.bind (f := fun f l1 => some (x * 3600000 + m * 60000 + s * 1000 + f, l1)) T4.out Tell.pure))
      clear FIN2 T4
      go_wp2_with fail
      go_ret
      exact ⟨_, k7, b7, rfl, h7, by omega, by omega, FIN3⟩

theorem local_tell {l k1 k2 k3 : List UInt8} {b b1 b2 b3 : Bool} {d t : Int} (T1 : Tell b (dateP l) d k1 b1) (S1 : Tell b1 (signP isSep k1) 0 k2 b2) (T2 : Tell b2 (timeP k2) t k3 b3) : Tell b (localP l) (d + t) k3 b3 := by
  unfold localP
  refine Tell.bind (f := fun d l1 => (signP isSep l1).bind fun s => (timeP s.2).bind fun t => some (d + t.1, t.2)) T1 ?_
  refine Tell.bind (f := fun _ l1 => (timeP l1).bind fun t => some (d + t.1, t.2)) S1 ?_
  exact Tell.bind (f := fun t l1 => some (d + t, l1)) T2 Tell.pure

set_option maxHeartbeats 1000000 in
set_option maxRecDepth 100000 in
theorem local_any (w0 : World) (R : Nat) (l : List UInt8) (b : Bool) (w : World) (h : Rd w0 w R l b) (hl : l.length ≤ 1000000) (hT : ReadTabs w0) :
    Calls Tryz.prog 18 #[.pointer (some ⟨R, 0, none⟩)] w fun e w' => ∃ v k b', e = .returned (.int .i64 v) ∧ Rd w0 w' R k b' ∧ Hid (Tell b (localP l) v k b') := by
  have HD := hide (date_any w0 R l b w h hl hT)
  have HS := hide (fun l b w h hl => sign_any w0 R l b ⟨#[84, 32]⟩ isSep w h hl signs_sep)
  have HC := hide (fun l b w h hl => time_any w0 R l b w h hl hT.1)
  clear h hT
  go_enter Tryz.func18, Tryz.ntmps18
  go_wp2_with fail
  refine HD.out.mono ?_
  rintro e v1 ⟨x, k1, b1, rfl, h1, hk1, x1, x2, T1⟩
  go_wp2_with fail
  refine (HS.out _ _ _ h1 hk1).mono ?_
  rintro e v2 ⟨k2, b2, rfl, h2, hk2, S1⟩
  have S1 := hide S1
  clear h1 hk1
  go_wp2_with fail
  refine (HC.out _ _ _ h2 hk2).mono ?_
  rintro e v3 ⟨m, k3, b3, rfl, h3, m1, m2, T2⟩
  clear h2 hk2
  have FIN := hide (local_tell T1.out S1.out T2.out)
  clear T1 S1 T2
  go_wp2_with fail
  go_ret
  exact ⟨_, k3, b3, rfl, h3, FIN⟩

end Go.Proofs.YtekcbkicfoaheaaGreatDoor
