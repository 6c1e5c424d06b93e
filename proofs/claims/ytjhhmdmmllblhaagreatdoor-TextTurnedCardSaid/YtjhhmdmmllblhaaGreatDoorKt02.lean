/- PbAll TxMath TxRead: what these laws name of them. -/
import Derived.Lib.ReplaceLaws
import Derived.Lib.CountLaws
import Derived.Lib.IndexMore
import Derived.Lib.Split
import Derived.Lib.Strings
import Derived.Test.YtjhhmdmmllblhaaGreatDoorKt01
namespace Go.Proofs.YtjhhmdmmllblhaaGreatDoor
set_option linter.unusedVariables false
namespace PbL
open ValM LexM ExM ShowM PrM NumM ParseM
set_option linter.unusedVariables false
abbrev B:=Int × List UInt8 × Int × Int × List UInt8
def word (s:List UInt8):B:=(2,s,0,0,[])
def sg (s:List UInt8):B:=(4,s,0,0,[])
def sepB (c:UInt8):Bool:=decide (c=32) || decide (c=40) || decide (c=41) || decide (c=44)
def Sep (r:List UInt8):Prop:=r=[] ∨ ∃ c r',r=c :: r'/\sepB c=true
theorem Sep.nil:Sep []:=.inl rfl
theorem Sep.of {c:UInt8} (r:List UInt8) (h:sepB c=true):Sep (c :: r):=.inr ⟨c,r,rfl,h⟩
def app (ts:List Tk) (r:Res):Res:=ts.foldr Res.cons r
theorem app_app (a b:List Tk) (r:Res):app (a ++ b) r=app a (app b r):=by simp [app]
theorem app_ok (a b:List Tk):app a (.ok b)=.ok (a ++ b):=by
 induction a with
 | nil => rfl
 | cons x a ih => show Res.cons x (app a (.ok b))=_; rw [ih]; rfl
def Lx (l:List UInt8) (bs:List B):Prop:=∀ rest p,Sep rest->∃ ts,ts.map Tk.bare=bs/\tokens (l ++ rest) p=app ts (tokens rest (p + l.length))
def LxA (l:List UInt8) (bs:List B):Prop:=∀ rest p,∃ ts,ts.map Tk.bare=bs/\tokens (l ++ rest) p=app ts (tokens rest (p + l.length))
theorem LxA.lx {l:List UInt8} {bs:List B} (h:LxA l bs):Lx l bs:=fun rest p _ => h rest p
theorem LxA.cat {a b:List UInt8} {aas bs:List B} (ha:LxA a aas) (hb:LxA b bs):LxA (a ++ b) (aas ++ bs):=fun rest p => by
 obtain ⟨t1,e1,h1⟩:=ha (b ++ rest) p
 obtain ⟨t2,e2,h2⟩:=hb rest (p + a.length)
 exact ⟨t1 ++ t2,by rw [List.map_append,e1,e2],by rw [List.append_assoc,h1,h2,app_app,List.length_append,Nat.add_assoc]⟩
theorem LxA.cat' {a b:List UInt8} {aas bs:List B} (ha:LxA a aas) (hb:Lx b bs):Lx (a ++ b) (aas ++ bs):=fun rest p hs => by
 obtain ⟨t1,e1,h1⟩:=ha (b ++ rest) p
 obtain ⟨t2,e2,h2⟩:=hb rest (p + a.length) hs
 exact ⟨t1 ++ t2,by rw [List.map_append,e1,e2],by rw [List.append_assoc,h1,h2,app_app,List.length_append,Nat.add_assoc]⟩
theorem Lx.sep {a b:List UInt8} {c:UInt8} {aas bs:List B} (ha:Lx a aas) (hc:sepB c=true) (hb:LxA (c :: b) bs):LxA (a ++ (c :: b)) (aas ++ bs):=fun rest p => by
 obtain ⟨t1,e1,h1⟩:=ha ((c :: b) ++ rest) p (Sep.of _ hc)
 obtain ⟨t2,e2,h2⟩:=hb rest (p + a.length)
 exact ⟨t1 ++ t2,by rw [List.map_append,e1,e2],by rw [List.append_assoc,h1,h2,app_app,List.length_append,Nat.add_assoc]⟩
theorem Lx.sep' {a b:List UInt8} {c:UInt8} {aas bs:List B} (ha:Lx a aas) (hc:sepB c=true) (hb:Lx (c :: b) bs):Lx (a ++ (c :: b)) (aas ++ bs):=fun rest p hs => by
 obtain ⟨t1,e1,h1⟩:=ha ((c :: b) ++ rest) p (Sep.of _ hc)
 obtain ⟨t2,e2,h2⟩:=hb rest (p + a.length) hs
 exact ⟨t1 ++ t2,by rw [List.map_append,e1,e2],by rw [List.append_assoc,h1,h2,app_app,List.length_append,Nat.add_assoc]⟩
theorem lx_one {c:UInt8} {l rest:List UInt8} {p:Nat} {T:Tok} (hc:c ≠ 32) (h:firstF (c :: (l ++ rest))=.tok T) (hl:T.len=(c :: l).length) :
  tokens ((c :: l) ++ rest) p=app [⟨T.kind,p,c :: l,T.vk,T.n,T.t⟩] (tokens rest (p + (c :: l).length)):=by
 rw [List.cons_append,tokens_tok hc h,hl]
 have e1:(c :: (l ++ rest)).drop (c :: l).length=rest:=by simp
 have e2:mk T p (c :: (l ++ rest))=⟨T.kind,p,c :: l,T.vk,T.n,T.t⟩:=by unfold mk; rw [hl]; simp
 rw [e1,e2]; rfl
theorem lx_space:LxA [32] []:=fun rest p => ⟨[],rfl,by rw [List.cons_append,List.nil_append,tokens_space]; rfl⟩
theorem lx_sign {c:UInt8} (h:sgnB c=true) (h1:c ≠ 60):LxA [c] [sg [c]]:=fun rest p => by
 have hc:c ≠ 32:=fun e => by subst e; exact absurd h (by decide)
 have hd:digB c=false:=by
  unfold sgnB at h; simp only [Bool.or_eq_true,decide_eq_true_eq] at h
  rcases h with (((((((((h | h) | h) | h) | h) | h) | h) | h) | h) | h) | h <;> subst h <;> decide
 have hw:lowB c=false:=by
  unfold sgnB at h; simp only [Bool.or_eq_true,decide_eq_true_eq] at h
  rcases h with (((((((((h | h) | h) | h) | h) | h) | h) | h) | h) | h) | h <;> subst h <;> decide
 have hq:c ≠ 34:=fun e => by subst e; exact absurd h (by decide)
 have h33:c ≠ 33:=fun e => by subst e; exact absurd h (by decide)
 refine ⟨_,?_,lx_one hc (T:=⟨4,1,0,0,[]⟩) ?_ rfl⟩
 ·rfl
 ·rw [first_cons,if_neg (by simp [hd]),if_neg (by simp [hw]),if_neg hq]
  unfold sgnT
  rw [if_neg (fun g => g.1.elim h1 h33),if_pos h]
theorem lx_less:Lx [60] [sg [60]]:=fun rest p hs => by
 refine ⟨_,?_,lx_one (by decide) (T:=⟨4,1,0,0,[]⟩) ?_ rfl⟩
 ·rfl
 ·rw [first_cons,if_neg (by decide),if_neg (by decide),if_neg (by decide)]
  unfold sgnT
  rw [if_neg,if_pos (by decide)]
  rintro ⟨_,g⟩
  rcases hs with rfl | ⟨d,r',rfl,hd⟩
  ·simp at g
  ·simp at g; subst g; exact absurd hd (by decide)
theorem lx_two {c:UInt8} (h:c=60 ∨ c=33):LxA [c,61] [sg [c,61]]:=fun rest p => by
 refine ⟨_,?_,lx_one (by rcases h with rfl | rfl <;> decide) (T:=⟨4,2,0,0,[]⟩) ?_ rfl⟩
 ·rfl
 ·rw [first_cons,if_neg (by rcases h with rfl | rfl <;> decide),if_neg (by rcases h with rfl | rfl <;> decide),if_neg (by rcases h with rfl | rfl <;> decide)]
  unfold sgnT
  rw [if_pos ⟨h,by simp⟩]
theorem tw_sep (p:UInt8->Bool) (l rest:List UInt8) (hl:l.all p=true) (hr:rest=[] ∨ ∃ c r,rest=c :: r/\p c=false):(l ++ rest).takeWhile p=l:=by
 induction l with
 | nil =>
  rcases hr with rfl | ⟨c,r,rfl,h⟩
  ·rfl
  ·rw [List.nil_append,List.takeWhile_cons,if_neg (by simp [h])]
 | cons x l ih =>
  rw [List.all_cons,Bool.and_eq_true] at hl
  rw [List.cons_append,List.takeWhile_cons,if_pos hl.1,ih hl.2]
theorem sep_not {p:UInt8->Bool} (h:∀ c,sepB c=true->p c=false) {rest:List UInt8} (hs:Sep rest):rest=[] ∨ ∃ c r,rest=c :: r/\p c=false:=by
 rcases hs with rfl | ⟨c,r,rfl,hc⟩
 ·exact .inl rfl
 ·exact .inr ⟨c,r,rfl,h c hc⟩
theorem sep_aln (c:UInt8) (h:sepB c=true):alnB c=false:=by
 unfold sepB at h; simp only [Bool.or_eq_true,decide_eq_true_eq] at h
 rcases h with ((h | h) | h) | h <;> subst h <;> decide
theorem sep_dig (c:UInt8) (h:sepB c=true):digB c=false:=by
 unfold sepB at h; simp only [Bool.or_eq_true,decide_eq_true_eq] at h
 rcases h with ((h | h) | h) | h <;> subst h <;> decide
theorem lx_word {l:List UInt8} (h:nameB l=true) (hl:l.length<=10):Lx l [word l]:=fun rest p hs => by
 cases l with
 | nil => cases h
 | cons c r =>
  unfold nameB at h
  simp only [Bool.and_eq_true] at h
  obtain ⟨h1,h2⟩:=h
  have hd:digB c=false:=by
   unfold lowB at h1; unfold digB
   simp only [Bool.and_eq_true,decide_eq_true_eq,Bool.and_eq_false_iff,decide_eq_false_iff_not] at h1 ⊢
   omega
  have hc:c ≠ 32:=fun e => by subst e; exact absurd h1 (by decide)
  have htw:(c :: (r ++ rest)).takeWhile alnB=c :: r:=tw_sep alnB (c :: r) rest (by rw [List.all_cons,h2]; simp [alnB,h1]) (sep_not sep_aln hs)
  refine ⟨_,?_,lx_one hc (T:=⟨2,(c :: r).length,0,0,[]⟩) ?_ rfl⟩
  ·rfl
  ·rw [first_cons,if_neg (by simp [hd]),if_pos h1,htw]
   unfold wordT
   rw [if_neg (by omega)]
theorem dig_at (d:Nat) (h:d < 10):digB (UInt8.ofNat (48 + d))=true:=by
 obtain rfl | rfl | rfl | rfl | rfl | rfl | rfl | rfl | rfl | rfl:d=0 ∨ d=1 ∨ d=2 ∨ d=3 ∨ d=4 ∨ d=5 ∨ d=6 ∨ d=7 ∨ d=8 ∨ d=9:=by omega
 all_goals decide
theorem dec_all (u:Nat):(Lib.decDigits u).all digB=true:=by
 induction u using Nat.strongRecOn with
 | _ u ih =>
  by_cases h:u < 10
  ·rw [Lib.decDigits_one h,List.all_cons,dig_at u h]; rfl
  ·rw [Lib.decDigits,dif_neg h,List.all_append,ih (u / 10) (by omega),List.all_cons,dig_at _ (by omega)]; rfl
theorem dec_zero (u:Nat) (h:(Lib.decDigits u).head?=some 48):(Lib.decDigits u).length=1:=by
 induction u using Nat.strongRecOn with
 | _ u ih =>
  by_cases g:u < 10
  ·rw [Lib.decDigits_one g]; rfl
  ·exfalso
   rw [Lib.decDigits,dif_neg g] at h
   have hne:=dec_ne (u / 10)
   have h':(Lib.decDigits (u / 10)).head?=some 48:=by
    cases e:Lib.decDigits (u / 10) with
    | nil => exact absurd e hne
    | cons c r => rw [e] at h; simpa using h
   have h1:=ih (u / 10) (by omega) h'
   by_cases g2:u / 10 < 10
   ·rw [Lib.decDigits_one g2] at h'
    simp only [List.head?_cons,Option.some.injEq] at h'
    have h3:=congrArg UInt8.toNat h'
    rw [UInt8.toNat_ofNat',Nat.mod_eq_of_lt (by omega)] at h3
    have:(48:UInt8).toNat=48:=rfl
    omega
   ·rw [Lib.decDigits,dif_neg g2,List.length_append] at h1
    have:=List.length_pos_iff.2 (dec_ne (u / 10 / 10))
    rw [List.length_singleton] at h1
    omega
theorem lx_num {n:Int} (h0:0<=n) (h1:n<=1099511627776):Lx (Lib.itoa n) [(1,Lib.itoa n,1,n,[])]:=fun rest p hs => by
 have e:Lib.itoa n=Lib.decDigits n.toNat:=by unfold Lib.itoa; rw [if_neg (by omega)]
 have ha:=atoiAll_itoa n (by omega) h1
 have h3:=dec_all n.toNat
 have h4:=dec_zero n.toNat
 rw [← e] at h3 h4
 obtain ⟨c,r,hc,g1,g2⟩:=dec_head n.toNat
 rw [← e] at hc
 rw [hc] at h3 h4 ha ⊢
 have hcd:digB c=true:=by rw [List.all_cons,Bool.and_eq_true] at h3; exact h3.1
 have h32:c ≠ 32:=fun e => by subst e; exact absurd hcd (by decide)
 refine ⟨_,?_,lx_one h32 (T:=⟨1,(c :: r).length,1,n,[]⟩) ?_ rfl⟩
 ·rfl
 ·rw [first_cons,if_pos hcd]
  have htw:(c :: (r ++ rest)).takeWhile digB=c :: r:=tw_sep digB (c :: r) rest h3 (sep_not sep_dig hs)
  rw [htw]
  unfold numT
  rw [if_neg (fun g => by have:=h4 g.1; omega),ha]
  simp only
  rw [if_neg (by omega)]
theorem quoF_esc:∀ (l rest:List UInt8),cleanL l=true->quoF (escL l ++ 34 :: rest)=some ((escL l).length + 1,l)
 | [],rest,_ => by
  show quoF (34 :: rest)=_
  cases rest <;> simp [quoF,escL]
 | c :: l,rest,h => by
  unfold cleanL at h
  rw [List.all_cons,Bool.and_eq_true] at h
  have ih:=quoF_esc l rest h.2
  have hc:=h.1
  simp only [Bool.and_eq_true,decide_eq_true_eq] at hc
  have he:escL (c :: l)=(if c=34 ∨ c=92 then [92,c] else [c]) ++ escL l:=by unfold escL; rw [List.flatMap_cons]
  rw [he]
  by_cases hq:c=34 ∨ c=92
  ·rw [if_pos hq]
   show quoF (92 :: c :: (escL l ++ 34 :: rest))=_
   rw [quoF,if_neg (by decide),if_neg (by decide),if_pos rfl,if_pos hq,ih]
   simp
  ·rw [if_neg hq]
   obtain ⟨d,r,hd⟩:∃ d r,escL l ++ 34 :: rest=d :: r:=by
    cases escL l with
    | nil => exact ⟨_,_,rfl⟩
    | cons d r => exact ⟨_,_,rfl⟩
   rw [List.append_assoc,hd]
   show quoF (c :: d :: r)=_
   rw [quoF,if_neg (fun g => hq (.inl g)),if_neg (by omega),if_neg (fun g => hq (.inr g)),← hd,ih]
   simp
theorem lx_quo {s:List UInt8} (h:cleanL s=true) (hl:s.length<=40):LxA (quoteL s) [(3,quoteL s,3,0,s)]:=fun rest p => by
 refine ⟨_,?_,lx_one (c:=34) (l:=escL s ++ [34]) (by decide) (T:=⟨3,(quoteL s).length,3,0,s⟩) ?_ rfl⟩
 ·rfl
 ·rw [first_cons,if_neg (by decide),if_neg (by decide),if_pos rfl]
  unfold quoT
  rw [List.append_assoc]
  show (match quoF (escL s ++ 34 :: rest) with | none => _ | some (m,t) => _)=_
  rw [quoF_esc s rest h]
  simp only
  rw [if_neg (by omega)]
  unfold quoteL
  simp
end PbL
namespace PbT
open ValM LexM ExM ShowM PrM NumM ParseM PbL PsM
set_option linter.unusedVariables false
def opB (op:Int):B:=if op=4 ∨ op=15 ∨ op=16 ∨ op=17 ∨ op=18 then word (signF op) else sg (signF op)
def brB (p:Int) (t:Int × List B):List B:=if precF t.1 < p then sg [40] :: (t.2 ++ [sg [41]]) else t.2
def commasB:List (List B)->List B
 | [] => []
 | [a] => a
 | a :: r => a ++ (sg [44] :: commasB r)
def argB (ts:List (Int × List B)) (i:Nat):Int × List B:=ts.getD i (0,[])
def leafB (d:Nd):B :=
 if d.op=1 then (if d.k=1 then (1,Lib.itoa d.n,1,d.n,[]) else if d.k=2 then word (showL 2 d.n []) else (3,quoteL d.s.data.toList,3,0,d.s.data.toList)) else word d.nm.data.toList
def btF (d:Nd) (ts:List (Int × List B)):List B :=
 if d.op=1 ∨ d.op=2 then [leafB d]
 else if precF d.op=6 then opB d.op :: sg [40] :: (commasB (ts.map (·.2)) ++ [sg [41]])
 else if precF d.op=5 then opB d.op :: brB 5 (argB ts 0)
 else brB (leftF d.op) (argB ts 0) ++ (opB d.op :: brB (precF d.op + 1) (argB ts 1))
mutual
def Ex.bt:Ex->List B | .mk d l => btF d (btL l)
def btL:List Ex->List (Int × List B) | [] => [] | x :: l => (x.d.op,Ex.bt x) :: btL l
end
theorem bt_mk (d:Nd) (l:List Ex):Ex.bt (.mk d l)=btF d (btL l):=by simp [Ex.bt]
theorem btL_cons (x:Ex) (l:List Ex):btL (x :: l)=(x.d.op,Ex.bt x) :: btL l:=by simp [btL]
theorem btL_map (l:List Ex):btL l=l.map fun x => (x.d.op,Ex.bt x):=by
 induction l with
 | nil => simp [btL]
 | cons x l ih => rw [btL_cons,ih]; rfl
theorem node_ok {d:Nd} {m:Nat} (h:nodeE d m=0):1<=d.op/\d.op<=18/\m=arity d.op/\vOk d=true/\nmOk d=true:=by
 unfold nodeE at h
 by_cases hr:d.op < 1 ∨ 18 < d.op
 ·rw [if_pos hr] at h; exact absurd h (by decide)
 ·rw [if_neg hr] at h
  by_cases hg:m=arity d.op/\vOk d=true/\nmOk d=true
  ·exact ⟨by omega,by omega,hg⟩
  ·rw [if_neg hg] at h; exact absurd h (by decide)
theorem bytes_nil {s:ByteArray} (h:s.data.toList.isEmpty=true):s=⟨#[]⟩:=by
 have h1:s.data.toList=[]:=List.isEmpty_iff.1 h
 obtain ⟨⟨l⟩⟩:=s
 simp at h1; subst h1; rfl
theorem op_nd {d:Nd} (h1:d.op ≠ 1) (h2:d.op ≠ 2) (hv:vOk d=true) (hn:nmOk d=true):d=⟨d.op,0,0,⟨#[]⟩,⟨#[]⟩⟩:=by
 unfold vOk at hv
 unfold nmOk at hn
 rw [if_neg h1] at hv
 rw [if_neg h2] at hn
 simp only [Bool.and_eq_true,decide_eq_true_eq] at hv
 obtain ⟨op,k,n,s,nm⟩:=d
 simp only at hv hn ⊢
 rw [hv.1.1,hv.1.2,bytes_nil hv.2,bytes_nil hn]
theorem con_nd {d:Nd} (h1:d.op=1) (hv:vOk d=true) (hn:nmOk d=true):d.nm=⟨#[]⟩/\((d.k=1/\0<=d.n/\d.n<=1099511627776/\d.s=⟨#[]⟩) ∨ (d.k=2/\(d.n=0 ∨ d.n=1)/\d.s=⟨#[]⟩) ∨ (d.k=3/\d.n=0/\cleanL d.s.data.toList=true/\d.s.data.toList.length<=40)):=by
 unfold vOk at hv
 unfold nmOk at hn
 rw [if_pos h1] at hv
 rw [if_neg (by omega)] at hn
 refine ⟨bytes_nil hn,?_⟩
 simp only [Bool.and_eq_true,Bool.not_eq_true',Bool.and_eq_false_iff,decide_eq_false_iff_not] at hv
 obtain ⟨hk,hneg⟩:=hv
 unfold knownB isT valE at hk
 simp only [Bool.and_eq_true,Bool.or_eq_true,decide_eq_true_eq] at hk
 obtain ⟨ht,hz⟩:=hk
 by_cases hn0:numE d.k d.n=0
 ·rw [if_pos hn0] at hz
  have hstr:d.k ≠ 3->d.s=⟨#[]⟩:=fun h3 => by
   unfold strE at hz
   rw [if_neg h3] at hz
   by_cases e:d.s.data.toList=[]
   ·exact bytes_nil (by rw [e]; rfl)
   ·rw [if_neg e] at hz; exact absurd hz (by decide)
  rcases ht with (h | h) | h
  ·refine .inl ⟨h,?_,?_,hstr (by omega)⟩
   ·rcases hneg with g | g <;> omega
   ·unfold numE at hn0
    rw [if_pos h] at hn0
    cases hb:NumM.okN d.n
    ·rw [hb] at hn0; simp at hn0
    ·exact (NumM.okN_iff.1 hb).2
  ·refine .inr (.inl ⟨h,?_,hstr (by omega)⟩)
   unfold numE at hn0
   rw [if_neg (by omega),if_pos h] at hn0
   by_cases g:0<=d.n/\d.n<=1
   ·omega
   ·rw [if_neg g] at hn0; exact absurd hn0 (by decide)
  ·refine .inr (.inr ⟨h,?_,?_⟩)
   ·unfold numE at hn0
    rw [if_neg (by omega),if_neg (by omega),if_pos (.inl h)] at hn0
    by_cases g:d.n=0
    ·exact g
    ·rw [if_neg g] at hn0; exact absurd hn0 (by decide)
   ·unfold strE at hz
    rw [if_pos h] at hz
    by_cases h40:40 < d.s.data.toList.length
    ·rw [if_pos h40] at hz; exact absurd hz (by decide)
    ·rw [if_neg h40] at hz
     refine ⟨?_,by omega⟩
     cases hc:cleanL d.s.data.toList
     ·rw [hc] at hz; simp at hz
     ·rfl
 ·rw [if_neg hn0] at hz; exact absurd hz hn0
theorem len2 {α:Type} {l:List α} (h:l.length=2):∃ x y,l=[x,y]:=by
 match l,h with
 | [a,b],_ => exact ⟨a,b,rfl⟩
theorem ops {op:Int} (h1:3<=op) (h2:op<=18):op=3 ∨ op=4 ∨ op=5 ∨ op=6 ∨ op=7 ∨ op=8 ∨ op=9 ∨ op=10 ∨ op=11 ∨ op=12 ∨ op=13 ∨ op=14 ∨ op=15 ∨ op=16 ∨ op=17 ∨ op=18:=by omega
theorem lx_nil:Lx [] []:=fun rest p _ => ⟨[],rfl,rfl⟩
theorem lx_br {p op:Int} {l:List UInt8} {bs:List B} (h:Lx l bs):Lx (br p (op,l)) (brB p (op,bs)):=by
 unfold br brB
 split
 ·exact (LxA.cat (a:=[40]) (lx_sign (by decide) (by decide)) (h.sep (c:=41) (b:=[]) (by decide) (lx_sign (by decide) (by decide)))).lx
 ·exact h
theorem lx_commas:∀ l:List Ex,(∀ x ∈ l,Lx (Ex.txt x) (Ex.bt x))->Lx (commas (l.map Ex.txt)) (commasB (l.map Ex.bt))
 | [],_ => lx_nil
 | [x],h => h x (by simp)
 | x :: y :: r,h => by
  have ih:=lx_commas (y :: r) fun z hz => h z (by simp only [List.mem_cons] at hz ⊢; exact .inr hz)
  exact (h x (by simp)).sep' (c:=44) (by decide) (LxA.cat' (a:=[44]) (lx_sign (by decide) (by decide)) (LxA.cat' (a:=[32]) lx_space ih))
theorem lx_op {op:Int} (h1:5<=op) (h2:op<=16):Lx (signF op) [opB op]:=by
 obtain h | h | h | h | h | h | h | h | h | h | h | h | h | h | h | h:=ops (by omega:3<=op) (by omega)
 all_goals try omega
 all_goals subst h
 ·exact (lx_sign (c:=42) (by decide) (by decide)).lx
 ·exact (lx_sign (c:=47) (by decide) (by decide)).lx
 ·exact (lx_sign (c:=37) (by decide) (by decide)).lx
 ·exact (lx_sign (c:=43) (by decide) (by decide)).lx
 ·exact (lx_sign (c:=45) (by decide) (by decide)).lx
 ·exact (lx_sign (c:=38) (by decide) (by decide)).lx
 ·exact lx_less
 ·exact (lx_two (.inl rfl)).lx
 ·exact (lx_sign (c:=61) (by decide) (by decide)).lx
 ·exact (lx_two (.inr rfl)).lx
 ·exact lx_word (l:=[97,110,100]) (by decide) (by decide)
 ·exact lx_word (l:=[111,114]) (by decide) (by decide)
theorem prec_bin {op:Int} (h1:5<=op) (h2:op<=16):0<=precF op/\precF op<=4:=by
 obtain h | h | h | h | h | h | h | h | h | h | h | h | h | h | h | h:=ops (by omega:3<=op) (by omega)
 all_goals try omega
 all_goals subst h; decide
theorem lx_leaf {d:Nd} (h:d.op=1 ∨ d.op=2) (hv:vOk d=true) (hn:nmOk d=true) (ts:List (Int × List UInt8)):Lx (txtF d ts) [leafB d]:=by
 unfold txtF leafB
 by_cases h1:d.op=1
 ·rw [if_pos h1,if_pos h1]
  obtain ⟨_,⟨hk,g0,g1,hs⟩ | ⟨hk,g,hs⟩ | ⟨hk,g,g1,g2⟩⟩:=con_nd h1 hv hn
  ·rw [if_pos hk,hk]
   show Lx (Lib.itoa d.n) _
   exact lx_num g0 g1
  ·rw [if_neg (by omega),if_pos hk,hk]
   rcases g with g | g
   ·rw [g]; exact lx_word (l:=falseB) (by decide) (by decide)
   ·rw [g]; exact lx_word (l:=trueB) (by decide) (by decide)
  ·rw [if_neg (by omega),if_neg (by omega),hk]
   show Lx (quoteL d.s.data.toList) _
   exact (lx_quo g1 g2).lx
 ·have h2:d.op=2:=by omega
  rw [if_neg h1,if_pos h2,if_neg h1]
  unfold nmOk nmB at hn
  rw [if_pos h2] at hn
  simp only [Bool.and_eq_true,decide_eq_true_eq] at hn
  exact lx_word hn.1.2 hn.1.1.2
theorem lx_txt:∀ x:Ex,x.okN->Lx (Ex.txt x) (Ex.bt x):=by
 refine Ex.ind fun d l ih => ?_
 intro hok
 obtain ⟨h0,hl⟩:=(okN_mk d l).1 hok
 obtain ⟨ho1,ho2,ha,hv,hn⟩:=node_ok h0
 have ih':∀ x ∈ l,Lx (Ex.txt x) (Ex.bt x):=fun x hx => ih x hx (hl x hx)
 rw [txt_mk,bt_mk]
 unfold btF
 by_cases hlf:d.op=1 ∨ d.op=2
 ·rw [if_pos hlf]; exact lx_leaf hlf hv hn _
 rw [if_neg hlf]
 have e1:(txtL l).map (·.2)=l.map Ex.txt:=by rw [txtL_map,List.map_map]; rfl
 have e2:(btL l).map (·.2)=l.map Ex.bt:=by rw [btL_map,List.map_map]; rfl
 unfold txtF
 rw [if_neg (by omega),if_neg (by omega)]
 by_cases h6:precF d.op=6
 ·rw [if_pos h6,if_pos h6,e1,e2]
  have hop:Lx (signF d.op) [opB d.op]:=by
   obtain h | h | h | h | h | h | h | h | h | h | h | h | h | h | h | h:=ops (by omega:3<=d.op) (by omega)
   all_goals rw [h] at h6 ⊢
   all_goals first | (exfalso; revert h6; decide) | exact lx_word (l:=[105,102]) (by decide) (by decide) | exact lx_word (l:=[108,101,110]) (by decide) (by decide)
  exact (hop.sep (c:=40) (by decide) (LxA.cat (a:=[40]) (lx_sign (by decide) (by decide)) ((lx_commas l ih').sep (c:=41) (b:=[]) (by decide) (lx_sign (by decide) (by decide))))).lx
 rw [if_neg h6,if_neg h6]
 have hlen:=ha
 by_cases h5:precF d.op=5
 ·rw [if_pos h5,if_pos h5]
  have h34:d.op=3 ∨ d.op=4:=by
   obtain h | h | h | h | h | h | h | h | h | h | h | h | h | h | h | h:=ops (by omega:3<=d.op) (by omega)
   all_goals rw [h] at h5 ⊢
   all_goals first | decide | (exfalso; revert h5; decide)
  obtain ⟨x,rfl⟩:∃ x,l=[x]:=by
   have:l.length=1:=by rw [ha]; unfold arity; rcases h34 with h | h <;> rw [h] <;> rfl
   exact List.length_eq_one_iff.1 this
  have hb:=lx_br (p:=5) (op:=x.d.op) (ih' x (by simp))
  rw [txtL_cons,btL_cons]
  show Lx (if d.op=4 then signF d.op ++ (32 :: br 5 (x.d.op,Ex.txt x)) else signF d.op ++ br 5 (x.d.op,Ex.txt x)) (opB d.op :: brB 5 (x.d.op,Ex.bt x))
  rcases h34 with h | h
  ·rw [if_neg (by omega),h]
   exact LxA.cat' (a:=[45]) (lx_sign (by decide) (by decide)) hb
  ·rw [if_pos h,h]
   exact (lx_word (l:=[110,111,116]) (by decide) (by decide)).sep' (c:=32) (by decide) (LxA.cat' (a:=[32]) lx_space hb)
 ·have h34:d.op ≠ 3/\d.op ≠ 4/\d.op ≠ 17/\d.op ≠ 18:=by
   refine ⟨?_,?_,?_,?_⟩
   ·intro h; rw [h] at h5; exact h5 (by decide)
   ·intro h; rw [h] at h5; exact h5 (by decide)
   ·intro h; rw [h] at h6; exact h6 (by decide)
   ·intro h; rw [h] at h6; exact h6 (by decide)
  rw [if_neg h5,if_neg h34.2.1,if_neg h5]
  obtain ⟨x,y,rfl⟩:∃ x y,l=[x,y]:=by
   have:l.length=2:=by rw [ha]; unfold arity; rw [if_neg (by omega),if_neg (by omega),if_neg (by omega)]
   exact len2 this
  have hx:=lx_br (p:=leftF d.op) (op:=x.d.op) (ih' x (by simp))
  have hy:=lx_br (p:=precF d.op + 1) (op:=y.d.op) (ih' y (by simp))
  rw [txtL_cons,btL_cons,txtL_cons,btL_cons]
  show Lx (br (leftF d.op) (x.d.op,Ex.txt x) ++ (32 :: (signF d.op ++ (32 :: br (precF d.op + 1) (y.d.op,Ex.txt y))))) (brB (leftF d.op) (x.d.op,Ex.bt x) ++ (opB d.op :: brB (precF d.op + 1) (y.d.op,Ex.bt y)))
  exact hx.sep' (c:=32) (by decide) (LxA.cat' (a:=[32]) lx_space ((lx_op (by omega) (by omega)).sep' (c:=32) (by decide) (LxA.cat' (a:=[32]) lx_space hy)))
theorem tokens_txt {x:Ex} (h:x.okN) (p:Nat):∃ ts,ts.map Tk.bare=Ex.bt x/\tokens (Ex.txt x) p=.ok ts:=by
 obtain ⟨ts,e,h1⟩:=lx_txt x h [] p Sep.nil
 rw [List.append_nil,tokens_nil,app_ok,List.append_nil] at h1
 exact ⟨ts,e,h1⟩
end PbT
namespace PbP
open ValM LexM ExM ShowM PrM NumM ParseM PbL PsM PbT
set_option linter.unusedVariables false
theorem opAt_none {s:List UInt8} (h:∀ op,3<=op->op < 19->(rwP op).1 ≠ s) (m:Nat):PsM.opAt m s=none:=by
 unfold PsM.opAt
 rw [List.find?_eq_none]
 intro op hop
 rw [List.mem_range] at hop
 simp only [Bool.and_eq_true,decide_eq_true_eq,not_and]
 intro g e
 exact h op g.1 hop e
theorem opsN {op:Nat} (h1:3<=op) (h2:op < 19):op=3 ∨ op=4 ∨ op=5 ∨ op=6 ∨ op=7 ∨ op=8 ∨ op=9 ∨ op=10 ∨ op=11 ∨ op=12 ∨ op=13 ∨ op=14 ∨ op=15 ∨ op=16 ∨ op=17 ∨ op=18:=by omega
theorem name_none {s:List UInt8} (h:nameB s=true) (hk:keyB s=false) (m:Nat):PsM.opAt m s=none:=by
 refine opAt_none (fun op g1 g2 e => ?_) m
 subst e
 obtain h' | h' | h' | h' | h' | h' | h' | h' | h' | h' | h' | h' | h' | h' | h' | h':=opsN g1 g2
 all_goals subst h'
 all_goals first | exact absurd h (by decide) | exact absurd hk (by decide)
theorem head_none {c:UInt8} {r:List UInt8} (h:digB c=true ∨ c=34 ∨ c=116 ∨ c=102) (m:Nat):PsM.opAt m (c :: r)=none:=by
 refine opAt_none (fun op g1 g2 e => ?_) m
 have hc:(rwP op).1.head?=some c:=by rw [e]; rfl
 clear e
 obtain h' | h' | h' | h' | h' | h' | h' | h' | h' | h' | h' | h' | h' | h' | h' | h':=opsN g1 g2
 all_goals
  subst h'
  rcases h with h | h | h | h
  ·revert hc; show some _=some c->False; intro hc; injection hc with hc; subst hc; revert h; decide
  ·subst h; revert hc; decide
  ·subst h; revert hc; decide
  ·subst h; revert hc; decide
theorem par_none:(∀ m,PsM.opAt m [40]=none)/\(∀ m,PsM.opAt m [41]=none)/\∀ m,PsM.opAt m [44]=none:=by
 refine ⟨fun m => opAt_none (fun op g1 g2 e => ?_) m,fun m => opAt_none (fun op g1 g2 e => ?_) m,fun m => opAt_none (fun op g1 g2 e => ?_) m⟩
 all_goals
  obtain h' | h' | h' | h' | h' | h' | h' | h' | h' | h' | h' | h' | h' | h' | h' | h':=opsN g1 g2
  all_goals subst h'; revert e; decide
theorem bin_at {op:Int} (h1:5<=op) (h2:op<=16):PsM.opAt (precF op).toNat (signF op)=some op.toNat/\∀ m,m < 5->m ≠ (precF op).toNat->PsM.opAt m (signF op)=none:=by
 obtain h | h | h | h | h | h | h | h | h | h | h | h | h | h | h | h:=ops (by omega:3<=op) (by omega)
 all_goals try omega
 all_goals
  subst h
  refine ⟨by decide,fun m hm hne => ?_⟩
  obtain rfl | rfl | rfl | rfl | rfl:m=0 ∨ m=1 ∨ m=2 ∨ m=3 ∨ m=4:=by omega
  all_goals first | decide | exact absurd rfl hne
theorem op_s (op:Int):(opB op).2.1=signF op:=by unfold opB; split <;> rfl
theorem bare_s {t:Tk} {b:B} (h:t.bare=b):t.s=b.2.1:=by subst h; rfl
def Clear (q:Nat) (r:List Tk):Prop:=∀ m,q<=m->m < 5->∀ t r',r=t :: r'->PsM.opAt m t.s=none
theorem Clear.mono {q q':Nat} {r:List Tk} (h:Clear q r) (hq:q<=q'):Clear q' r:=fun m h1 h2 => h m (by omega) h2
theorem Clear.nil (q:Nat):Clear q []:=fun _ _ _ _ _ h => by cases h
theorem Clear.of {q:Nat} {t:Tk} {r:List Tk} (h:∀ m,PsM.opAt m t.s=none):Clear q (t :: r):=fun m _ _ t' r' e => by injection e with e _; subst e; exact h m
def pN (x:Ex):Nat:=min 5 (precF x.d.op).toNat
def topN (x:Ex):Nat:=if 5<=pN x then 5 else if pN x=2 then 2 else pN x + 1
def Rd (x:Ex):Prop:=∀ (q:Nat) (ts r:List Tk) (o:Out),ts.map Tk.bare=Ex.bt x->q<=pN x->Clear (pN x + 1) r->Ch q (topN x) x r o->Ev (.form q) (ts ++ r) o
theorem top_le (x:Ex):topN x<=5/\pN x<=topN x:=by
 have h:pN x<=5:=Nat.min_le_left _ _
 unfold topN
 split
 ·omega
 ·split <;> omega
theorem ch_clear {q h:Nat} {x:Ex} {r:List Tk} (h5:h<=5) (hc:Clear q r):Ch q h x r (.ok [x] r):=chain_none fun p h1 h2 t r' e => hc p h1 (by omega) t r' e
theorem Rd.clear {x:Ex} (h:Rd x) {q:Nat} {ts r:List Tk} (e:ts.map Tk.bare=Ex.bt x) (hq:q<=pN x) (hc:Clear q r):Ev (.form q) (ts ++ r) (.ok [x] r) :=
 h q ts r _ e hq (hc.mono (by omega)) (ch_clear (top_le x).1 hc)
theorem Rd.paren {x:Ex} (h:Rd x) {ts r:List Tk} (e:ts.map Tk.bare=sg [40] :: (Ex.bt x ++ [sg [41]])):Ev (.form 5) (ts ++ r) (.ok [x] r):=by
 obtain ⟨a,us,rfl,ha,hu⟩:=List.map_eq_cons_iff.1 e
 obtain ⟨m,b,rfl,hm,hb⟩:=List.map_eq_append_iff.1 hu
 obtain ⟨b,rfl,hb'⟩:=List.map_eq_singleton_iff.1 hb
 have ea:=bare_s ha
 have eb:=bare_s hb'
 have e0:(a :: (m ++ [b]) ++ r)=a :: (m ++ (b :: r)):=by simp
 rw [e0]
 refine ev_paren (by rw [ea]; exact par_none.1 5) ea ?_
 have h1:=h.clear (q:=0) (r:=b :: r) hm (Nat.zero_le _) (Clear.of fun k => by rw [eb]; exact par_none.2.1 k)
 exact ev_list_last (acc:=[]) h1 (by simp) (by simp [isNext,eb]; rfl)
theorem Rd.operand {x:Ex} (h:Rd x) {q:Nat} {p:Int} (hp:p=(q:Int)) (h5:q<=5) {ts r:List Tk} (e:ts.map Tk.bare=brB p (x.d.op,Ex.bt x)) (hc:Clear q r):Ev (.form q) (ts ++ r) (.ok [x] r):=by
 unfold brB at e
 split at e
 ·exact form_of_chain h5 (Nat.le_refl _) (h.paren e) (ch_clear (Nat.le_refl _) hc)
 ·rename_i hn
  simp only at hn
  exact h.clear e (by unfold pN; omega) hc
theorem Rd.left {x:Ex} (h:Rd x) {q p lf:Nat} {l:Int} (hl:l=(lf:Int)) (hqp:q<=p) (hp:p < 5) (hlf:lf=if p=2 then 3 else p) {ts r:List Tk} {t:Tk} {o:Out} (e:ts.map Tk.bare=brB l (x.d.op,Ex.bt x))
  (hn:∀ m,m < 5->m ≠ p->PsM.opAt m t.s=none) (hc:Ch q (p + 1) x (t :: r) o):Ev (.form q) (ts ++ t :: r) o:=by
 unfold brB at e
 split at e
 ·exact form_of_chain (by omega) (Nat.le_refl _) (h.paren e) (chain_skip hqp hp (fun m h1 h2 => hn m h2 (by omega)) hc)
 ·rename_i hb
  simp only at hb
  have hlp:lf<=pN x:=by
   unfold pN
   split at hlf <;> omega
  have hpp:p<=pN x:=by split at hlf <;> omega
  have htop:p < topN x:=by
   unfold topN
   split
   ·omega
   ·split
    ·split at hlf <;> omega
    ·omega
  refine h q ts (t :: r) o e (by omega) (fun m h1 h2 t' r' e' => ?_) (chain_skip hqp htop (fun m h1 h2 => hn m (by have:=(top_le x).1; omega) (by omega)) hc)
  injection e' with e' _; subst e'
  exact hn m h2 (by omega)
theorem list_ev:∀ (l:List Ex),(∀ x ∈ l,Rd x)->l ≠ []->∀ (acc:List Ex) (ts r:List Tk) (c:Tk) (n:Nat),n=acc.length + l.length->ts.map Tk.bare=commasB (l.map Ex.bt)->c.s=[41]->Ev (.list n acc) (ts ++ c :: r) (.ok (acc ++ l) r)
 | [],_,hne,_,_,_,_,_,_,_,_ => absurd rfl hne
 | [x],hR,_,acc,ts,r,c,n,hn,e,hc => by
  have h1:=(hR x (by simp)).clear (q:=0) (r:=c :: r) (show ts.map Tk.bare=Ex.bt x from e) (Nat.zero_le _) (Clear.of fun k => by rw [hc]; exact par_none.2.1 k)
  exact ev_list_last h1 (by simp at hn; omega) (by simp [isNext,hc])
 | x :: y :: l,hR,_,acc,ts,r,c,n,hn,e,hc => by
  obtain ⟨t1,u,rfl,h1,hu⟩:=List.map_eq_append_iff.1 (show ts.map Tk.bare=Ex.bt x ++ (sg [44] :: commasB ((y :: l).map Ex.bt)) from e)
  obtain ⟨k,t2,rfl,hk,h2⟩:=List.map_eq_cons_iff.1 hu
  have ek:=bare_s hk
  have g1:=(hR x (by simp)).clear (q:=0) (r:=k :: (t2 ++ c :: r)) h1 (Nat.zero_le _) (Clear.of fun j => by rw [ek]; exact par_none.2.2 j)
  have g2:=list_ev (y :: l) (fun z hz => hR z (by simp only [List.mem_cons] at hz ⊢; exact .inr hz)) (by simp) (acc ++ [x]) t2 r c n (by simp at hn ⊢; omega) h2 hc
  have e0:t1 ++ k :: t2 ++ c :: r=t1 ++ k :: (t2 ++ c :: r):=by simp
  rw [e0]
  have e1:acc ++ (x :: y :: l)=acc ++ [x] ++ (y :: l):=by simp
  rw [e1]
  exact ev_list_more g1 (by simp at hn; omega) (by simp [isNext,ek]; rfl) g2
theorem leaf_ev {d:Nd} (h:d.op=1 ∨ d.op=2) (hv:vOk d=true) (hn:nmOk d=true) {t:Tk} (e:t.bare=leafB d) (r:List Tk):Ev (.form 5) (t :: r) (.ok [.mk d []] r):=by
 have ek:t.kind=(leafB d).1:=by rw [← e]; rfl
 have es:t.s=(leafB d).2.1:=by rw [← e]; rfl
 have ev:t.vk=(leafB d).2.2.1:=by rw [← e]; rfl
 have en:t.n=(leafB d).2.2.2.1:=by rw [← e]; rfl
 have et:t.t=(leafB d).2.2.2.2:=by rw [← e]; rfl
 obtain ⟨op,k,n,s,nm⟩:=d
 by_cases h1:op=1
 ·subst h1
  obtain ⟨hnm,⟨hk,g0,g1,hs⟩ | ⟨hk,g,hs⟩ | ⟨hk,g,g1,g2⟩⟩:=con_nd rfl hv hn
  ·simp only at hnm hk g0 g1 hs; subst hnm hk hs
   have hl:leafB ⟨1,1,n,⟨#[]⟩,⟨#[]⟩⟩=(1,Lib.itoa n,1,n,[]):=rfl
   rw [hl] at ek es ev en et
   obtain ⟨c,r',hc,g2,g3⟩:=dec_head n.toNat
   have hs:t.s=c :: r':=by rw [es,← hc]; show Lib.itoa n=_; unfold Lib.itoa; rw [if_neg (by omega)]
   have hd:digB c=true:=by unfold digB; simp [g2,g3]
   refine ev_leaf (by rw [hs]; exact head_none (.inl hd) 5) (by rw [hs]; intro g; injection g with g _; subst g; exact absurd hd (by decide)) (by rw [hs]; exact head_none (.inl hd) 6) ?_
   unfold leafN
   rw [if_pos (.inl ek),ev,en,et]
  ·simp only at hnm hk g hs; subst hnm hk hs
   have hl:leafB ⟨1,2,n,⟨#[]⟩,⟨#[]⟩⟩=word (showL 2 n []):=rfl
   rw [hl] at ek es
   have ek:t.kind=2:=ek
   rcases g with g | g
   ·subst g
    have hs:t.s=falseB:=es
    refine ev_leaf (by rw [hs]; exact head_none (.inr (.inr (.inr rfl))) 5) (by rw [hs]; decide) (by rw [hs]; exact head_none (.inr (.inr (.inr rfl))) 6) ?_
    unfold leafN
    rw [if_neg (by omega),hs,if_neg (by decide),if_pos rfl]
   ·subst g
    have hs:t.s=trueB:=es
    refine ev_leaf (by rw [hs]; exact head_none (.inr (.inr (.inl rfl))) 5) (by rw [hs]; decide) (by rw [hs]; exact head_none (.inr (.inr (.inl rfl))) 6) ?_
    unfold leafN
    rw [if_neg (by omega),hs,if_pos rfl]
  ·simp only at hnm hk g g1 g2; subst hnm hk g
   have hl:leafB ⟨1,3,0,s,⟨#[]⟩⟩=(3,quoteL s.data.toList,3,0,s.data.toList):=rfl
   rw [hl] at ek es ev en et
   have hs:t.s=34 :: (escL s.data.toList ++ [34]):=es
   refine ev_leaf (by rw [hs]; exact head_none (.inr (.inl rfl)) 5) (by rw [hs]; intro g; injection g with g _; exact absurd g (by decide)) (by rw [hs]; exact head_none (.inr (.inl rfl)) 6) ?_
   unfold leafN
   rw [if_pos (.inr ek),ev,en,et]
 ·have h2:op=2:=by simp only at h; omega
  subst h2
  have hv':=hv
  unfold vOk at hv'
  unfold nmOk nmB at hn
  rw [if_neg (by show ¬ (2:Int)=1; decide)] at hv'
  rw [if_pos rfl] at hn
  simp only [Bool.and_eq_true,decide_eq_true_eq,Bool.not_eq_true'] at hn hv'
  obtain ⟨⟨⟨_,h10⟩,hnb⟩,hkb⟩:=hn
  obtain ⟨⟨hk0,hn0⟩,hs0⟩:=hv'
  have hs0:=bytes_nil hs0
  subst hk0 hn0 hs0
  have hl:leafB ⟨2,0,0,⟨#[]⟩,nm⟩=word nm.data.toList:=rfl
  rw [hl] at ek es
  have ek:t.kind=2:=ek
  have es:t.s=nm.data.toList:=es
  refine ev_leaf (by rw [es]; exact name_none hnb hkb 5) (by rw [es]; intro g; rw [g] at hnb; exact absurd hnb (by decide)) (by rw [es]; exact name_none hnb hkb 6) ?_
  unfold leafN
  rw [if_neg (by omega),es,if_neg (fun g => by rw [g] at hkb; exact absurd hkb (by decide)),if_neg (fun g => by rw [g] at hkb; exact absurd hkb (by decide)),if_pos ⟨ek,hkb⟩]
theorem p5_of {x:Ex} (h:5<=precF x.d.op):pN x=5/\topN x=5:=by
 have h1:pN x=5:=by unfold pN; omega
 exact ⟨h1,by unfold topN; rw [if_pos (by omega)]⟩
theorem opN_nd {d:Nd} {l:List Ex} (h0:0<=d.op) (h:d=⟨d.op,0,0,⟨#[]⟩,⟨#[]⟩⟩):opN d.op.toNat l=.mk d l:=by
 unfold opN
 have:((d.op.toNat:Nat):Int)=d.op:=by omega
 rw [this]
 exact congrArg (fun z => Ex.mk z l) h.symm
theorem rd_all:∀ x:Ex,x.okN->Rd x:=by
 refine Ex.ind fun d l ih => ?_
 intro hok
 obtain ⟨h0,hl⟩:=(okN_mk d l).1 hok
 obtain ⟨ho1,ho2,ha,hv,hn⟩:=node_ok h0
 have ih':∀ x ∈ l,Rd x:=fun x hx => ih x hx (hl x hx)
 intro q ts r o e hq hcl hch
 rw [bt_mk] at e
 unfold btF at e
 by_cases hlf:d.op=1 ∨ d.op=2
 ·rw [if_pos hlf] at e
  obtain ⟨t,rfl,ht⟩:=List.map_eq_singleton_iff.1 e
  have hl0:l=[]:=by
   have:l.length=0:=by rw [ha]; unfold arity; rw [if_pos hlf]
   exact List.length_eq_zero_iff.1 this
  subst hl0
  obtain ⟨p1,p2⟩:=p5_of (x:=.mk d []) (by show 5<=precF d.op; rcases hlf with h | h <;> rw [h] <;> decide)
  rw [p2] at hch
  exact form_of_chain (by omega) (Nat.le_refl _) (leaf_ev hlf hv hn ht r) hch
 rw [if_neg hlf] at e
 have hnd:=op_nd (by omega) (by omega) hv hn
 have hb2:(btL l).map (·.2)=l.map Ex.bt:=by rw [btL_map,List.map_map]; rfl
 by_cases h6:precF d.op=6
 ·rw [if_pos h6,hb2] at e
  obtain ⟨t,u,rfl,ht,hu⟩:=List.map_eq_cons_iff.1 e
  obtain ⟨a,u,rfl,hA,hu⟩:=List.map_eq_cons_iff.1 hu
  obtain ⟨m,b,rfl,hm,hb⟩:=List.map_eq_append_iff.1 hu
  obtain ⟨b,rfl,hb'⟩:=List.map_eq_singleton_iff.1 hb
  have et:=(bare_s ht).trans (op_s d.op)
  have eA:=bare_s hA
  have eb:=bare_s hb'
  have h1718:d.op=17 ∨ d.op=18:=by
   obtain h | h | h | h | h | h | h | h | h | h | h | h | h | h | h | h:=ops (by omega:3<=d.op) (by omega)
   all_goals rw [h] at h6 ⊢
   all_goals first | decide | (exfalso; revert h6; decide)
  obtain ⟨p1,p2⟩:=p5_of (x:=.mk d l) (by show 5<=precF d.op; omega)
  rw [p2] at hch
  have hsgn:PsM.opAt 5 (signF d.op)=none/\signF d.op ≠ [40]/\PsM.opAt 6 (signF d.op)=some d.op.toNat:=by
   rcases h1718 with h | h <;> rw [h] <;> decide
  have har:l.length=arity ((d.op.toNat:Nat):Int):=by rw [ha]; congr 1; omega
  have hne:l ≠ []:=fun g => by rw [g] at ha; rcases h1718 with h | h <;> rw [h] at ha <;> exact absurd ha (by decide)
  have g1:=list_ev l ih' hne [] m r b (arity ((d.op.toNat:Nat):Int)) (by rw [← har]; simp) hm eb
  have g2:Ev (.form 5) (t :: (a :: (m ++ b :: r))) (wrap d.op.toNat (.ok ([] ++ l) r)):=ev_call (by rw [et]; exact hsgn.1) (by rw [et]; exact hsgn.2.1) (by rw [et]; exact hsgn.2.2) (by simp [isNext,eA]; rfl) g1
  have e0:t :: a :: (m ++ [b]) ++ r=t :: (a :: (m ++ b :: r)):=by simp
  rw [e0]
  refine form_of_chain (by omega) (Nat.le_refl _) (x:=.mk d l) ?_ hch
  have e3:wrap d.op.toNat (.ok ([] ++ l) r)=.ok [.mk d l] r:=by
   show Out.ok [opN d.op.toNat l] r=_
   rw [opN_nd (by omega) hnd]
  rw [← e3]; exact g2
 rw [if_neg h6] at e
 by_cases h5:precF d.op=5
 ·rw [if_pos h5] at e
  have h34:d.op=3 ∨ d.op=4:=by
   obtain h | h | h | h | h | h | h | h | h | h | h | h | h | h | h | h:=ops (by omega:3<=d.op) (by omega)
   all_goals rw [h] at h5 ⊢
   all_goals first | decide | (exfalso; revert h5; decide)
  obtain ⟨x,rfl⟩:∃ x,l=[x]:=by
   have:l.length=1:=by rw [ha]; unfold arity; rcases h34 with h | h <;> rw [h] <;> rfl
   exact List.length_eq_one_iff.1 this
  rw [btL_cons] at e
  obtain ⟨t,u,rfl,ht,hu⟩:=List.map_eq_cons_iff.1 (show ts.map Tk.bare=opB d.op :: brB 5 (x.d.op,Ex.bt x) from e)
  have et:=(bare_s ht).trans (op_s d.op)
  obtain ⟨p1,p2⟩:=p5_of (x:=.mk d [x]) (by show 5<=precF d.op; omega)
  rw [p2] at hch
  have g1:=(ih' x (by simp)).operand (q:=5) (p:=5) rfl (Nat.le_refl _) (r:=r) hu (fun m h1 h2 => by omega)
  have g2:Ev (.form 5) (t :: (u ++ r)) (wrap d.op.toNat (.ok [x] r)):=ev_prefix (by rw [et]; rcases h34 with h | h <;> rw [h] <;> decide) g1
  refine form_of_chain (by omega) (Nat.le_refl _) (x:=.mk d [x]) ?_ hch
  have e3:wrap d.op.toNat (.ok [x] r)=.ok [.mk d [x]] r:=by
   show Out.ok [opN d.op.toNat [x]] r=_
   rw [opN_nd (by omega) hnd]
  rw [← e3]; exact g2
 ·rw [if_neg h5] at e
  have h34:d.op ≠ 3/\d.op ≠ 4/\d.op ≠ 17/\d.op ≠ 18:=by
   refine ⟨?_,?_,?_,?_⟩
   ·intro h; rw [h] at h5; exact h5 (by decide)
   ·intro h; rw [h] at h5; exact h5 (by decide)
   ·intro h; rw [h] at h6; exact h6 (by decide)
   ·intro h; rw [h] at h6; exact h6 (by decide)
  obtain ⟨x,y,rfl⟩:∃ x y,l=[x,y]:=by
   have:l.length=2:=by rw [ha]; unfold arity; rw [if_neg (by omega),if_neg (by omega),if_neg (by omega)]
   exact len2 this
  rw [btL_cons,btL_cons] at e
  obtain ⟨t1,u,rfl,h1,hu⟩:=List.map_eq_append_iff.1 (show ts.map Tk.bare=brB (leftF d.op) (x.d.op,Ex.bt x) ++ (opB d.op :: brB (precF d.op + 1) (y.d.op,Ex.bt y)) from e)
  obtain ⟨t,t2,rfl,ht,h2⟩:=List.map_eq_cons_iff.1 hu
  have et:=(bare_s ht).trans (op_s d.op)
  obtain ⟨hb1,hb2'⟩:=prec_bin (op:=d.op) (by omega) (by omega)
  obtain ⟨hs1,hs2⟩:=bin_at (op:=d.op) (by omega) (by omega)
  obtain ⟨p,hp⟩:∃ p:Nat,(precF d.op).toNat=p:=⟨_,rfl⟩
  have hpi:precF d.op=(p:Int):=by omega
  rw [hp] at hs1 hs2
  rw [← et] at hs1 hs2
  have hpn:pN (.mk d [x,y])=p:=by show min 5 (precF d.op).toNat=p; rw [hp]; omega
  have htop:topN (.mk d [x,y])=if p=2 then p else p + 1:=by
   unfold topN; rw [hpn,if_neg (by omega)]
   split
   ·rename_i h; rw [h]
   ·rfl
  rw [hpn] at hq hcl
  rw [htop] at hch
  have gy:=(ih' y (by simp)).operand (q:=p + 1) (p:=precF d.op + 1) (by omega) (by omega) (r:=r) h2 hcl
  have hop:opN d.op.toNat [x,y]=.mk d [x,y]:=opN_nd (by omega) hnd
  have hchain:Ch q (p + 1) x (t :: (t2 ++ r)) o:=chain_op hq hs1 gy (by rw [hop]; exact hch)
  have e0:t1 ++ t :: t2 ++ r=t1 ++ t :: (t2 ++ r):=by simp
  rw [e0]
  refine (ih' x (by simp)).left (lf:=if p=2 then 3 else p) (l:=leftF d.op) ?_ hq (by omega) rfl h1 hs2 hchain
  unfold leftF
  rw [hpi]
  split
  ·rename_i h; rw [if_pos (by omega)]; omega
  ·rename_i h; rw [if_neg (by omega)]
theorem read_txt {x:Ex} (h:x.okN) (hl:(Ex.txt x).length<=160):∃ ts,lexR (Ex.txt x)=(ts,0,0)/\Ev (.form 0) ts (.ok [x] []):=by
 obtain ⟨ts,e,ht⟩:=tokens_txt h 0
 refine ⟨ts,by rw [lexR_of hl,ht]; rfl,?_⟩
 have:=(rd_all x h).clear (q:=0) (r:=[]) e (Nat.zero_le _) (Clear.nil 0)
 rw [List.append_nil] at this
 exact this
end PbP
namespace PbN
open ValM LexM ExM ShowM PrM NumM ParseM PbL PsM PbT PbP PsLx
set_option linter.unusedVariables false
end PbN
namespace TxM
open ValM LexM ExM ShowM PrM
set_option linter.unusedVariables false
def kdW (k:Int):List UInt8:=if k=1 then [105,110,112,117,116,32] else if k=2 then [102,111,114,109,117,108,97,32] else if k=3 then [108,111,111,107,117,112,32] else []
def tyW (t:Int):List UInt8:=if t=1 then [32,105,110,116] else if t=2 then [32,98,111,111,108] else if t=3 then [32,116,101,120,116] else []
abbrev eqW:List UInt8:=[32,61,32]
abbrev pgW:List UInt8:=[112,97,103,101,32]
abbrev coW:List UInt8:=[58,32]
abbrev seW:List UInt8:=[59,32]
abbrev cmW:List UInt8:=[44,32]
def fieldL (nm:List UInt8) (k t:Int) (src:List UInt8):List UInt8:=kdW k ++ (nm ++ (tyW t ++ (if 1 < k then eqW ++ src else [])))
def skL:Option (List UInt8)->List UInt8
 | none => []
 | some s => seW ++ s
def pageL (nm:List UInt8) (fs:List (List UInt8)) (skip:Option (List UInt8)):List UInt8:=pgW ++ (nm ++ (coW ++ (commas fs ++ skL skip)))
def joinN:List (List UInt8)->List UInt8
 | [] => []
 | [a] => a
 | a :: r => a ++ (10 :: joinN r)
inductive Ln
 | field (nm:List UInt8) (k t:Int) (src:Option (List UInt8))
 | page (nm:List UInt8) (fs:List (List UInt8)) (skip:Option (List UInt8))
 | bad (pg:Bool)
def cutO (l sep:List UInt8):Option (List UInt8 × List UInt8):=if Lib.index l sep=-1 then none else some (l.take (Lib.index l sep).toNat,l.drop ((Lib.index l sep).toNat + sep.length))
def kts:List (Int × Int):=[(1,1),(1,2),(1,3),(2,1),(2,2),(2,3),(3,1),(3,2),(3,3)]
def isHd (l:List UInt8) (p:Int × Int):Bool:=Lib.hasPrefix l (kdW p.1) && Lib.hasSuffix l (tyW p.2) && decide ((kdW p.1).length + (tyW p.2).length < l.length)
def midL (l:List UInt8) (p:Int × Int):List UInt8:=(l.take (l.length - (tyW p.2).length)).drop (kdW p.1).length
def headO (l:List UInt8):Option (Int × Int):=kts.find? (isHd l)
def lineV (l:List UInt8):Ln :=
 if Lib.hasPrefix l pgW=true then
  match cutO (l.drop 5) coW with
  | none => .bad true
  | some (nm,r) =>
   if nmB nm=true then
    (if ((if ((cutO r seW).map (·.1)).getD r=[] then [] else Lib.split (((cutO r seW).map (·.1)).getD r) cmW).all nmB)=true then .page nm (if ((cutO r seW).map (·.1)).getD r=[] then [] else Lib.split (((cutO r seW).map (·.1)).getD r) cmW) ((cutO r seW).map (·.2)) else .bad true)
   else .bad true
 else
  match headO (((cutO l eqW).map (·.1)).getD l) with
  | none => .bad false
  | some p =>
   if nmB (midL (((cutO l eqW).map (·.1)).getD l) p)=true/\(cutO l eqW).isSome=decide (1 < p.1) then .field (midL (((cutO l eqW).map (·.1)).getD l) p) p.1 p.2 ((cutO l eqW).map (·.2)) else .bad false
theorem occ_head {s sub:List UInt8} {i:Nat} {c:UInt8} {t:List UInt8} (hs:sub=c :: t) (h:s[i]? ≠ some c):Lib.occAt s sub i=false:=by
 cases h2:Lib.occAt s sub i with
 | false => rfl
 | true => exact absurd (Lib.occAt_head hs h2) h
theorem occ_second {s sub:List UInt8} {i:Nat} {c d:UInt8} {t:List UInt8} (hs:sub=c :: d :: t) (h:s[i + 1]? ≠ some d):Lib.occAt s sub i=false:=by
 cases h2:Lib.occAt s sub i with
 | false => rfl
 | true => exact absurd (Lib.occAt_second hs h2) h
theorem occ_here (a sep r:List UInt8):Lib.occAt (a ++ (sep ++ r)) sep a.length=true:=by
 unfold Lib.occAt
 rw [List.drop_left]
 exact List.isPrefixOf_iff_prefix.2 ⟨r,rfl⟩
theorem index_piece {a sep r:List UInt8} {c:UInt8} {t:List UInt8} (hs:sep=c :: t) (ha:c ∉ a):Lib.index (a ++ (sep ++ r)) sep=(a.length:Int) :=
 Lib.index_first (by simp) (occ_here a sep r) fun j hj => occ_head hs (by
  rw [List.getElem?_append_left hj]
  intro e
  exact ha (List.mem_of_getElem? e))
theorem index_no {a sep:List UInt8} {c:UInt8} {t:List UInt8} (hs:sep=c :: t) (ha:c ∉ a):Lib.index a sep=-1 :=
 Lib.index_none fun j _ => occ_head hs fun e => ha (List.mem_of_getElem? e)
theorem index_piece2 {a sep r:List UInt8} {c d:UInt8} {t:List UInt8} (hs:sep=c :: d :: t) (hcd:c ≠ d) (ha:d ∉ a):Lib.index (a ++ (sep ++ r)) sep=(a.length:Int) :=
 Lib.index_first (by simp) (occ_here a sep r) fun j hj => occ_second hs (by
  intro e
  rcases Nat.lt_or_ge (j + 1) a.length with h | h
  ·rw [List.getElem?_append_left h] at e
   exact ha (List.mem_of_getElem? e)
  ·rw [List.getElem?_append_right h,show j + 1 - a.length=0 by omega,hs] at e
   simp at e
   exact hcd e)
theorem index_no2 {a sep:List UInt8} {c d:UInt8} {t:List UInt8} (hs:sep=c :: d :: t) (ha:d ∉ a):Lib.index a sep=-1 :=
 Lib.index_none fun j _ => occ_second hs fun e => ha (List.mem_of_getElem? e)
theorem cut_at {a sep r:List UInt8} (h:Lib.index (a ++ (sep ++ r)) sep=(a.length:Int)):cutO (a ++ (sep ++ r)) sep=some (a,r):=by
 unfold cutO
 rw [if_neg (by rw [h]; omega),h]
 simp [List.drop_append]
theorem cut_no {a sep:List UInt8} (h:Lib.index a sep=-1):cutO a sep=none:=by unfold cutO; rw [if_pos h]
def joinS (sep:List UInt8):List (List UInt8)->List UInt8
 | [] => []
 | [a] => a
 | a :: b :: r => a ++ (sep ++ joinS sep (b :: r))
theorem joinN_eq:∀ l:List (List UInt8),joinN l=joinS [10] l
 | [] => rfl
 | [a] => rfl
 | a :: b :: r => by show a ++ (10 :: joinN (b :: r))=a ++ ([10] ++ joinS [10] (b :: r)); rw [joinN_eq (b :: r)]; rfl
theorem commas_eq:∀ l:List (List UInt8),commas l=joinS cmW l
 | [] => rfl
 | [a] => rfl
 | a :: b :: r => by show a ++ ([44,32] ++ commas (b :: r))=a ++ (cmW ++ joinS cmW (b :: r)); rw [commas_eq (b :: r)]
theorem join_len (sep:List UInt8) (h:sep ≠ []):∀ (a:List UInt8) (r:List (List UInt8)),r.length<=(joinS sep (a :: r)).length
 | a,[] => Nat.zero_le _
 | a,b :: r => by
  have:=join_len sep h b r
  have hp:0 < sep.length:=List.length_pos_iff.2 h
  show r.length + 1<=(a ++ (sep ++ joinS sep (b :: r))).length
  simp only [List.length_append]; omega
theorem count_join {sep:List UInt8} {c:UInt8} {t:List UInt8} (hs:sep=c :: t):∀ (a:List UInt8) (r:List (List UInt8)) (fuel:Nat),(∀ p ∈ a :: r,c ∉ p)->r.length < fuel->Lib.countFrom sep fuel (joinS sep (a :: r))=r.length
 | a,[],fuel,h,hf => by
  cases fuel with
  | zero => omega
  | succ f =>
   show (if Lib.index a sep == -1 then 0 else _)=0
   rw [index_no hs (h a (by simp))]; rfl
 | a,b :: r,fuel,h,hf => by
  cases fuel with
  | zero => omega
  | succ f =>
   have hi:Lib.index (a ++ (sep ++ joinS sep (b :: r))) sep=(a.length:Int):=index_piece hs (h a (by simp))
   show (if Lib.index (a ++ (sep ++ joinS sep (b :: r))) sep == -1 then 0 else 1 + Lib.countFrom sep f ((a ++ (sep ++ joinS sep (b :: r))).drop ((Lib.index (a ++ (sep ++ joinS sep (b :: r))) sep).toNat + sep.length)))=r.length + 1
   rw [hi,if_neg (by simp)]
   have e:(a ++ (sep ++ joinS sep (b :: r))).drop (((a.length:Int)).toNat + sep.length)=joinS sep (b :: r):=by simp [List.drop_append]
   rw [e,count_join hs b r f (fun p hp => h p (by simp at hp ⊢; exact .inr hp)) (by simp at hf; omega)]
   omega
theorem splitK_join {sep:List UInt8} {c:UInt8} {t:List UInt8} (hs:sep=c :: t):∀ (a:List UInt8) (r:List (List UInt8)),(∀ p ∈ a :: r,c ∉ p)->Lib.splitK sep 0 r.length (joinS sep (a :: r))=a :: r
 | a,[],h => rfl
 | a,b :: r,h => by
  have hi:Lib.index (a ++ (sep ++ joinS sep (b :: r))) sep=(a.length:Int):=index_piece hs (h a (by simp))
  show (if Lib.index (a ++ (sep ++ joinS sep (b :: r))) sep == -1 then _ else (a ++ (sep ++ joinS sep (b :: r))).take ((Lib.index (a ++ (sep ++ joinS sep (b :: r))) sep).toNat + 0) :: Lib.splitK sep 0 r.length ((a ++ (sep ++ joinS sep (b :: r))).drop ((Lib.index (a ++ (sep ++ joinS sep (b :: r))) sep).toNat + sep.length)))=_
  rw [hi,if_neg (by simp)]
  have e:(a ++ (sep ++ joinS sep (b :: r))).drop (((a.length:Int)).toNat + sep.length)=joinS sep (b :: r):=by simp [List.drop_append]
  rw [e,splitK_join hs b r (fun p hp => h p (by simp at hp ⊢; exact .inr hp))]
  simp
theorem split_join {sep:List UInt8} {c:UInt8} {t:List UInt8} (hs:sep=c :: t) (a:List UInt8) (r:List (List UInt8)) (h:∀ p ∈ a :: r,c ∉ p):Lib.split (joinS sep (a :: r)) sep=a :: r:=by
 unfold Lib.split Lib.count
 rw [count_join hs a r _ h (by have:=join_len sep (by rw [hs]; simp) a r; omega)]
 exact splitK_join hs a r h
theorem nmB_parts {l:List UInt8} (h:nmB l=true):l ≠ []/\l.length<=10/\∀ c ∈ l,alnB c=true:=by
 unfold nmB at h
 simp only [Bool.and_eq_true,Bool.not_eq_true',decide_eq_true_eq] at h
 obtain ⟨⟨⟨h1,h2⟩,h3⟩,_⟩:=h
 refine ⟨fun e => by subst e; simp at h1,h2,fun c hc => ?_⟩
 cases l with
 | nil => simp at hc
 | cons a r =>
  unfold nameB at h3
  simp only [Bool.and_eq_true] at h3
  rcases List.mem_cons.1 hc with rfl | hc
  ·unfold alnB; rw [h3.1]; rfl
  ·exact List.all_eq_true.1 h3.2 c hc
theorem aln_not {c:UInt8} (h:alnB c=true):c ≠ 10/\c ≠ 32/\c ≠ 44/\c ≠ 58/\c ≠ 59/\c ≠ 61:=by
 refine ⟨?_,?_,?_,?_,?_,?_⟩ <;> (intro e; subst e; exact absurd h (by decide))
theorem kt_cases {k:Int} (h:1<=k/\k<=3):k=1 ∨ k=2 ∨ k=3:=by omega
theorem kd_not (k:Int):∀ c ∈ kdW k,c ≠ 10/\c ≠ 61:=by
 unfold kdW
 split
 ·decide
 ·split
  ·decide
  ·split
   ·decide
   ·intro c hc; simp at hc
theorem ty_not (t:Int):∀ c ∈ tyW t,c ≠ 10/\c ≠ 61:=by
 unfold tyW
 split
 ·decide
 ·split
  ·decide
  ·split
   ·decide
   ·intro c hc; simp at hc
theorem pre_iff {a p:List UInt8}:Lib.hasPrefix a p=true ↔ p <+: a:=by unfold Lib.hasPrefix; exact List.isPrefixOf_iff_prefix
theorem suf_iff {a p:List UInt8}:Lib.hasSuffix a p=true ↔ p <:+ a:=by unfold Lib.hasSuffix; exact List.isSuffixOf_iff_suffix
theorem head_of {nm:List UInt8} {k t:Int} (hn:nm ≠ []) (hk:1<=k/\k<=3) (ht:1<=t/\t<=3):headO (kdW k ++ (nm ++ tyW t))=some (k,t)/\midL (kdW k ++ (nm ++ tyW t)) (k,t)=nm:=by
 have hp:0 < nm.length:=List.length_pos_iff.2 hn
 have hyes:isHd (kdW k ++ (nm ++ tyW t)) (k,t)=true:=by
  unfold isHd
  simp only [Bool.and_eq_true,decide_eq_true_eq]
  refine ⟨⟨pre_iff.2 ⟨_,rfl⟩,suf_iff.2 ⟨kdW k ++ nm,by rw [List.append_assoc]⟩⟩,?_⟩
  simp only [List.length_append]; omega
 have hother:∀ p ∈ kts,isHd (kdW k ++ (nm ++ tyW t)) p=true->p=(k,t):=fun p hp h => by
  unfold isHd at h
  simp only [Bool.and_eq_true,decide_eq_true_eq] at h
  obtain ⟨⟨h1,h2⟩,_⟩:=h
  have h1:=pre_iff.1 h1
  have h2:=suf_iff.1 h2
  have e1:p.1=k:=by
   have hb:∀ a b:List UInt8,a <+: kdW k ++ (nm ++ tyW t)->a ≠ []->a.head?=(kdW k ++ (nm ++ tyW t)).head?:=fun a b h hne => by
    obtain ⟨r,hr⟩:=h
    rw [← hr]
    cases a with
    | nil => exact absurd rfl hne
    | cons x a => rfl
   have:=hb (kdW p.1) [] h1
   unfold kts at hp
   simp only [List.mem_cons,List.not_mem_nil,or_false] at hp
   rcases hp with rfl | rfl | rfl | rfl | rfl | rfl | rfl | rfl | rfl <;> rcases kt_cases hk with rfl | rfl | rfl <;> first | rfl | (exfalso; revert this; simp [kdW])
  have e2:p.2=t:=by
   have hs:∀ a:List UInt8,a <:+ kdW k ++ (nm ++ tyW t)->2<=a.length->a.drop (a.length - 2)=(kdW k ++ (nm ++ tyW t)).drop ((kdW k ++ (nm ++ tyW t)).length - 2):=fun a h hl2 => by
    obtain ⟨r,hr⟩:=h
    rw [← hr,List.length_append,List.drop_append,show r.length + a.length - 2 - r.length=a.length - 2 by omega,List.drop_eq_nil_of_le (show r.length<=r.length + a.length - 2 by omega),List.nil_append]
   have hl2:(kdW k ++ (nm ++ tyW t)).drop ((kdW k ++ (nm ++ tyW t)).length - 2)=(tyW t).drop ((tyW t).length - 2) :=
    (hs (tyW t) ⟨kdW k ++ nm,by rw [List.append_assoc]⟩ (by rcases kt_cases ht with rfl | rfl | rfl <;> decide)).symm
   unfold kts at hp
   simp only [List.mem_cons,List.not_mem_nil,or_false] at hp
   have h5:=hs (tyW p.2) h2
   rw [hl2] at h5
   rcases hp with rfl | rfl | rfl | rfl | rfl | rfl | rfl | rfl | rfl <;> rcases kt_cases ht with rfl | rfl | rfl <;> first | rfl | (exfalso; revert h5; decide)
  exact Prod.ext e1 e2
 refine ⟨?_,?_⟩
 ·unfold headO
  cases hf:kts.find? (isHd (kdW k ++ (nm ++ tyW t))) with
  | none =>
   rw [List.find?_eq_none] at hf
   refine absurd hyes (hf _ ?_)
   unfold kts
   rcases kt_cases hk with rfl | rfl | rfl <;> rcases kt_cases ht with rfl | rfl | rfl <;> decide
  | some p =>
   rw [hother p (List.mem_of_find?_eq_some hf) (List.find?_some hf)]
 ·unfold midL
  have e:(kdW k ++ (nm ++ tyW t)).take ((kdW k ++ (nm ++ tyW t)).length - (tyW t).length)=kdW k ++ nm:=by
   rw [← List.append_assoc,List.length_append,Nat.add_sub_cancel,List.take_left]
  rw [e,List.drop_left]
theorem line_field {nm:List UInt8} {k t:Int} (src:List UInt8) (hn:nmB nm=true) (hk:1<=k/\k<=3) (ht:1<=t/\t<=3):lineV (fieldL nm k t src)=.field nm k t (if 1 < k then some src else none):=by
 obtain ⟨n1,n2,n3⟩:=nmB_parts hn
 obtain ⟨g1,g2⟩:=head_of n1 hk ht
 have hpg:¬ Lib.hasPrefix (fieldL nm k t src) pgW=true:=fun h => by
  obtain ⟨r,hr⟩:=pre_iff.1 h
  have:(fieldL nm k t src).head?=some 112:=by rw [← hr]; rfl
  unfold fieldL at this
  revert this
  rcases kt_cases hk with rfl | rfl | rfl <;> simp [kdW]
 have h61:(61:UInt8) ∉ kdW k ++ (nm ++ tyW t):=fun h => by
  rcases List.mem_append.1 h with h | h
  ·exact (kd_not k _ h).2 rfl
  ·rcases List.mem_append.1 h with h | h
   ·exact (aln_not (n3 _ h)).2.2.2.2.2 rfl
   ·exact (ty_not t _ h).2 rfl
 unfold lineV
 rw [if_neg hpg]
 by_cases h1:1 < k
 ·have e:fieldL nm k t src=(kdW k ++ (nm ++ tyW t)) ++ (eqW ++ src):=by unfold fieldL; rw [if_pos h1]; simp only [List.append_assoc]
  have hc:cutO (fieldL nm k t src) eqW=some (kdW k ++ (nm ++ tyW t),src):=by
   rw [e]; exact cut_at (index_piece2 (c:=32) (d:=61) (t:=[32]) rfl (by decide) h61)
  rw [hc]
  simp only [Option.map_some,Option.getD_some,g1,g2,Option.isSome_some]
  rw [if_pos ⟨hn,(decide_eq_true h1).symm⟩,if_pos h1]
 ·have e:fieldL nm k t src=kdW k ++ (nm ++ tyW t):=by unfold fieldL; rw [if_neg h1]; simp only [List.append_nil]
  have hc:cutO (fieldL nm k t src) eqW=none:=by
   rw [e]; exact cut_no (index_no2 (c:=32) (d:=61) (t:=[32]) rfl h61)
  rw [hc,e]
  simp only [Option.map_none,Option.getD_none,g1,g2,Option.isSome_none]
  rw [if_pos ⟨hn,(decide_eq_false h1).symm⟩,if_neg h1]
theorem line_page {nm:List UInt8} {fs:List (List UInt8)} (skip:Option (List UInt8)) (hn:nmB nm=true) (hf:∀ s ∈ fs,nmB s=true):lineV (pageL nm fs skip)=.page nm fs skip:=by
 obtain ⟨n1,n2,n3⟩:=nmB_parts hn
 have hpg:Lib.hasPrefix (pageL nm fs skip) pgW=true:=pre_iff.2 ⟨_,rfl⟩
 have hd:(pageL nm fs skip).drop 5=nm ++ (coW ++ (commas fs ++ skL skip)):=rfl
 have hc1:cutO (nm ++ (coW ++ (commas fs ++ skL skip))) coW=some (nm,commas fs ++ skL skip) :=
  cut_at (index_piece (c:=58) (t:=[32]) rfl fun h => (aln_not (n3 _ h)).2.2.2.1 rfl)
 have hb:∀ l:List (List UInt8),(∀ s ∈ l,nmB s=true)->(59:UInt8) ∉ commas l:=fun l => by
  induction l with
  | nil => intro _ h; simp [commas] at h
  | cons a r ih =>
   intro hl h
   have ha:=(nmB_parts (hl a (by simp))).2.2
   cases r with
   | nil => exact (aln_not (ha _ h)).2.2.2.2.1 rfl
   | cons b r =>
    rcases List.mem_append.1 (show (59:UInt8) ∈ a ++ ([44,32] ++ commas (b :: r)) from h) with h | h
    ·exact (aln_not (ha _ h)).2.2.2.2.1 rfl
    ·rcases List.mem_append.1 h with h | h
     ·revert h; decide
     ·exact ih (fun s hs => hl s (by simp at hs ⊢; exact .inr hs)) h
 have h59:=hb fs hf
 have hsp:(if commas fs=[] then [] else Lib.split (commas fs) cmW)=fs:=by
  cases fs with
  | nil => rfl
  | cons a r =>
   have ha:=(nmB_parts (hf a (by simp))).1
   have hne:commas (a :: r) ≠ []:=fun e => by
    cases r with
    | nil => exact ha e
    | cons b r =>
     have:a ++ ([44,32] ++ commas (b :: r))=[]:=e
     simp at this
   rw [if_neg hne,commas_eq]
   exact split_join (c:=44) (t:=[32]) rfl a r fun p hp h => (aln_not ((nmB_parts (hf p hp)).2.2 _ h)).2.2.1 rfl
 unfold lineV
 rw [if_pos hpg,hd,hc1]
 simp only
 rw [if_pos hn]
 cases skip with
 | none =>
  have hc2:cutO (commas fs) seW=none:=cut_no (index_no (c:=59) (t:=[32]) rfl h59)
  have e:commas fs ++ skL none=commas fs:=List.append_nil _
  rw [e,hc2]
  simp only [Option.map_none,Option.getD_none,hsp]
  rw [if_pos (List.all_eq_true.2 hf)]
 | some s =>
  have hc2:cutO (commas fs ++ skL (some s)) seW=some (commas fs,s):=cut_at (index_piece (c:=59) (t:=[32]) rfl h59)
  rw [hc2]
  simp only [Option.map_some,Option.getD_some,hsp]
  rw [if_pos (List.all_eq_true.2 hf)]
theorem lines_back (a:List UInt8) (r:List (List UInt8)) (h:∀ p ∈ a :: r,(10:UInt8) ∉ p):Lib.split (joinN (a :: r)) [10]=a :: r:=by
 rw [joinN_eq]; exact split_join (c:=10) (t:=[]) rfl a r h
theorem field_feed {nm:List UInt8} {k t:Int} {src:List UInt8} (hn:nmB nm=true) (hs:(10:UInt8) ∉ src):(10:UInt8) ∉ fieldL nm k t src:=fun h => by
 unfold fieldL at h
 rcases List.mem_append.1 h with h | h
 ·exact (kd_not k _ h).1 rfl
 ·rcases List.mem_append.1 h with h | h
  ·exact (aln_not ((nmB_parts hn).2.2 _ h)).1 rfl
  ·rcases List.mem_append.1 h with h | h
   ·exact (ty_not t _ h).1 rfl
   ·split at h
    ·rcases List.mem_append.1 h with h | h
     ·revert h; decide
     ·exact hs h
    ·simp at h
theorem page_feed {nm:List UInt8} {fs:List (List UInt8)} {skip:Option (List UInt8)} (hn:nmB nm=true) (hf:∀ s ∈ fs,nmB s=true) (hs:∀ s,skip=some s->(10:UInt8) ∉ s):(10:UInt8) ∉ pageL nm fs skip:=fun h => by
 have hb:∀ l:List (List UInt8),(∀ s ∈ l,nmB s=true)->(10:UInt8) ∉ commas l:=fun l => by
  induction l with
  | nil => intro _ h; simp [commas] at h
  | cons a r ih =>
   intro hl h
   have ha:=(nmB_parts (hl a (by simp))).2.2
   cases r with
   | nil => exact (aln_not (ha _ h)).1 rfl
   | cons b r =>
    rcases List.mem_append.1 (show (10:UInt8) ∈ a ++ ([44,32] ++ commas (b :: r)) from h) with h | h
    ·exact (aln_not (ha _ h)).1 rfl
    ·rcases List.mem_append.1 h with h | h
     ·revert h; decide
     ·exact ih (fun s hs => hl s (by simp at hs ⊢; exact .inr hs)) h
 unfold pageL at h
 rcases List.mem_append.1 h with h | h
 ·revert h; decide
 ·rcases List.mem_append.1 h with h | h
  ·exact (aln_not ((nmB_parts hn).2.2 _ h)).1 rfl
  ·rcases List.mem_append.1 h with h | h
   ·revert h; decide
   ·rcases List.mem_append.1 h with h | h
    ·exact hb fs hf h
    ·cases skip with
     | none => exact absurd h (by unfold skL; simp)
     | some s =>
      rcases List.mem_append.1 h with h | h
      ·revert h; decide
      ·exact hs s rfl h
end TxM
namespace TxR
open ValM LexM ExM ShowM PrM TxM
set_option linter.unusedVariables false
structure Fl where
 nm:List UInt8
 k:Int
 t:Int
 x:Ex
structure Pl where
 nm:List UInt8
 fs:List (List UInt8)
 x:Ex
def noX:Ex:=.mk ⟨0,0,0,⟨#[]⟩,⟨#[]⟩⟩ []
def rdLine (pf:List UInt8->Ex × Int) (pg:Bool) (l:List UInt8):Int × Option (Fl ⊕ Pl) :=
 match lineV l with
 | .bad _ => (3,none)
 | .field nm k t none => if pg=true then (3,none) else (0,some (.inl ⟨nm,k,t,noX⟩))
 | .field nm k t (some s) => if (pf s).2=0 then (if pg=true then (3,none) else (0,some (.inl ⟨nm,k,t,(pf s).1⟩))) else ((pf s).2,none)
 | .page nm fs none => (0,some (.inr ⟨nm,fs,noX⟩))
 | .page nm fs (some s) => if (pf s).2=0 then (0,some (.inr ⟨nm,fs,(pf s).1⟩)) else ((pf s).2,none)
def addL (r:List Fl × List Pl):Option (Fl ⊕ Pl)->List Fl × List Pl
 | none => r
 | some (.inl f) => (r.1 ++ [f],r.2)
 | some (.inr p) => (r.1,r.2 ++ [p])
def rdFrom (pf:List UInt8->Ex × Int):Nat->List Fl × List Pl->List (List UInt8)->(Nat × Int) × (List Fl × List Pl)
 | _,r,[] => ((0,0),r)
 | i,r,l :: ls => if (rdLine pf (decide (r.2 ≠ [])) l).1=0 then rdFrom pf (i + 1) (addL r (rdLine pf (decide (r.2 ≠ [])) l).2) ls else ((i + 1,(rdLine pf (decide (r.2 ≠ [])) l).1),r)
def rdAll (pf:List UInt8->Ex × Int) (ls:List (List UInt8)):(Nat × Int) × (List Fl × List Pl):=rdFrom pf 0 ([],[]) ls
theorem rd_ok {pf:List UInt8->Ex × Int} {i:Nat} {r:List Fl × List Pl} {l:List UInt8} {ls:List (List UInt8)} {o:Option (Fl ⊕ Pl)} (h:rdLine pf (decide (r.2 ≠ [])) l=(0,o)):rdFrom pf i r (l :: ls)=rdFrom pf (i + 1) (addL r o) ls:=by
 show (if _ then _ else _)=_
 rw [h,if_pos rfl]
theorem rd_bad {pf:List UInt8->Ex × Int} {i:Nat} {r:List Fl × List Pl} {l:List UInt8} {ls:List (List UInt8)} {e:Int} {o:Option (Fl ⊕ Pl)} (h:rdLine pf (decide (r.2 ≠ [])) l=(e,o)) (he:e ≠ 0):rdFrom pf i r (l :: ls)=((i + 1,e),r):=by
 show (if _ then _ else _)=_
 rw [h,if_neg he]
def flL (f:Fl):List UInt8:=fieldL f.nm f.k f.t (Ex.txt f.x)
def plL (p:Pl × Bool):List UInt8:=pageL p.1.nm p.1.fs (if p.2=true then some (Ex.txt p.1.x) else none)
def linesF (F:List Fl) (P:List (Pl × Bool)):List (List UInt8):=F.map flL ++ P.map plL
structure FlOk (f:Fl):Prop where
 nm:nmB f.nm=true
 k:1<=f.k/\f.k<=3
 t:1<=f.t/\f.t<=3
 no:f.k=1->f.x=noX
structure PlOk (p:Pl × Bool):Prop where
 nm:nmB p.1.nm=true
 fs:∀ s ∈ p.1.fs,nmB s=true
 no:p.2=false->p.1.x=noX
theorem line_fl {pf:List UInt8->Ex × Int} {f:Fl} (h:FlOk f) (hp:1 < f.k->pf (Ex.txt f.x)=(f.x,0)):rdLine pf false (flL f)=(0,some (.inl f)):=by
 unfold rdLine flL
 rw [line_field _ h.nm h.k h.t]
 by_cases h1:1 < f.k
 ·rw [if_pos h1]
  simp only [hp h1]
  rfl
 ·rw [if_neg h1]
  have:f=⟨f.nm,f.k,f.t,noX⟩:=by
   obtain ⟨a,b,c,d⟩:=f
   have e:=h.no (by have:=h.k.1; simp only at *; omega)
   simp only at e
   rw [e]
  simp only
  rw [if_neg (by decide),← this]
theorem line_pl {pf:List UInt8->Ex × Int} {p:Pl × Bool} {pg:Bool} (h:PlOk p) (hp:p.2=true->pf (Ex.txt p.1.x)=(p.1.x,0)):rdLine pf pg (plL p)=(0,some (.inr p.1)):=by
 obtain ⟨⟨nm,fs,x⟩,b⟩:=p
 unfold rdLine plL
 rw [line_page _ h.nm h.fs]
 cases b with
 | true =>
  rw [if_pos rfl]
  simp only [hp rfl]
  rfl
 | false =>
  rw [if_neg (fun h => by cases h)]
  have e:=h.no rfl
  simp only at e
  rw [e]
theorem rd_fields {pf:List UInt8->Ex × Int}:∀ (F:List Fl) (G:List Fl) (i:Nat) (ls:List (List UInt8)),(∀ f ∈ F,FlOk f)->(∀ f ∈ F,1 < f.k->pf (Ex.txt f.x)=(f.x,0))->rdFrom pf i (G,[]) (F.map flL ++ ls)=rdFrom pf (i + F.length) (G ++ F,[]) ls
 | [],G,i,ls,_,_ => by simp
 | f :: F,G,i,ls,h,hp => by
  rw [List.map_cons,List.cons_append,rd_ok (o:=some (.inl f)) (line_fl (h f (by simp)) (hp f (by simp)))]
  show rdFrom pf (i + 1) (G ++ [f],[]) _=_
  rw [rd_fields F (G ++ [f]) (i + 1) ls (fun g hg => h g (by simp [hg])) (fun g hg => hp g (by simp [hg]))]
  simp only [List.append_assoc,List.singleton_append,List.length_cons]
  rw [show i + 1 + F.length=i + (F.length + 1) by omega]
theorem rd_pages {pf:List UInt8->Ex × Int}:∀ (P:List (Pl × Bool)) (F:List Fl) (G:List Pl) (i:Nat) (ls:List (List UInt8)),(∀ p ∈ P,PlOk p)->(∀ p ∈ P,p.2=true->pf (Ex.txt p.1.x)=(p.1.x,0))->rdFrom pf i (F,G) (P.map plL ++ ls)=rdFrom pf (i + P.length) (F,G ++ P.map (·.1)) ls
 | [],F,G,i,ls,_,_ => by simp
 | p :: P,F,G,i,ls,h,hp => by
  rw [List.map_cons,List.cons_append,rd_ok (o:=some (.inr p.1)) (line_pl (h p (by simp)) (hp p (by simp)))]
  show rdFrom pf (i + 1) (F,G ++ [p.1]) _=_
  rw [rd_pages P F (G ++ [p.1]) (i + 1) ls (fun g hg => h g (by simp [hg])) (fun g hg => hp g (by simp [hg]))]
  simp only [List.append_assoc,List.singleton_append,List.length_cons,List.map_cons]
  rw [show i + 1 + P.length=i + (P.length + 1) by omega]
theorem rd_form {pf:List UInt8->Ex × Int} (F:List Fl) (P:List (Pl × Bool)) (h:∀ f ∈ F,FlOk f) (hp:∀ p ∈ P,PlOk p) (hF:∀ f ∈ F,1 < f.k->pf (Ex.txt f.x)=(f.x,0)) (hP:∀ p ∈ P,p.2=true->pf (Ex.txt p.1.x)=(p.1.x,0)) :
  rdAll pf (linesF F P)=((0,0),(F,P.map (·.1))):=by
 unfold rdAll linesF
 rw [rd_fields F [] 0 _ h hF]
 have:=rd_pages (pf:=pf) P ([] ++ F) [] (0 + F.length) [] hp hP
 rw [List.append_nil] at this
 rw [this]; rfl
theorem rd_what {pf:List UInt8->Ex × Int} (F:List Fl) (P:List (Pl × Bool)) (h:∀ f ∈ F,FlOk f) (hp:∀ p ∈ P,PlOk p) (hF:∀ f ∈ F,1 < f.k->pf (Ex.txt f.x)=(f.x,0)) (hP:∀ p ∈ P,p.2=true->pf (Ex.txt p.1.x)=(p.1.x,0)) (k:Nat) (hk:k<=F.length + P.length) {bad:List UInt8} {e:Int} (he:e ≠ 0) (hb:∀ pg,(rdLine pf pg bad).1=e) (rest:List (List UInt8)) :
  (rdAll pf ((linesF F P).take k ++ (bad :: rest))).1=(k + 1,e):=by
 unfold rdAll linesF
 by_cases h1:k<=F.length
 ·have e1:(F.map flL ++ P.map plL).take k=(F.take k).map flL:=by
   rw [List.take_append_of_le_length (by rw [List.length_map]; exact h1),List.map_take]
  rw [e1,rd_fields (F.take k) [] 0 _ (fun f hf => h f (List.mem_of_mem_take hf)) (fun f hf => hF f (List.mem_of_mem_take hf))]
  rw [rd_bad (e:=e) (o:=(rdLine pf _ bad).2) (Prod.ext (hb _) rfl) he]
  rw [List.length_take,Nat.min_eq_left h1]
  simp
 ·have e1:(F.map flL ++ P.map plL).take k=F.map flL ++ (P.take (k - F.length)).map plL:=by
   rw [List.take_append,List.length_map,List.take_of_length_le (by rw [List.length_map]; omega),List.map_take]
  rw [e1,List.append_assoc,rd_fields F [] 0 _ h hF,rd_pages (P.take (k - F.length)) _ [] _ _ (fun p hp' => hp p (List.mem_of_mem_take hp')) (fun p hp' => hP p (List.mem_of_mem_take hp'))]
  rw [rd_bad (e:=e) (o:=(rdLine pf _ bad).2) (Prod.ext (hb _) rfl) he]
  rw [List.length_take,Nat.min_eq_left (by omega)]
  simp only [Prod.mk.injEq,and_true]
  omega
theorem what_bad (pf:List UInt8->Ex × Int) (pg:Bool):(rdLine pf pg [119,104,97,116]).1=3:=by
 have:lineV [119,104,97,116]=.bad false:=by
  unfold lineV
  rw [if_neg (by decide)]
  have hc:cutO [119,104,97,116] eqW=none:=cut_no (index_no2 (c:=32) (d:=61) (t:=[32]) rfl (by decide))
  rw [hc]
  rfl
 unfold rdLine
 rw [this]
theorem cl_iff {l:List UInt8}:cleanL l=true ↔ ∀ c ∈ l,32<=c.toNat/\c.toNat<=126:=by
 unfold cleanL
 rw [List.all_eq_true]
 constructor
 ·intro h c hc; have:=h c hc; simpa using this
 ·intro h c hc; simpa using h c hc
theorem cl_app {a b:List UInt8} (ha:cleanL a=true) (hb:cleanL b=true):cleanL (a ++ b)=true:=by
 unfold cleanL at ha hb ⊢
 rw [List.all_append,ha,hb]; rfl
theorem cl_cons {c:UInt8} {b:List UInt8} (h:32<=c.toNat/\c.toNat<=126) (hb:cleanL b=true):cleanL (c :: b)=true:=by
 rw [cl_iff] at hb ⊢
 intro d hd
 rcases List.mem_cons.1 hd with rfl | hd
 ·exact h
 ·exact hb d hd
theorem cl_sign (op:Int):cleanL (signF op)=true:=by
 unfold signF rwF
 have hall:∀ r ∈ NotTab.rows,cleanL r.1=true:=by decide
 rcases Nat.lt_or_ge op.toNat NotTab.rows.length with h | h
 ·rw [List.getD_eq_getElem?_getD,List.getElem?_eq_getElem h]
  exact hall _ (List.getElem_mem h)
 ·rw [List.getD_eq_getElem?_getD,List.getElem?_eq_none h]; rfl
theorem cl_dig {l:List UInt8} (h:l.all digB=true):cleanL l=true:=by
 rw [cl_iff]
 intro c hc
 have:=List.all_eq_true.1 h c hc
 unfold digB at this
 simp only [Bool.and_eq_true,decide_eq_true_eq] at this
 omega
theorem cl_itoa (n:Int):cleanL (Lib.itoa n)=true:=by
 unfold Lib.itoa
 split
 ·exact cl_cons (by decide) (cl_dig (PbL.dec_all _))
 ·exact cl_dig (PbL.dec_all _)
theorem cl_esc:∀ l:List UInt8,cleanL l=true->cleanL (escL l)=true:=fun l h => by
 rw [cl_iff] at h ⊢
 intro c hc
 unfold escL at hc
 obtain ⟨d,hd,h2⟩:=List.mem_flatMap.1 hc
 split at h2
 ·simp at h2
  rcases h2 with rfl | rfl
  ·decide
  ·exact h _ hd
 ·simp at h2; subst h2; exact h _ hd
theorem cl_quote {l:List UInt8} (h:cleanL l=true):cleanL (quoteL l)=true:=by
 unfold quoteL
 exact cl_cons (by decide) (cl_app (cl_esc l h) (by decide))
theorem cl_name {l:List UInt8} (h:nmB l=true):cleanL l=true:=by
 rw [cl_iff]
 intro c hc
 have:=(nmB_parts h).2.2 c hc
 unfold alnB lowB digB at this
 simp only [Bool.or_eq_true,Bool.and_eq_true,decide_eq_true_eq] at this
 omega
theorem cl_br {p:Int} {t:Int × List UInt8} (h:cleanL t.2=true):cleanL (br p t)=true:=by
 unfold br
 split
 ·exact cl_cons (by decide) (cl_app h (by decide))
 ·exact h
theorem cl_commas:∀ ls:List (List UInt8),(∀ l ∈ ls,cleanL l=true)->cleanL (commas ls)=true
 | [],_ => rfl
 | [a],h => h a (by simp)
 | a :: b :: r,h => by
  show cleanL (a ++ ([44,32] ++ commas (b :: r)))=true
  exact cl_app (h a (by simp)) (cl_app (by decide) (cl_commas (b :: r) fun l hl => h l (by simp at hl ⊢; exact .inr hl)))
theorem txt_clean:∀ x:Ex,x.okN->cleanL (Ex.txt x)=true:=by
 refine Ex.ind fun d l ih => ?_
 intro hok
 obtain ⟨h0,hl⟩:=(okN_mk d l).1 hok
 obtain ⟨p1,p2,p3,p4,p5⟩:=PbT.node_ok h0
 have harg:∀ i,cleanL (arg (txtL l) i).2=true:=fun i => by
  by_cases hi:i < l.length
  ·rw [txtL_at l i hi]; exact ih _ (List.getElem_mem hi) (hl _ (List.getElem_mem hi))
  ·unfold arg
   rw [txtL_map,List.getD_eq_getElem?_getD,List.getElem?_eq_none (by rw [List.length_map]; omega)]; rfl
 rw [txt_mk]
 unfold txtF
 split
 ·rename_i o1
  obtain ⟨_,hc⟩:=PbT.con_nd o1 p4 p5
  unfold showL
  rcases hc with ⟨a,_⟩ | ⟨a,_⟩ | ⟨a,_,b,_⟩
  ·rw [if_neg (by omega),if_neg (by omega),if_neg (by omega),if_neg (by omega)]; exact cl_itoa _
  ·rw [if_pos a]
   cases decide (d.n=1) <;> decide
  ·rw [if_neg (by omega),if_pos a]; exact cl_quote b
 ·rename_i o1
  split
  ·rename_i o2
   unfold nmOk at p5
   rw [if_pos o2] at p5
   exact cl_name p5
  ·split
   ·refine cl_app (cl_sign _) (cl_cons (by decide) (cl_app (cl_commas _ fun t ht => ?_) (by decide)))
    rw [txtL_map,List.map_map] at ht
    obtain ⟨x,hx,rfl⟩:=List.mem_map.1 ht
    exact ih x hx (hl x hx)
   ·split
    ·exact cl_app (cl_sign _) (cl_cons (by decide) (cl_br (harg 0)))
    ·split
     ·exact cl_app (cl_sign _) (cl_br (harg 0))
     ·exact cl_app (cl_br (harg 0)) (cl_cons (by decide) (cl_app (cl_sign _) (cl_cons (by decide) (cl_br (harg 1)))))
theorem txt_feed {x:Ex} (h:x.okN):(10:UInt8) ∉ Ex.txt x:=fun hm => by
 have:=cl_iff.1 (txt_clean x h) 10 hm
 exact absurd this (by decide)
end TxR
end Go.Proofs.YtjhhmdmmllblhaaGreatDoor
