package journal_test

import (
	"encoding/binary"
	"math"
	"math/rand"
	"slices"
	"strings"
	"testing"

	"annalist/api"
	"annalist/journal"
)

// zeros are so many bytes 0.
func zeros(n int) string {
	return strings.Repeat("\x00", n)
}

// full is data, filled up with bytes 0.
func full(data string) string {
	return data + zeros(api.Size-len(data))
}

// turned is a text with all bits turned.
func turned(s string) string {
	b := []byte(s)
	for i := range b {
		b[i] ^= 0xff
	}
	return string(b)
}

// four are a number's four lowest bytes, the lowest one first.
func four(n int) string {
	return string(binary.LittleEndian.AppendUint32(nil, uint32(n)))
}

// heads are heads of numbers of all lengths, and some by chance.
func heads() []journal.Head {
	l := []journal.Head{
		{},
		{Seq: 2, Room: 3, Pages: 5},
		{Seq: 3, Used: 3, Room: 3, Pages: 5},
		{Seq: 0x0102030405060708, Used: 0x11121314, Room: 0x21222324, Pages: 0x31323334},
		{Seq: math.MaxUint64, Used: math.MaxUint32, Room: math.MaxUint32, Pages: math.MaxUint32},
		{Seq: 1 << 63, Used: 1 << 31, Room: 1 << 31, Pages: 1 << 31},
		{Seq: math.MaxUint32, Used: math.MaxInt32, Room: 256, Pages: 255},
		{Used: 1},
		{Room: 1},
		{Pages: 1},
	}
	r := rand.New(rand.NewSource(3))
	for range 15 {
		l = append(l, journal.Head{Seq: r.Uint64(), Used: int(r.Uint32()), Room: int(r.Uint32()), Pages: int(r.Uint32())})
	}
	return l
}

// noHead tells whether a block has no head, and nothing stands beside that.
func noHead(t *testing.T, what, b string) {
	t.Helper()
	if h, ok := journal.ReadHead(b); ok || h != (journal.Head{}) {
		t.Errorf("ReadHead of %s = %+v, %v", what, h, ok)
	}
}

// isHead tells whether a block has that head.
func isHead(t *testing.T, what, b string, want journal.Head) {
	t.Helper()
	if h, ok := journal.ReadHead(b); !ok || h != want {
		t.Errorf("ReadHead of %s = %+v, %v, not %+v", what, h, ok, want)
	}
}

// pack packs pages, which is to be done.
func pack(t *testing.T, l []api.Page) []string {
	t.Helper()
	b, e := journal.Pack(l)
	if e != api.OK {
		t.Fatalf("Pack of %d pages: error %d", len(l), e)
	}
	return b
}

// noPack tells whether Pack has that error, and nothing beside it.
func noPack(t *testing.T, what string, l []api.Page, want api.Errno) {
	t.Helper()
	if b, e := journal.Pack(l); len(b) != 0 || e != want {
		t.Errorf("Pack of %s: %d blocks, error %d, not the error %d alone", what, len(b), e, want)
	}
}

// noPages tells whether Unpack has ErrBad, and nothing beside it.
func noPages(t *testing.T, what string, l []string) {
	t.Helper()
	if p, e := journal.Unpack(l); len(p) != 0 || e != api.ErrBad {
		t.Errorf("Unpack of %s: %d pages, error %d, not ErrBad alone", what, len(p), e)
	}
}

// isPages tells whether blocks have these pages, filled up with bytes 0.
func isPages(t *testing.T, what string, l []string, want []api.Page) {
	t.Helper()
	got, e := journal.Unpack(l)
	if e != api.OK || len(got) != len(want) {
		t.Fatalf("Unpack of %s: %d pages, error %d, not %d pages", what, len(got), e, len(want))
	}
	for i, p := range want {
		if got[i].At != p.At || got[i].Data != full(p.Data) {
			t.Errorf("Unpack of %s: its page of the number %d is %d %.10q, not %d %.10q", what, i, got[i].At, got[i].Data, p.At, p.Data)
		}
	}
}

// some are n pages of unlike places and lengths, 0 and 256 bytes among them.
func some(n int) []api.Page {
	var l []api.Page
	for i := range n {
		data := strings.Repeat(string(rune('a'+i%26)), i%api.Size)
		if i%7 == 3 {
			data = strings.Repeat("\xff", api.Size)
		}
		l = append(l, api.Page{At: (i*1021 + 2047) % api.MaxBlocks, Data: data})
	}
	return l
}

// packed is what the chapter says that Pack writes of some, byte by byte.
func packed(l []api.Page) []string {
	s := four(len(l))
	for _, p := range l {
		s += four(p.At)
	}
	for len(s)%api.Size != 0 {
		s += "\x00"
	}
	var blocks []string
	for ; s != ""; s = s[api.Size:] {
		blocks = append(blocks, s[:api.Size])
	}
	for _, p := range l {
		blocks = append(blocks, full(p.Data))
	}
	return blocks
}

// P3.1

func TestWriteHeadWritesNumbersAndTheirBitsTurned(t *testing.T) {
	const s = "\x09\x00\x00\x00\x00\x00\x00\x00" + "\x03\x00\x00\x00" + "\x28\x00\x00\x00" + "\x2c\x01\x00\x00"
	const not = "\xf6\xff\xff\xff\xff\xff\xff\xff" + "\xfc\xff\xff\xff" + "\xd7\xff\xff\xff" + "\xd3\xfe\xff\xff"
	if got := journal.WriteHead(journal.Head{Seq: 9, Used: 3, Room: 40, Pages: 300}); got != s+not {
		t.Errorf("% x, not % x", got, s+not)
	}
	if got := journal.WriteHead(journal.Head{}); got != zeros(20)+strings.Repeat("\xff", 20) {
		t.Errorf("of zeros: % x", got)
	}
	for _, h := range heads() {
		want := string(binary.LittleEndian.AppendUint64(nil, h.Seq)) + four(h.Used) + four(h.Room) + four(h.Pages)
		if got := journal.WriteHead(h); got != want+turned(want) {
			t.Errorf("WriteHead(%+v) = % x, not % x and that turned", h, got, want)
		}
	}
}

func TestWriteHeadTakesTheLowestBytes(t *testing.T) {
	got := journal.WriteHead(journal.Head{Seq: 1, Used: 1<<32 + 5, Room: -1, Pages: math.MinInt})
	want := "\x01\x00\x00\x00\x00\x00\x00\x00" + "\x05\x00\x00\x00" + "\xff\xff\xff\xff" + "\x00\x00\x00\x00"
	if got != want+turned(want) {
		t.Errorf("% x, not % x and that turned", got, want)
	}
	isHead(t, "numbers of more than 32 bits", got, journal.Head{Seq: 1, Used: 5, Room: math.MaxUint32})
}

func TestReadHeadOfWhatIsNone(t *testing.T) {
	noHead(t, "nothing", "")
	noHead(t, "a block of zeros", zeros(api.Size))
	noHead(t, "a block of ones", strings.Repeat("\xff", api.Size))
	noHead(t, "a text", strings.Repeat("head ", 50))
	for _, h := range heads() {
		s := journal.WriteHead(h)
		for n := range len(s) {
			noHead(t, "the first bytes alone", s[:n])
			if n > 0 {
				noHead(t, "the first bytes, and others", s[:n]+turned(s[n:]))
			}
		}
		noHead(t, "numbers, and once more", s[:20]+s[:20])
	}
	s := journal.WriteHead(journal.Head{Seq: 1, Used: 2, Room: 3, Pages: 4})
	noHead(t, "a head behind another byte", "\x00"+s)
	noHead(t, "a head without its first byte", s[1:]+"\x00")
}

func TestReadHeadMindsEachBit(t *testing.T) {
	for _, h := range heads()[:8] {
		s := []byte(journal.WriteHead(h))
		for i := range s {
			for bit := range 8 {
				s[i] ^= 1 << bit
				noHead(t, "a head with a bit turned", string(s))
				s[i] ^= 1 << bit
			}
		}
	}
}

func TestReadHeadOfTheHalvesEachWay(t *testing.T) {
	s := journal.WriteHead(journal.Head{Seq: 1, Used: 2, Room: 3, Pages: 4})
	isHead(t, "Not of a head, and it", s[20:]+s[:20], journal.Head{
		Seq: math.MaxUint64 - 1, Used: math.MaxUint32 - 2, Room: math.MaxUint32 - 3, Pages: math.MaxUint32 - 4,
	})
}

// P3.2

func TestBlocks(t *testing.T) {
	for _, c := range []struct{ n, want int }{
		{0, 1}, {1, 2}, {2, 3}, {62, 63}, {63, 64}, {64, 66}, {65, 67}, {126, 128}, {127, 129}, {128, 131},
		{255, 259}, {256, 261}, {1023, 1039}, {1024, 1041}, {1025, 1042}, {2048, 2081}, {1 << 29, 1<<29 + 1<<23 + 1},
	} {
		if got := journal.Blocks(c.n); got != c.want {
			t.Errorf("Blocks(%d) = %d, not %d", c.n, got, c.want)
		}
	}
	for n := range 5000 {
		if got, want := journal.Blocks(n), int(math.Ceil(float64(4*n+4)/256))+n; got != want {
			t.Errorf("Blocks(%d) = %d, not %d", n, got, want)
		}
	}
	for _, n := range []int{-1, -2, -64, math.MinInt} {
		if got := journal.Blocks(n); got != 0 {
			t.Errorf("Blocks(%d) = %d: there is no such list", n, got)
		}
	}
}

func TestPackOfTheExample(t *testing.T) {
	want := []string{full("\x01\x00\x00\x00\x07\x00\x00\x00"), full("ab")}
	if got := pack(t, []api.Page{{At: 7, Data: "ab"}}); !slices.Equal(got, want) {
		t.Errorf("%q, not %q", got, want)
	}
}

func TestPack(t *testing.T) {
	for _, n := range []int{0, 1, 2, 3, 31, 62, 63, 64, 65, 126, 127, 128, 190, 191, 192, 500, 1023, 1024} {
		got := pack(t, some(n))
		if len(got) != journal.Blocks(n) {
			t.Errorf("%d pages: %d blocks, not %d", n, len(got), journal.Blocks(n))
		}
		if !slices.Equal(got, packed(some(n))) {
			t.Errorf("%d pages: other blocks than the chapter says", n)
		}
	}
	if got := pack(t, nil); !slices.Equal(got, []string{zeros(api.Size)}) {
		t.Errorf("no page: %q", got)
	}
}

func TestPackLeavesPagesInTheirOrder(t *testing.T) {
	l := []api.Page{{At: 9, Data: "x"}, {At: 2, Data: "y"}, {At: 9, Data: "z"}, {At: 0}}
	want := []string{full("\x04\x00\x00\x00\x09\x00\x00\x00\x02\x00\x00\x00\x09"), full("x"), full("y"), full("z"), full("")}
	if got := pack(t, l); !slices.Equal(got, want) {
		t.Errorf("%q, not %q", got, want)
	}
}

func TestPackAtItsLimits(t *testing.T) {
	long := strings.Repeat("x", api.Size)
	l := []api.Page{{At: 0, Data: long}, {At: 2047, Data: ""}}
	if got := pack(t, l); !slices.Equal(got, []string{full("\x02\x00\x00\x00\x00\x00\x00\x00\xff\x07"), long, full("")}) {
		t.Errorf("%q", got)
	}
	noPack(t, "2048", []api.Page{{At: 2048}}, api.ErrBlock)
	noPack(t, "-1", []api.Page{{At: -1}}, api.ErrBlock)
	noPack(t, "257 bytes", []api.Page{{At: 1, Data: long + "x"}}, api.ErrBig)
	noPack(t, "1025 pages", some(1025), api.ErrLimit)
	for _, at := range []int{math.MinInt, math.MinInt32, -2048, 2049, math.MaxInt32, 1 << 32, math.MaxInt} {
		noPack(t, "a place that is none", []api.Page{{At: at}}, api.ErrBlock)
	}
	noPack(t, "far too long data", []api.Page{{At: 1, Data: strings.Repeat("x", 100000)}}, api.ErrBig)
}

func TestPackTellsTheFirstError(t *testing.T) {
	big := strings.Repeat("x", api.Size+1)
	noPack(t, "a page with both", []api.Page{{At: 2048, Data: big}}, api.ErrBlock)
	noPack(t, "ErrBig ahead", []api.Page{{At: 0}, {At: 1, Data: big}, {At: 2048}}, api.ErrBig)
	noPack(t, "ErrBlock ahead", []api.Page{{At: 0}, {At: -1}, {At: 1, Data: big}}, api.ErrBlock)
	l := some(1025)
	l[0], l[1] = api.Page{At: 2048}, api.Page{Data: big}
	noPack(t, "1025 pages with faults", l, api.ErrLimit)
	l = some(1024)
	l[1023].At = 2048
	noPack(t, "a last page that is nowhere", l, api.ErrBlock)
	l = some(1024)
	l[1023].Data = big
	noPack(t, "a last page that is too long", l, api.ErrBig)
}

func TestPackChangesAndKeepsNothing(t *testing.T) {
	l := make([]api.Page, 2, 4)
	l[0], l[1] = api.Page{At: 1, Data: "a"}, api.Page{At: 2, Data: "b"}
	spare := l[:4]
	spare[2], spare[3] = api.Page{At: 8, Data: "p"}, api.Page{At: 9, Data: "q"}
	before := slices.Clone(spare)
	one, two := pack(t, l), pack(t, l)
	if !slices.Equal(spare, before) {
		t.Error("what was handed in has changed")
	}
	one[0], l[1].Data = "other", "other"
	if two[0] != full("\x02\x00\x00\x00\x01\x00\x00\x00\x02") || two[2] != full("b") {
		t.Error("an answer hangs on another one, or on what was handed in")
	}
}

// P3.3

func TestUnpackGivesDataAsItIsInItsBlock(t *testing.T) {
	isPages(t, "the example", []string{full("\x01\x00\x00\x00\x07\x00\x00\x00"), full("ab")}, []api.Page{{At: 7, Data: "ab"}})
	long := strings.Repeat("\xfe", api.Size)
	l := []string{full("\x03\x00\x00\x00\xff\x07\x00\x00\x00\x00\x00\x00\x00\x07\x00\x00"), long, zeros(api.Size), full("\x00x")}
	isPages(t, "three pages", l, []api.Page{{At: 2047, Data: long}, {At: 0}, {At: 1792, Data: "\x00x"}})
	isPages(t, "no page", []string{zeros(api.Size)}, nil)
}

func TestUnpackMindsNoByteBehindThePlaces(t *testing.T) {
	b := "\x01\x00\x00\x00\x07\x00\x00\x00"
	isPages(t, "a block that isn't filled up with zeros", []string{b + strings.Repeat("\xff", api.Size-len(b)), full("ab")}, []api.Page{{At: 7, Data: "ab"}})
	isPages(t, "no page, and other bytes", []string{zeros(4) + strings.Repeat("x", api.Size-4)}, nil)
}

func TestUnpackOfWhatIsNone(t *testing.T) {
	noPages(t, "nil", nil)
	noPages(t, "an empty list", []string{})
	noPages(t, "an empty block", []string{""})
	for _, n := range []int{1, 3, 4, 255, 257, 512} {
		noPages(t, "a block of another length", []string{zeros(n)})
		noPages(t, "a first block of another length", []string{"\x01\x00\x00\x00" + zeros(n), full("ab")})
		noPages(t, "a last block of another length", []string{full("\x01\x00\x00\x00\x07"), zeros(n)})
	}
	l := packed(some(100))
	for i := range l {
		for _, b := range []string{"", l[i][:255], l[i] + "\x00"} {
			m := slices.Clone(l)
			m[i] = b
			noPages(t, "100 pages, with a block of another length", m)
		}
	}
}

func TestUnpackOfAnotherNumberOfBlocks(t *testing.T) {
	for _, n := range []int{0, 1, 2, 62, 63, 64, 65, 127, 128, 1023, 1024} {
		l := packed(some(n))
		for cut := range min(len(l), 70) {
			noPages(t, "fewer blocks than it takes", l[:len(l)-1-cut])
		}
		noPages(t, "a block more than it takes", append(l, full("")))
	}
}

func TestUnpackOfTooGreatANumber(t *testing.T) {
	const n = 1025
	l := []string{full(four(n))}
	for range journal.Blocks(n) - 1 {
		l = append(l, full(""))
	}
	noPages(t, "1025 pages", l)
	l[0] = full(four(n - 1))
	isPages(t, "1024 pages", l[:len(l)-1], make([]api.Page, n-1))
	for _, n := range []int{1 << 16, 1 << 24, math.MaxInt32, 1 << 31, math.MaxUint32} {
		noPages(t, "a great number", []string{full(four(n))})
		noPages(t, "a great number, and a block", []string{full(four(n)), full("")})
	}
}

func TestUnpackOfAPlaceThatIsNone(t *testing.T) {
	for _, at := range []int{2048, 2049, 4096, 1 << 16, 1 << 24, math.MaxInt32, 1 << 31, math.MaxUint32} {
		noPages(t, "a place that is none", []string{full(four(1) + four(at)), full("ab")})
	}
	for _, n := range []int{2, 63, 64, 100, 1024} {
		for _, i := range []int{0, n / 2, n - 1} {
			p := some(n)
			p[i].At = 2048
			noPages(t, "a place that is none, among others", packed(p))
			p[i].At = 2047
			isPages(t, "the last place, among others", packed(p), p)
		}
	}
}

func TestUnpackChangesAndKeepsNothing(t *testing.T) {
	l := append(make([]string, 0, 8), packed(some(3))...)
	spare := l[:8]
	spare[4], spare[7] = "p", "q"
	before := slices.Clone(spare)
	one, e := journal.Unpack(l)
	two, f := journal.Unpack(l)
	if e != api.OK || f != api.OK || !slices.Equal(spare, before) {
		t.Fatal("what was handed in has changed, or an error", e, f)
	}
	one[1], l[2] = api.Page{At: 5, Data: "other"}, "other"
	if two[1].At != some(3)[1].At || two[1].Data != full(some(3)[1].Data) {
		t.Error("an answer hangs on another one, or on what was handed in")
	}
}

// P3.4

func TestAHeadThatIsWrittenIsRead(t *testing.T) {
	for _, h := range heads() {
		s := journal.WriteHead(h)
		for _, rest := range []string{"", "\x00", "\xff", s, turned(s), zeros(api.Size - len(s)), strings.Repeat("rest", 100)} {
			isHead(t, "a head with something behind it", s+rest, h)
		}
	}
}

func TestOfTwoHeadsOneIsReadOrNone(t *testing.T) {
	for _, old := range heads() {
		for _, h := range heads() {
			was, is := full(journal.WriteHead(old)), full(journal.WriteHead(h))
			for n := range api.Size + 1 {
				got, ok := journal.ReadHead(is[:n] + was[n:])
				if ok && got != old && got != h || !ok && got != (journal.Head{}) {
					t.Errorf("%+v over %+v, of which %d bytes arrive: %+v, %v", h, old, n, got, ok)
				}
			}
			isHead(t, "a head of which nothing arrives", was, old)
			isHead(t, "a head of which just all of it arrives", is[:40]+was[40:], h)
		}
	}
}

func TestWhatIsPackedIsUnpacked(t *testing.T) {
	for n := range 130 {
		isPages(t, "what was packed", pack(t, some(n)), some(n))
	}
	r := rand.New(rand.NewSource(4))
	for range 100 {
		l := make([]api.Page, r.Intn(api.MaxPages+1))
		for i := range l {
			b := make([]byte, r.Intn(api.Size+1))
			r.Read(b)
			l[i] = api.Page{At: r.Intn(api.MaxBlocks), Data: string(b)}
		}
		b := pack(t, l)
		if !slices.Equal(b, packed(l)) {
			t.Error("by chance: other blocks than the chapter says")
		}
		isPages(t, "what was packed by chance", b, l)
	}
}
