package journal

import (
	"math"
	"strconv"
	"testing"

	"taquin/api"
	"taquin/disk"
)

// P5.1: Open.

// The numbers that are no bases.
var noBases = []int{-1, 15, 16, -2, -16, 1 << 32, -1 << 32, math.MaxInt, math.MinInt}

// row is what stands in the files of a journal.
type row struct {
	about, log, value string
}

// expectOpens checks what the journal with the base 4 has.
func expectOpens(t *testing.T, about string, d *disk.Disk, want ...string) {
	t.Helper()
	j, err := Open(d, 4)
	if err != api.OK || j == nil {
		t.Errorf("%s: %v, error %d", about, j, err)
		return
	}
	expectList(t, about, j, want...)
}

// expectNone checks that no journal with the base 4 can be opened.
func expectNone(t *testing.T, about string, d *disk.Disk, want api.Errno) {
	t.Helper()
	if j, err := Open(d, 4); j != nil || err != want {
		t.Errorf("%s: %v, error %d instead of %d", about, j, err, want)
	}
}

func TestOpenOfEachBase(t *testing.T) {
	for base := range 15 {
		d := disk.New()
		j := open(t, d, base)
		expectList(t, "new files", j)
		appendTo(t, j, "a", "b")
		expectList(t, "opened again", open(t, d, base), "a", "b")
		if contents(d, base) != "1:a,1:b," {
			t.Errorf("the base %d: the log is not there", base)
		}
		expectNoted(t, "the base "+strconv.Itoa(base), d, base, "8;2;")
	}
}

func TestOpenOfWhatIsNoBase(t *testing.T) {
	d := disk.New()
	for f := range 16 {
		expect(t, "Write", d.Write(f, 0, "\x00pending"), api.OK)
	}
	before := d.Copy()
	d.Lose(1)
	d.Arm(1, nil)
	for _, base := range noBases {
		if j, err := Open(d, base); j != nil || err != api.ErrArg {
			t.Errorf("the base %d: %v, error %d", base, j, err)
		}
	}
	d.Arm(0, nil)
	expect(t, "the lost sync", d.Sync(0), api.ErrLost)
	if diff := differ(d, before); diff != "" {
		t.Error(diff)
	}
}

func TestOpenWhileTheMachineIsDown(t *testing.T) {
	d := with(t, 4, "1:a,", "4;1;")
	put(t, d, 6, "1:a,", "malformed")
	expect(t, "Write", d.Write(9, 0, "\x03malformed"), api.OK)
	d.Lose(1)
	d.Crash([]int{1})
	for _, base := range []int{0, 4, 6, 8, 14} {
		if j, err := Open(d, base); j != nil || err != api.ErrDown {
			t.Errorf("the base %d: %v, error %d", base, j, err)
		}
	}
	for _, base := range noBases { // ahead of the error of the disk
		if j, err := Open(d, base); j != nil || err != api.ErrArg {
			t.Errorf("the base %d: %v, error %d", base, j, err)
		}
	}
	d.Start()
	expectNone(t, "the lost sync", d, api.ErrLost)
	expectOpens(t, "after a start", d, "a")
}

func TestOpenOfNewFiles(t *testing.T) {
	d := disk.New()
	for base := range 15 {
		expectList(t, "the base "+strconv.Itoa(base), open(t, d, base))
	}
	for f := range 16 {
		if d.Size(f) != 0 {
			t.Errorf("the file %d is not empty", f)
		}
	}
}

// The list that is not noted is no list.

func TestOpenWithoutAValue(t *testing.T) {
	for _, log := range []string{"", "1:a,", "1:a,2:bc,", "malformed", "\x00\x00", text(500, 1)} {
		for _, file := range []string{"", "\x00", "\x00\x01\x02\x03\x04malformed"} {
			d := with(t, 4, log)
			expect(t, "Write", d.Write(5, 0, file), api.OK)
			expectOpens(t, "no value, the log "+strconv.Quote(log), d)
			j := open(t, d, 4)
			appendTo(t, j, "x")
			expectOpens(t, "after Append", d, "x")
			want := "1:x,"
			if len(log) > len(want) {
				want += log[len(want):]
			}
			if got := contents(d, 4); got != want {
				t.Errorf("the log is %q instead of %q", got, want)
			}
		}
	}
}

func TestOpenOfNoTwoNumbers(t *testing.T) {
	for _, value := range []string{
		"", ";", ";;", "0", "0;", "0;0", "00", "00;", "0;0;0;", "0;0;;", "0;0;x", "0;0; ", "0;0;\n", " 0;0;", "0; 0;", "0;0;\x00",
		"-1;0;", "0;-1;", "-1;-1;", "-0;0;", "0;-0;", "+0;0;", "00;0;", "0;00;", "01;0;", "x;0;", "0;x;", "x", "no number", "0x0;0;",
		"9223372036854775808;0;", "0;9223372036854775808;", "99999999999999999999999;0;", "0:,", "2[0;0;]", "1:0,1:0,", "\x00", "\x00;\x00;",
	} {
		for _, log := range []string{"", "0:,", "malformed"} {
			expectNone(t, strconv.Quote(value), with(t, 4, log, value), api.ErrForm)
		}
	}
	// The same with a log and with numbers that agree, but for what is wrong.
	for _, value := range []string{
		"8;", "8;2", "8;2;;", "8;2;0;", "8;2;8;2;", "8;2;\n", " 8;2;", "08;2;", "8;02;", "+8;2;", "8;+2;", "-8;2;", "8;-2;", "2;8;", "8,2,", "8;;2;", "82;", "8 2 ",
	} {
		expectNone(t, strconv.Quote(value), with(t, 4, "1:a,1:b,", value), api.ErrForm)
	}
	expectOpens(t, "two numbers", with(t, 4, "1:a,1:b,", "8;2;"), "a", "b")
	expectOpens(t, "two numbers 0", with(t, 4, "1:a,1:b,", "0;0;"))
}

func TestOpenWithEachFirstNumber(t *testing.T) {
	log := "1:a,0:,3:b\x00c,"
	for size := range 30 {
		for count := range 6 {
			about := strconv.Itoa(size) + ";" + strconv.Itoa(count) + ";"
			d := with(t, 4, log, about)
			switch about {
			case "0;0;":
				expectOpens(t, about, d)
			case "4;1;":
				expectOpens(t, about, d, "a")
			case "7;2;":
				expectOpens(t, about, d, "a", "")
			case "13;3;":
				expectOpens(t, about, d, "a", "", "b\x00c")
			default:
				expectNone(t, about, d, api.ErrForm)
			}
		}
	}
}

func TestOpenWithGreatNumbers(t *testing.T) {
	greatest := strconv.Itoa(math.MaxInt)
	for _, log := range []string{"", "1:a,", "1:a,1:b,"} {
		for _, value := range []string{
			greatest + ";" + greatest + ";", greatest + ";0;", greatest + ";1;", "0;" + greatest + ";", "4;" + greatest + ";", "8;" + greatest + ";",
			"0;4294967296;", "4;4294967297;", "4294967300;1;", strconv.Itoa(most) + ";1;", strconv.Itoa(most+1) + ";2;", "9223372036854775800;2;",
		} {
			expectNone(t, value, with(t, 4, log, value), api.ErrForm)
		}
	}
}

func TestOpenOfALogThatIsNoForm(t *testing.T) {
	for _, r := range []row{
		{"an empty log", "", "1;1;"},
		{"an empty log", "", "3;1;"},
		{"no string, bytes", "x", "1;0;"},
		{"no form", "malformed", "9;1;"},
		{"no form of that length", "1:a,", "3;1;"},
		{"a number", "1;", "2;1;"},
		{"a list", "1[1:a,]", "7;1;"},
		{"a string without its end", "1:a", "3;1;"},
		{"another end", "1:a;", "4;1;"},
		{"a 0 in front", "01:a,", "5;1;"},
		{"a space in front", " 1:a,", "5;1;"},
		{"a negative length", "-1:a,", "5;1;"},
		{"a length that is too great", "2:a,", "4;1;"},
		{"a length that is no int", "9223372036854775808:a,", "22;1;"},
		{"the greatest length", "9223372036854775807:a,", "22;1;"},
		{"the second one is no string", "1:a,x", "5;2;"},
		{"the second one is no string", "1:a,x", "5;1;"},
		{"the second one is torn", "1:a,1:", "6;2;"},
		{"the second one is torn", "1:a,1:", "6;1;"},
		{"bytes 0", "\x00\x00\x00\x00", "4;1;"},
		{"bytes 0 behind a string", "1:a,\x00\x00", "6;1;"},
		{"bytes 0 behind a string", "1:a,\x00\x00", "6;2;"},
		{"bytes 0 behind a string", "1:a,\x00\x00", "6;3;"},
		{"a LF between strings", "1:a,\n1:b,", "9;2;"},
	} {
		expectNone(t, r.about, with(t, 4, r.log, r.value), api.ErrForm)
	}
}

func TestOpenOfALogThatGoesOn(t *testing.T) {
	for _, more := range []string{"", "1:x,", "x", "\x00", ",", "1:", text(1000, 1)} {
		about := "more: " + strconv.Quote(more[:min(len(more), 9)])
		expectOpens(t, about, with(t, 4, "1:a,2:bc,"+more, "9;2;"), "a", "bc")
		expectOpens(t, about, with(t, 4, "1:a,2:bc,"+more, "4;1;"), "a")
		expectOpens(t, about, with(t, 4, "1:a,2:bc,"+more, "0;0;"))
	}
}

func TestOpenOfACellThatIsMalformed(t *testing.T) {
	for _, file := range []string{"\x01", "\x03", "\x01\x01\x00\x00\x00", "\x03\x00\x00\x00\x00", "\x02\x01\x00\x01\x00", "malformed"} {
		d := with(t, 4, "1:a,")
		expect(t, "Write", d.Write(5, 0, file), api.OK)
		expectNone(t, strconv.Quote(file), d, api.ErrForm)
	}
}

// A form of more than Max bytes can be opened; only Append has a limit.
func TestOpenOfAListThatIsTooLong(t *testing.T) {
	l := []string{"a", text(Max, 1), "b"}
	d := with(t, 4, encoded(l...), numbers(l...))
	j := open(t, d, 4)
	expectList(t, "Open", j, l...)
	for _, s := range [][]string{{""}, {"x"}, {"", ""}} {
		expect(t, "Append", j.Append(s), api.ErrFull)
	}
	expect(t, "Append()", j.Append(nil), api.OK)
	expect(t, "Cut(3)", j.Cut(3), api.OK)
	cut(t, j, 2)
	expect(t, "Append", j.Append([]string{""}), api.ErrFull)
	cut(t, j, 1)
	appendTo(t, j, "x")
	expectOpens(t, "opened again", d, "a", "x")
}

// The calls of the disk.

func TestOpenMakesTwoSyncs(t *testing.T) {
	for _, r := range []row{
		{"no strings", "", "0;0;"},
		{"two strings", "1:a,1:b,", "8;2;"},
		{"a value that is malformed", "1:a,1:b,", "8"},
		{"a log that is malformed", "x", "1;1;"},
	} {
		for n := 1; n <= 3; n++ {
			d := with(t, 4, r.log, r.value)
			d.Arm(n, nil)
			_, err := Open(d, 4)
			if (err == api.ErrDown) != (n < 3) {
				t.Errorf("%s: a crash at the call %d: error %d", r.about, n, err)
			}
			expect(t, "the call after those of Open", d.Sync(0), api.ErrDown)
		}
	}
}

// With a crash at the second Sync, what was pending in the log is durable, and what was pending in the cell is not.
func TestOpenSyncsTheLogFirst(t *testing.T) {
	for n, want := range []string{1: "", 2: "log"} {
		d := disk.New()
		for _, f := range []int{3, 4, 5, 6} {
			expect(t, "Write", d.Write(f, 0, "log"), api.OK)
		}
		d.Arm(n, nil)
		if n > 0 {
			expectNone(t, "Open", d, api.ErrDown)
		}
		d.Crash(nil)
		if got := contents(d, 4); got != want {
			t.Errorf("a crash at the call %d: the log is %q", n, got)
		}
		if d.Size(3)+d.Size(5)+d.Size(6) != 0 {
			t.Errorf("a crash at the call %d: other files are durable", n)
		}
	}
}

func TestOpenMakesDurableWhatIsThere(t *testing.T) {
	for _, keep := range keeps {
		d := disk.New()
		log := encoded(text(200, 1), "b")
		expect(t, "Write", d.Write(4, 0, log), api.OK)
		expect(t, "Write", d.Write(5, 64, numbers(text(200, 1), "b")), api.OK)
		expect(t, "Write", d.Write(5, 0, "\x01\x06\x00\x00\x00"), api.OK)
		expectOpens(t, "pending", d, text(200, 1), "b")
		d.Crash(keep)
		d.Start()
		expectOpens(t, "after a crash", d, text(200, 1), "b")
	}
}

func TestOpenWithALostSync(t *testing.T) {
	for _, r := range []row{
		{"no strings", "", "0;0;"},
		{"two strings", "1:a,1:b,", "8;2;"},
		{"a value that is malformed", "1:a,1:b,", "8"},
		{"a log that is malformed", "x", "1;1;"},
	} {
		d := with(t, 4, r.log, r.value)
		expect(t, "Write", d.Write(4, 100, "pending"), api.OK)
		before := d.Copy()
		for lost := 3; lost > 0; lost-- {
			d.Lose(lost)
			before.Lose(lost)
			expect(t, "Sync", before.Sync(4), api.ErrLost)
			expectNone(t, r.about, d, api.ErrLost)
			if diff := differ(d, before); diff != "" {
				t.Errorf("%s: %s", r.about, diff)
			}
		}
		_, err := Open(d, 4)
		if err == api.ErrLost {
			t.Errorf("%s: no sync was lost", r.about)
		}
	}
}

func TestOpenChangesNoBytes(t *testing.T) {
	for _, r := range []row{
		{"no strings", "", "0;0;"},
		{"two strings, and more", "1:a,1:b,malformed", "8;2;"},
		{"an empty value", "1:a,", ""},
		{"a value that is malformed", "1:a,1:b,", "8"},
		{"a log that is malformed", "x", "1;1;"},
		{"a log that is too short", "1:a,", "8;2;"},
	} {
		d := with(t, 4, r.log, r.value)
		before := d.Copy()
		for range 3 {
			Open(d, 4)
			if diff := differ(d, before); diff != "" {
				t.Errorf("%s: %s", r.about, diff)
			}
		}
	}
}
