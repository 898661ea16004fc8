package xml_test

import (
	"slices"
	"strconv"
	"strings"
	"testing"

	"tabulary/api"
)

// deep answers n elements, each in the one ahead, around a text.
func deep(n int, s string) string {
	return strings.Repeat("<a>", n) + s + strings.Repeat("</a>", n)
}

// P13.1: an element stands in 15 others at most, whatever it is.
func TestDepth(t *testing.T) {
	want := saying(el("a"), "x")
	for range 15 {
		want = with(el("a"), want)
	}
	reads(t, deep(16, "x"), want)
	reads(t, deep(15, "<a>x</a>"), want)
	for _, s := range []string{"", "<!-- <b> -->", "<![CDATA[]]>", "</a><a>"} {
		if e := agrees(t, deep(16, s)); e != api.OK {
			t.Error(s, e)
		}
	}
	for _, s := range []string{"<a/>", "<a></a>", "<", "<>", "<1", "<p:a/>", "<?x?>", "<!", "<!-", "<!- -->", "<!DOCTYPE", "<![CDATA", "<![cdata[", "< /a>", "<<", "<&x;", "<a x='1' x='1'/>", "x<a/>", "<!-- --> <a/>", "<![CDATA[x]]><"} {
		refuses(t, deep(16, s), api.ErrDeep)
		refuses(t, strings.Repeat("<a>", 16)+s, api.ErrDeep)
		refuses(t, deep(15, "<a/><a>x</a><a>"+s), api.ErrDeep)
		agrees(t, deep(16, s))
		if e := agrees(t, deep(15, s)); e == api.ErrDeep {
			t.Error(s, e)
		}
	}
	for _, s := range []string{"</", "</b>", "</ a>", "<!--", "<!-- -- --><a/>", "<!---><a/>", "<![CDATA[<a/>", "&x;<a/>", "&<a/>", "x", "<!-- <a/>"} {
		refuses(t, strings.Repeat("<a>", 16)+s, api.ErrForm)
	}
	for _, n := range []int{17, 18, 40, 2000} {
		refuses(t, deep(n, ""), api.ErrDeep)
	}
}

// P13.1: an element has 256 others at most; what stands in these has its own.
func TestKids(t *testing.T) {
	for as, kid := range map[string]api.Elem{
		"<b/>":             el("b"),
		"<b></b>":          el("b"),
		" <b\n/>":          el("b"),
		"<b>x</b>":         saying(el("b"), "x"),
		"<!-- --><b/>":     el("b"),
		"<b><c/></b>":      with(el("b"), el("c")),
		"<b x=''/>":        el("b", "x", ""),
		"<![CDATA[]]><b/>": el("b"),
	} {
		l := slices.Repeat([]api.Elem{kid}, 256)
		reads(t, "<a>"+strings.Repeat(as, 256)+"</a>", with(el("a"), l...))
		reads(t, "<a>"+strings.Repeat(as, 256)+" <!-- --></a>", with(el("a"), l...))
		for _, behind := range []string{"", "</a>", "</b>", "<", "x", "&x;", "<b", strings.Repeat(as, 200), "<![CDATA["} {
			refuses(t, "<a>"+strings.Repeat(as, 257)+behind, api.ErrLen)
			refuses(t, "<a><a>"+strings.Repeat(as, 257)+behind, api.ErrLen)
			agrees(t, "<a>"+strings.Repeat(as, 257)+behind)
		}
	}
	full := "<a>" + strings.Repeat("<b/>", 256) + "</a>"
	if e := agrees(t, "<a>"+strings.Repeat(full, 14)+"</a>"); e != api.OK {
		t.Error(e)
	}
	refuses(t, "<a>"+full+"<c>"+strings.Repeat("<b/>", 257)+"</c></a>", api.ErrLen)
}

// P13.1: the error that is told is the one that comes first, and the one of an
// element that is one too many comes behind it.
func TestFirstError(t *testing.T) {
	many := "<a>" + strings.Repeat("<b/>", 256)
	tooDeep := strings.Repeat("<a>", 17)
	for s, want := range map[string]api.Errno{
		many + "<b>":                               api.ErrForm,
		many + "<b":                                api.ErrForm,
		many + "<p:b/>":                            api.ErrForm,
		many + "<b x='1' x='2'/>":                  api.ErrForm,
		many + "<b>&x;</b>":                        api.ErrForm,
		many + "<b></c>":                           api.ErrForm,
		many + "<b>x<c/></b>":                      api.ErrForm,
		many + "<b><c/></b>":                       api.ErrLen,
		many + "<?x?>":                             api.ErrForm,
		many + "</":                                api.ErrForm,
		many + "x</a>":                             api.ErrForm,
		many + "x<b/></a>":                         api.ErrLen,
		many + tooDeep:                             api.ErrDeep,
		many + "<!-- " + tooDeep:                   api.ErrForm,
		"x" + many + "<b/>":                        api.ErrForm,
		many + "<b/>" + tooDeep:                    api.ErrLen,
		tooDeep + many + "<b/>":                    api.ErrDeep,
		"<a>x" + tooDeep:                           api.ErrDeep,
		"<a>x<b/>" + tooDeep:                       api.ErrDeep,
		"<a>x<b/></a>" + tooDeep:                   api.ErrForm,
		"<a><c>x<b/></c>" + tooDeep:                api.ErrForm,
		"<a><p:c/>" + tooDeep:                      api.ErrForm,
		"<p:a>" + tooDeep:                          api.ErrForm,
		"<a x='1' x='2'>" + tooDeep:                api.ErrForm,
		"<a>&x;" + tooDeep:                         api.ErrForm,
		"<a>&lt" + tooDeep:                         api.ErrForm,
		"<a><b></c>" + tooDeep:                     api.ErrForm,
		"<a/>" + tooDeep:                           api.ErrForm,
		"x" + tooDeep:                              api.ErrForm,
		"<?xml >?>" + tooDeep:                      api.ErrForm,
		tooDeep + "\x80":                           api.ErrForm, // other signs come ahead of all else
		many + "<b/>\x00":                          api.ErrForm,
		tooDeep + strings.Repeat(" ", 16333):       api.ErrDeep,
		tooDeep + strings.Repeat(" ", 16334):       api.ErrLen,
		"\x80" + strings.Repeat(" ", 16383):        api.ErrForm,
		"\x80" + strings.Repeat(" ", 16384):        api.ErrLen,
		strings.Repeat("\xff", 16384):              api.ErrForm,
		strings.Repeat("\xff", 16385):              api.ErrLen,
		strings.Repeat("x", 1<<20):                 api.ErrLen,
		many + "<b/>" + strings.Repeat("x", 16384): api.ErrLen,
	} {
		refuses(t, s, want)
		agrees(t, s)
	}
}

// P13.1: a document has 16384 bytes at most.
func TestLength(t *testing.T) {
	for _, cut := range [][2]string{{"<a>", "</a>"}, {"<a x='", "'/>"}, {"<!--", "--><a/>"}, {"<a><![CDATA[", "]]></a>"}, {"<a", "/>"}, {"<a/>", ""}, {"", "<a/>"}} {
		n := 16384 - len(cut[0]+cut[1])
		if e := agrees(t, cut[0]+strings.Repeat(" ", n)+cut[1]); e != api.OK {
			t.Error(cut, e)
		}
		refuses(t, cut[0]+strings.Repeat(" ", n+1)+cut[1], api.ErrLen)
	}
	long := strings.Repeat("x", 16384-7)
	reads(t, "<a>"+long+"</a>", saying(el("a"), long))
	refuses(t, "<a>"+long+"x</a>", api.ErrLen)
}

// attrs answers n attributes as they are written.
func attrs(ahead string, n int) string {
	var b strings.Builder
	for i := range n {
		b.WriteString(" " + ahead + "x" + strconv.Itoa(i) + "='1'")
	}
	return b.String()
}

// P13.1: a tag has 32 attributes at most, with those that say a namespace.
func TestManyAttributes(t *testing.T) {
	for _, c := range [][2]string{{"", attrs("", 32)}, {" xmlns='u'", attrs("", 31)}, {" xmlns:p='u'", attrs("p:", 31)}, {" xmlns='u' xmlns:p='v'", attrs("", 30)}, {"", attrs("xmlns:", 32)}, {" xmlns='u'", attrs("xmlns:", 31)}} {
		for _, all := range []string{c[0] + c[1], c[1] + c[0]} {
			for _, end := range []string{"/>", " />", "></a>"} {
				if e := agrees(t, "<a"+all+end); e != api.OK {
					t.Error(all, e)
				}
				for _, more := range []string{" y='1'", " xmlns:y='u'", "\ny=''"} {
					refuses(t, "<a"+all+more+end, api.ErrForm)
					refuses(t, "<a"+more+all+end, api.ErrForm)
					refuses(t, "<b><a"+more+all+end+"</b>", api.ErrForm)
					agrees(t, "<a"+all+more+end)
				}
			}
		}
	}
	if e := agrees(t, "<a"+attrs("", 32)+"><b"+attrs("", 32)+"/></a>"); e != api.OK {
		t.Error(e)
	}
}

// P13.1: names and prefixes of 32 signs, and of more.
func TestLongNames(t *testing.T) {
	n := strings.Repeat("n", 32)
	p := strings.Repeat("p", 32)
	reads(t, "<"+p+":"+n+" xmlns:"+p+"='u' "+p+":"+n+"='1'></"+p+":"+n+">", of("u", el(n, n, "1")))
	for _, s := range []string{"<~n/>", "<~n></~n>", "<a ~n='1'/>", "<a xmlns:p='u' p:~n='1'/>", "<a xmlns:~n='u'/>", "<p:~n xmlns:p='u'/>", "<~n:a xmlns:~n='u'/>", "<a xmlns:~n='u' ~n:x='1'/>"} {
		ok := strings.ReplaceAll(s, "~n", n)
		if e := agrees(t, ok); e != api.OK {
			t.Error(ok, e)
		}
		for _, longer := range []string{n + "n", n + "-", n + n, strings.Repeat("n", 3000)} {
			refuses(t, strings.ReplaceAll(s, "~n", longer), api.ErrForm)
		}
	}
}
