package auth_test

import (
	"slices"
	"strings"
	"testing"

	"tabulary/api"
	"tabulary/auth"
)

// P9.1: requests that are cut anywhere, or go on, are ErrForm.
func TestCutOrGoingOn(t *testing.T) {
	g := open(t, 1)
	for _, p := range [][]byte{
		auth.None("pass"),
		auth.Password("pass", "secret"),
		auth.Password("pass", ""),
		auth.Ask("key", pubOf(aSeed)),
		auth.Ask("key", pubOf(bSeed)),
		proof(session, "key", aSeed),
		proof("another session", "key", aSeed),
	} {
		for n := range p {
			errs(t, g, p[:n], api.ErrForm)
		}
		for _, more := range []string{"\x00", "\x01", text(""), text("x")} {
			errs(t, g, append(slices.Clone(p), more...), api.ErrForm)
		}
		errs(t, g, p[1:], api.ErrForm)
	}
	isUser(t, g, "")
	takes(t, g, auth.None("pass"), fails) // no try is gone
}

// P9.1: another message, and the messages that a gate says itself.
func TestOtherMessages(t *testing.T) {
	g := open(t, 1)
	for _, p := range [][]byte{auth.Password("pass", "secret"), auth.None("pass"), conn("pass", "x", "")} {
		for message := range 256 {
			if message != auth.MsgRequest {
				errs(t, g, append([]byte{byte(message)}, p[1:]...), api.ErrForm)
			}
		}
	}
	for _, s := range []string{"", accepts, fails, succeeds, fits(pubOf(aSeed)), "\x05", "\x32", "\x32\xff\xff\xff\xff"} {
		errs(t, g, []byte(s), api.ErrForm)
	}
	isUser(t, g, "")
}

// P9.1: a service but "ssh-connection" is ErrForm, whatever the method.
func TestOtherServicesInRequests(t *testing.T) {
	g := open(t, 1)
	for _, service := range []string{"", "ssh-userauth", "ssh-connectio", "ssh-connection2", "SSH-connection"} {
		errs(t, g, req("pass", service, "password", "\x00"+text("secret")), api.ErrForm)
		errs(t, g, req("pass", service, "none", ""), api.ErrForm)
		errs(t, g, req("key", service, "publickey", "\x00"+text("ssh-ed25519")+text(told(pubOf(aSeed)))), api.ErrForm)
		errs(t, g, req("pass", service, "x", ""), api.ErrForm)
		errs(t, g, req("pass", service, "", "xyz"), api.ErrForm)
	}
}

// P9.1: a password with its flag set is ErrForm, as any byte that isn't 0, with
// a new password behind it or without.
func TestPasswordWithItsFlag(t *testing.T) {
	g := open(t, 1)
	for flag := range 256 {
		if flag == 0 {
			continue
		}
		for _, pass := range []string{"secret", "wrong", ""} {
			errs(t, g, byPassword("pass", string([]byte{byte(flag)}), pass), api.ErrForm)
			errs(t, g, byPassword("pass", string([]byte{byte(flag)}), pass+text("new")), api.ErrForm)
			errs(t, g, conn("pass", "password", string([]byte{byte(flag)})+text(pass)+text("new")), api.ErrForm)
		}
	}
	errs(t, g, conn("pass", "password", "\x00"+text("secret")+text("new")), api.ErrForm)
	takes(t, g, byPassword("pass", "\x00", "secret"), succeeds)
}

// P9.1: of another method whatever stands behind it: a try is gone.
func TestOtherMethods(t *testing.T) {
	for _, method := range []string{"", "x", "hostbased", "keyboard-interactive", "None", "none2", "non", "password ", "Password", "publickey\x00", "public"} {
		for _, behind := range []string{"", "\x00", "\x01", "\xff\xff\xff\xff", "\x00" + text("secret"), text("x"), strings.Repeat("x", 20000)} {
			g := open(t, 2)
			takes(t, g, conn("pass", method, behind), fails)
			errs(t, g, conn("pass", method, behind), api.ErrOver)
			isUser(t, g, "")
		}
	}
}

// P9.1: texts of MaxMessage bytes can be read, longer ones can't.
func TestLongTexts(t *testing.T) {
	most, more := strings.Repeat("x", api.MaxMessage), strings.Repeat("x", api.MaxMessage+1)
	for _, c := range []struct{ right, wrong []byte }{
		{auth.None(most), auth.None(more)},
		{auth.Password("pass", most), auth.Password("pass", more)},
		{conn("pass", most, ""), conn("pass", more, "")},
		{byKey("key", "\x00", most, "", ""), byKey("key", "\x00", more, "", "")},
		{byKey("key", "\x00", "", most, ""), byKey("key", "\x00", "", more, "")},
		{byKey("key", "\x01", "", "", text(most)), byKey("key", "\x01", "", "", text(more))},
	} {
		g := open(t, 10)
		takes(t, g, c.right, fails)
		errs(t, g, c.wrong, api.ErrForm)
	}
	g := auth.New([]api.User{{Name: most, Password: most}, {Name: more, Password: "x"}}, nil, 1)
	takes(t, g, auth.Service("ssh-userauth"), accepts)
	errs(t, g, auth.Password(more, "x"), api.ErrForm)
	takes(t, g, auth.Password(most, most), succeeds)
	isUser(t, g, most)
}

// P9.2: passwords that aren't theirs.
func TestOtherPasswords(t *testing.T) {
	for _, pass := range []string{"", "s", "secre", "secret ", " secret", "Secret", "secret\x00", "secretsecret", "other secret", "xecret", "secrex"} {
		g := open(t, 2)
		takes(t, g, auth.Password("pass", pass), fails)
		errs(t, g, auth.Password("pass", pass), api.ErrOver)
		isUser(t, g, "")
	}
	g := open(t, 10)
	takes(t, g, auth.Password("both", "secret"), fails)
	takes(t, g, auth.Password("key", pubOf(aSeed)), fails)
	takes(t, g, auth.Password("key", aSeed), fails)
	isUser(t, g, "")
}

// P9.1: a key that isn't theirs doesn't fit: another user's, another algorithm,
// another blob. Such a question costs a try.
func TestOtherKeys(t *testing.T) {
	a, b := pubOf(aSeed), pubOf(bSeed)
	for _, p := range [][]byte{
		auth.Ask("key", b),
		auth.Ask("both", a),
		auth.Ask("pass", a),
		auth.Ask("nobody", a),
		auth.Ask("", a),
		auth.Ask("key", ""),
		auth.Ask("key", a[1:]),
		auth.Ask("key", a+"x"),
		auth.Ask("key", aSeed),
		byKey("key", "\x00", "", told(a), ""),
		byKey("key", "\x00", "ssh-rsa", told(a), ""),
		byKey("key", "\x00", "ssh-ed2551", told(a), ""),
		byKey("key", "\x00", "ssh-ed25519 ", told(a), ""),
		byKey("key", "\x00", "SSH-ED25519", told(a), ""),
		byKey("key", "\x00", "ssh-ed25519", "", ""),
		byKey("key", "\x00", "ssh-ed25519", a, ""),
		byKey("key", "\x00", "ssh-ed25519", text(a), ""),
		byKey("key", "\x00", "ssh-ed25519", told(a)+"x", ""),
		byKey("key", "\x00", "ssh-ed25519", told(a)[:50], ""),
		byKey("key", "\x00", "ssh-ed25519", text("ssh-rsa")+text(a), ""),
		byKey("key", "\x00", "ssh-rsa", text("ssh-rsa")+text(a), ""),
	} {
		g := open(t, 2)
		takes(t, g, p, fails)
		errs(t, g, p, api.ErrOver)
	}
}

// P9.1: each bit of a blob counts.
func TestEachBitOfABlob(t *testing.T) {
	blob := told(pubOf(aSeed))
	g := open(t, 1000)
	for i := range blob {
		for bit := range 8 {
			other := []byte(blob)
			other[i] ^= 1 << bit
			takes(t, g, byKey("key", "\x00", "ssh-ed25519", string(other), ""), fails)
		}
	}
	takes(t, g, auth.Ask("key", pubOf(aSeed)), fits(pubOf(aSeed)))
}

// P9.1: a signature may be anything that is a text; one that isn't right costs a
// try, with a key that is theirs too.
func TestOtherSignatures(t *testing.T) {
	pub := pubOf(aSeed)
	right := sigOf(aSeed, signed(session, "key", pub))
	zeros := strings.Repeat("\x00", 64)
	for _, sig := range []string{
		"", "x", right, text(right), told(""), told(right[1:]), told(right + "x"), told(right) + "x", told(zeros), zeros,
		text("ssh-rsa") + text(right), text("") + text(right), text("ssh-ed25519") + right, text(told(right)),
		told(right)[:82], told(right[32:] + right[:32]), strings.Repeat("x", 1000),
	} {
		p := byKey("key", "\x01", "ssh-ed25519", told(pub), text(sig))
		g := open(t, 2)
		takes(t, g, p, fails)
		errs(t, g, p, api.ErrOver)
		isUser(t, g, "")
	}
}

// P9.2: a signature of another session, user, service, method, algorithm, blob
// or flag, or by another seed, or of less or more, is none.
func TestSignaturesOfOthers(t *testing.T) {
	pub := pubOf(aSeed)
	body := string(byKey("key", "\x01", "ssh-ed25519", told(pub), ""))
	right := text(session) + body
	with := func(seed, s string) []byte {
		return byKey("key", "\x01", "ssh-ed25519", told(pub), text(told(sigOf(seed, s))))
	}
	g := open(t, 1000)
	for _, s := range []string{
		"",
		body,
		session + body,
		text(session),
		text("") + body,
		text(session+"x") + body,
		text(session[1:]) + body,
		text("The session") + body,
		right + "x",
		right[:len(right)-1],
		right + text(""),
		signed(session, "both", pub),
		signed(session, "", pub),
		signed(session, "key", pubOf(bSeed)),
		text(session) + string(req("key", "ssh-userauth", "publickey", "\x01"+text("ssh-ed25519")+text(told(pub)))),
		text(session) + string(conn("key", "password", "\x01"+text("ssh-ed25519")+text(told(pub)))),
		text(session) + string(byKey("key", "\x01", "ssh-rsa", told(pub), "")),
		text(session) + string(byKey("key", "\x00", "ssh-ed25519", told(pub), "")),
		text(session) + string(byKey("key", "\x02", "ssh-ed25519", told(pub), "")),
		text(session) + string(byKey("key", "\x01", "ssh-ed25519", pub, "")),
		text(session) + "\x33" + body[1:],
	} {
		takes(t, g, with(aSeed, s), fails)
	}
	takes(t, g, with(bSeed, right), fails)
	takes(t, g, proof(session, "both", aSeed), fails)
	takes(t, g, proof(session, "key", bSeed), fails)
	takes(t, g, proof(session, "nobody", aSeed), fails)
	isUser(t, g, "")
	takes(t, g, with(aSeed, right), succeeds)
}

// P9.2: each byte of what is signed, and of the signature, counts.
func TestEachByteOfASignature(t *testing.T) {
	p := proof(session, "key", aSeed)
	g := open(t, 100000)
	for i := range p {
		other := slices.Clone(p)
		other[i] ^= 1 << (i % 8)
		if i == len(conn("key", "publickey", "")) {
			continue // the flag
		}
		if got, e := g.Take(other); e != api.ErrForm && string(got) != fails {
			t.Fatalf("byte %d: %q, %d", i, got, e)
		}
	}
	isUser(t, g, "")
	takes(t, g, p, succeeds)
}

// P9.1: a flag that is set may be any byte but 0; what is signed has it as 1.
func TestAnyFlag(t *testing.T) {
	pub := pubOf(aSeed)
	sig := text(told(sigOf(aSeed, signed(session, "key", pub))))
	for _, flag := range []string{"\x01", "\x02", "\x80", "\xff"} {
		g := open(t, 1)
		errs(t, g, byKey("key", flag, "ssh-ed25519", told(pub), ""), api.ErrForm)
		takes(t, g, byKey("key", flag, "ssh-ed25519", told(pub), sig), succeeds)
		isUser(t, g, "key")
	}
	g := open(t, 1)
	errs(t, g, byKey("key", "\x00", "ssh-ed25519", told(pub), sig), api.ErrForm)
	takes(t, g, byKey("key", "\x00", "ssh-ed25519", told(pub), ""), fits(pub))
}

// P9.1: a signed request that names another algorithm is a request, but nobody's.
func TestSignedWithAnotherAlgorithm(t *testing.T) {
	pub := pubOf(aSeed)
	for _, algorithm := range []string{"", "ssh-rsa", "ssh-ed25519 ", "rsa-sha2-256"} {
		body := string(byKey("key", "\x01", algorithm, told(pub), ""))
		for _, s := range []string{text(session) + body, signed(session, "key", pub)} {
			g := open(t, 2)
			takes(t, g, []byte(body+text(told(sigOf(aSeed, s)))), fails)
			errs(t, g, []byte(body+text(text(algorithm)+text(sigOf(aSeed, s)))), api.ErrOver)
			isUser(t, g, "")
		}
	}
}

// P9.1: a user's Key of another length is a key that nobody can sign by.
func TestKeysOfOtherLengths(t *testing.T) {
	for _, key := range []string{"x", pubOf(aSeed)[1:], pubOf(aSeed) + "x", strings.Repeat("k", 64)} {
		g := auth.New([]api.User{{Name: "key", Key: key}}, []byte(session), 2)
		takes(t, g, auth.Service("ssh-userauth"), accepts)
		takes(t, g, auth.Ask("key", key), fits(key))
		sig := text(told(sigOf(aSeed, signed(session, "key", key))))
		takes(t, g, byKey("key", "\x01", "ssh-ed25519", told(key), sig), fails)
		errs(t, g, proof(session, "key", aSeed), api.ErrOver)
		isUser(t, g, "")
	}
}
